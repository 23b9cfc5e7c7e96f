/-
  The contracts of sha.All and sha.Sum.
-/
import Derived.Test.YtdkajbhhmgmohaaDoorStSum
namespace Go.Proofs.YtdkajbhhmgmohaaDoor
open Go.RowKit Sha

/-- A slice value reads as these bytes. -/
def SlW (w : World) (v : Value) (bs : List UInt8) : Prop :=
  (∃ g o cap, v = .slice (some ⟨g, o, none⟩) bs.length cap ∧ bs.length ≤ cap ∧ BytesAt w g o bs) ∨ (∃ p, v = .slice p 0 0 ∧ bs = [])
theorem SlW.toB {w : World} {v : Value} {bs : List UInt8} (h : SlW w v bs) {gs : Nat} (hg : w.heap.size ≤ gs) : SlB gs w v bs := by
  rcases h with ⟨g, o, cap, h1, h2, h3⟩ | h
  · exact .inl ⟨g, o, cap, h1, h2, fun h0 => by have := h3.lt h0; omega, h3⟩
  · exact .inr h
theorem SlW.below {w w' : World} {v : Value} {bs : List UInt8} (h : SlW w v bs) {B : Nat} (hb : Below B w w') (hB : w.heap.size ≤ B) : SlW w' v bs := by
  rcases h with ⟨g, o, cap, h1, h2, h3⟩ | h
  · refine .inl ⟨g, o, cap, h1, h2, ?_⟩
    intro i hi
    have h0 := h3.lt (by omega)
    rw [hb.cell (p := ⟨g, o + i, none⟩) (by show g < B; omega)]; exact h3 i hi
  · exact .inr h
/-- Parts: slice values, each with the bytes that it reads as. -/
def PAt (w : World) (v : Value) (l : List (Value × List UInt8)) : Prop :=
  (∃ gp op cap, v = .slice (some ⟨gp, op, none⟩) l.length cap ∧ ∀ i x, l[i]? = some x → w.cell? ⟨gp, op + i, none⟩ = some x.1 ∧ SlW w x.1 x.2) ∨ (v = .slice none 0 0 ∧ l = [])
def cat (l : List (Value × List UInt8)) : List UInt8 := (l.map (·.2)).flatten
theorem cat_take_succ (l : List (Value × List UInt8)) (k : Nat) (x : Value × List UInt8) (hx : l[k]? = some x) : cat (l.take (k + 1)) = cat (l.take k) ++ x.2 := by
  rw [List.take_add_one, hx]; simp [cat]
theorem cat_take_le (l : List (Value × List UInt8)) (k : Nat) : (cat (l.take k)).length ≤ (cat l).length := by
  have : cat l = cat (l.take k) ++ cat (l.drop k) := by
    unfold cat; rw [← List.flatten_append, ← List.map_append, List.take_append_drop]
  rw [this, List.length_append]; omega
theorem cat_take_le' (l : List (Value × List UInt8)) (k : Nat) (x : Value × List UInt8) (hx : l[k]? = some x) : (cat (l.take k)).length + x.2.length ≤ (cat l).length := by
  have := cat_take_le l (k + 1); rw [cat_take_succ l k x hx] at this; simpa using this

theorem stAt_new (w : World) (g : Nat) (h : w.heap[g]? = some (.cells (stc true h0 (List.replicate 64 0) 0) 55 (0, 0))) : StAt g 55 w [] :=
  ⟨h0, _, ⟨by simp, rfl, by simp⟩, h⟩

def AllRel (B : Nat) (w2 : World) (l : List (Value × List UInt8)) (v : Value) (wr : World) : Prop :=
  ∃ k : Nat, k ≤ l.length ∧ v = .int .i64 k ∧ StAt (B + 1) 55 wr (cat (l.take k)) ∧ Only (B + 1) w2 wr

set_option maxRecDepth 100000 in
set_option maxHeartbeats 400000 in
theorem all_walk (w : World) (v : Value) (l : List (Value × List UInt8)) (hv : PAt w v l) (hK : KAt w) (hH : HAt w) (hlen : (cat l).length ≤ 549755813888) (hll : l.length ≤ 1099511627776) :
    Calls Tryd.prog 22 #[v] w (SumPost (cat l) w) := by
  have hvl : ∃ p cap, v = .slice p l.length cap := by
    rcases hv with ⟨g, o, cap, rfl, _⟩ | ⟨rfl, rfl⟩
    · exact ⟨_, _, rfl⟩
    · exact ⟨_, _, rfl⟩
  obtain ⟨p, cap, rfl⟩ := hvl
  have HV := Lib.hid hv
  clear hv
  have hK2 : 2 < w.heap.size := block_lt_of_cell (hK 0 (by omega))
  go_enter Tryd.func22, Tryd.ntmps22
  go_wp2_with fail
  refine (new_walk _ ?_).mono ?_
  · intro j u hj; rw [World.cell?_of_block (w := w) (Below.heap_alloc _ _ _ (by show 0 < w.heap.size; omega))]; exact hH j u hj
  rintro e w1 ⟨rfl, hw1⟩
  have hb1 : Below w.heap.size w w1 := by rw [hw1]; exact ((Below.refl _ _).alloc (Nat.le_refl _) _).alloc (by simp) _
  have hs1 : w1.heap[w.heap.size + 1]? = some (.cells (stc true h0 (List.replicate 64 0) 0) 55 (0, 0)) := by rw [hw1]; exact heap_alloc2_new _ _ _
  have hr1 : RowT 25 w1 w.heap.size (List.replicate 32 0) := by rw [hw1]; exact heap_alloc2_old _ _ _
  have hz1 : w1.heap.size = w.heap.size + 2 := by rw [hw1]; simp
  have hst1 := stAt_new _ _ hs1
  have HS1 := Lib.hid hz1
  clear hw1 hs1 hz1
  generalize hll' : l.length = n at *
  have HN := Lib.hid hll'
  clear hll'
  rw [show (w.alloc (Obj.cells _ 25)).heap.size = w.heap.size + 1 from by simp]
  go_wp2_with fail
  go_loopw [9] (fun v wr => AllRel w.heap.size w1 l v wr) (fun v _ => n - (intOf v).toNat)
  case atStart => exact ⟨0, by omega, rfl, hst1, Only.refl _ _⟩
  case round =>
    obtain ⟨k, hk, rfl, hst, ho⟩ := hrel
    have hbel : Below w.heap.size w wr := hb1.trans (Below.of_only ho (Nat.le_succ _) hb1.size)
    have hKr : KAt wr := fun i hi => by rw [hbel.cell (p := ⟨2, i, none⟩) hK2]; exact hK i hi
    by_cases hlt : k < n
    · obtain ⟨gp, op, cap', e1, h2⟩ | ⟨e1, e2⟩ := HV.out
      rotate_left
      · have := HN.out; rw [e2] at this; simp at this; omega
      · obtain ⟨rfl, e3, rfl⟩ : p = some ⟨gp, op, none⟩ ∧ n = l.length ∧ cap = cap' := by simpa using e1
        obtain ⟨x, hx⟩ : ∃ x, l[k]? = some x := ⟨l[k]'(by omega), List.getElem?_eq_getElem _⟩
        obtain ⟨hc, hsl⟩ := h2 k x hx
        have hcr : wr.cell? ⟨gp, op + k, none⟩ = some x.1 := by rw [hbel.cell (p := ⟨gp, op + k, none⟩) (block_lt_of_cell hc)]; exact hc
        have hslr : SlB (w.heap.size + 1) wr x.1 x.2 := (hsl.below hb1 (Nat.le_refl _)).elim
            (fun ⟨g, o, cp, a1, a2, a3⟩ => SlB.only (.inl ⟨g, o, cp, a1, a2, fun h0 => by
              rcases hsl with ⟨g', o', cp', b1, b2, b3⟩ | ⟨p', b1, b2⟩
              · have hl' := b3.lt h0
                rw [b1] at a1
                have : g' = g := by simp at a1; exact a1.1.1
                omega
              · rw [b2] at h0; simp at h0, a3⟩) ho)
            (fun h => .inr h)
        have HX := Lib.hid hx
        have hlx := cat_take_le' l k x hx
        have HSL := Lib.hid hslr
        have hki : (k : Int) < (n : Int) := by omega
        clear e1 e3 h2 hx hc hsl hslr
        obtain ⟨xv, xb⟩ := x
        simp only at hcr HSL hlx
        go_wp2_with fail
        refine (take_walk (w.heap.size + 1) 55 _ _ _ _ HSL.out hst hKr (by omega) (by omega)).mono ?_
        rintro e w5 ⟨rfl, ho5, hst5⟩
        go_wp2_with fail
        refine ⟨⟨k + 1, by have := HN.out; omega, by go_num, ?_, ho.trans ho5⟩, by simp [intOf]; omega⟩
        rw [cat_take_succ l k _ HX.out]; exact hst5
    · have hki : (n : Int) ≤ (k : Int) := by omega
      have HC : Hid (cat (l.take k) = cat l) := Lib.hid (by rw [List.take_of_length_le (by have := HN.out; omega)])
      have hst' : StAt (w.heap.size + 1) 55 wr (cat l) := by rw [← HC.out]; exact hst
      clear hst
      go_wp2_with fail
      refine (stsum_walk (w.heap.size + 1) 55 (cat l) _ hst' hKr hlen).mono ?_
      rintro e w6 ⟨rfl, hb6⟩
      have hsr : w.heap.size + 1 < wr.heap.size := by have := HS1.out; have := ho.size; omega
      have hbel6 : Below w.heap.size w w6 := hbel.trans (hb6.mono (by omega))
      have HR6 : Hid (w6.heap[w.heap.size]? = some (.cells (bcells (List.replicate 32 0)) 25 (0, 0))) := Lib.hid ((hr1.only ho (by omega)).below hb6 (by omega))
      have HI6 : Hid ((Tryd.prog.info? 25).map (·.size) = some (bcells (shaL (cat l))).size) := Lib.hid (by rw [bcells_size, shaL, dig_length]; exact size25)
      have HO6 : Hid ((bcells (List.replicate 32 0)).size = (bcells (shaL (cat l))).size) := Lib.hid (by rw [bcells_size, bcells_size, shaL, dig_length]; rfl)
      clear hb6
      have HQ : Hid (∀ wx, Below w.heap.size w wx → SumPost (cat l) w (.returned (.agg (bcells (shaL (cat l))))) wx) := Lib.hid (fun wx h => ⟨rfl, h⟩)
      generalize shaL (cat l) = D at *
      go_wp2_with (refine wpList_store_row rfl 25 _ _ rfl w.heap.size (bcells D) rfl rfl 25 _ HR6.out HI6.out HO6.out (bcells_one _) ?_)
      refine bodyPost_ret (v := .agg (bcells D)) ?_ rfl (HQ.out _ (below_setRow hbel6 (Nat.le_refl _) _))
      exact results_cell_row (p := 2) (ty := 25) rfl _ _ w.heap.size 25 _ (0, 0) _ rfl (setRow_heap _ _ _ _ _ _ HR6.out) Tryd.underlying25 rfl HI6.out

theorem HAt.below {w w' : World} (h : HAt w) {B : Nat} (hb : Below B w w') (hB : 0 < B) : HAt w' := fun j u hj => by
  rw [hb.cell (p := ⟨0, 0 + j, none⟩) hB]; exact h j u hj
theorem KAt.below {w w' : World} (h : KAt w) {B : Nat} (hb : Below B w w') (hB : 2 < B) : KAt w' := fun i hi => by
  rw [hb.cell (p := ⟨2, i, none⟩) hB]; exact h i hi
set_option maxRecDepth 100000 in
set_option maxHeartbeats 400000 in
theorem sum_walk (w : World) (v : Value) (bs : List UInt8) (hv : SlW w v bs) (hK : KAt w) (hH : HAt w) (hlen : bs.length ≤ 549755813888) :
    Calls Tryd.prog 9 #[v] w (SumPost bs w) := by
  have hvl : ∃ p cap, v = .slice p bs.length cap := by
    rcases hv with ⟨g, o, cap, rfl, _⟩ | ⟨p, rfl, rfl⟩
    · exact ⟨_, _, rfl⟩
    · exact ⟨_, _, rfl⟩
  obtain ⟨p, cap, rfl⟩ := hvl
  have HV := Lib.hid hv
  clear hv
  have hK2 : 2 < w.heap.size := block_lt_of_cell (hK 0 (by omega))
  generalize hn : bs.length = n at *
  have HN := Lib.hid hn
  clear hn
  go_enter Tryd.func9, Tryd.ntmps9
  go_wp2_with fail
  generalize hw1 : (World.alloc (w.alloc _) _) = w1
  have hb1 : Below w.heap.size w w1 := by rw [← hw1]; exact ((Below.refl _ _).alloc (Nat.le_refl _) _).alloc (by simp) _
  have hr1 : RowT 25 w1 w.heap.size (List.replicate 32 0) := by rw [← hw1]; exact heap_alloc2_old _ _ _
  have hc1 : w1.heap[w.heap.size + 1]? = some (.cells #[.slice p n cap] 22 (0, 0)) := by rw [← hw1]; exact heap_alloc2_new _ _ _
  have hz1 : w.heap.size + 1 < w1.heap.size := (Array.getElem?_eq_some_iff.1 hc1).1
  have hP : PAt w1 (.slice (some ⟨w.heap.size + 1, 0, none⟩) 1 1) [(.slice p n cap, bs)] := .inl ⟨w.heap.size + 1, 0, 1, rfl, fun i x hx => by
    match i, hx with
    | 0, hx =>
      simp at hx; subst hx
      exact ⟨(cell_of_row _ _ _ _ _ _ hc1).trans rfl, HV.out.below hb1 (Nat.le_refl _)⟩
    | i + 1, hx => simp at hx⟩
  have hcat : cat [(Value.slice p n cap, bs)] = bs := by simp [cat]
  refine (all_walk w1 _ _ hP (hK.below hb1 hK2) (hH.below hb1 (by omega)) (by rw [hcat, HN.out]; exact hlen) (by simp)).mono ?_
  rw [hcat]
  rintro e w6 ⟨rfl, hb6⟩
  clear hw1 hc1 hP hcat
  have hbel6 : Below w.heap.size w w6 := hb1.trans (hb6.mono (by omega))
  have HR6 : Hid (w6.heap[w.heap.size]? = some (.cells (bcells (List.replicate 32 0)) 25 (0, 0))) := Lib.hid (hr1.below hb6 (by omega))
  have HI6 : Hid ((Tryd.prog.info? 25).map (·.size) = some (bcells (shaL bs)).size) := Lib.hid (by rw [bcells_size, shaL, dig_length]; exact size25)
  have HO6 : Hid ((bcells (List.replicate 32 0)).size = (bcells (shaL bs)).size) := Lib.hid (by rw [bcells_size, bcells_size, shaL, dig_length]; rfl)
  have HQ : Hid (∀ wx, Below w.heap.size w wx → SumPost bs w (.returned (.agg (bcells (shaL bs)))) wx) := Lib.hid (fun wx h => ⟨rfl, h⟩)
  generalize shaL bs = D at *
  clear hb6 hr1
  go_wp2_with (refine wpList_store_row rfl 25 _ _ rfl w.heap.size (bcells D) rfl rfl 25 _ HR6.out HI6.out HO6.out (bcells_one _) ?_)
  refine bodyPost_ret (v := .agg (bcells D)) ?_ rfl (HQ.out _ (below_setRow hbel6 (Nat.le_refl _) _))
  exact results_cell_row (p := 2) (ty := 25) rfl _ _ w.heap.size 25 _ (0, 0) _ rfl (setRow_heap _ _ _ _ _ _ HR6.out) Tryd.underlying25 rfl HI6.out
end Go.Proofs.YtdkajbhhmgmohaaDoor
