/-
  The law ShaParts walked.
-/
import Derived.Test.YtdkajbhhmgmohaaDoorPartsK
namespace Go.Proofs.YtdkajbhhmgmohaaDoor
open Go.RowKit Sha Inv

def TwinV (v : Value) : Prop := v = .pointer none ∨ ∃ g, v = .pointer (some ⟨g, 0, none⟩)
/-- What the law holds: the State, the bytes taken, the parts. -/
structure PartsAt (w : World) (ms ma : List UInt8) (v5 v8 : Value) (xs : List Value) (wr : World) : Prop where
  st : StAt w.heap.size 55 wr ms
  all : OwnB (w.heap.size + 1) wr v5 ma
  row : wr.ownsRow (w.heap.size + 1) 22 1 v8 xs.length xs
  below : Below w.heap.size w wr
theorem PartsAt.later {w : World} {ms ma : List UInt8} {v5 v8 : Value} {xs : List Value} {wr w' : World} (h : PartsAt w ms ma v5 v8 xs wr) (hb : Below wr.heap.size wr w') : PartsAt w ms ma v5 v8 xs w' :=
  ⟨h.st.below hb h.st.lt, h.all.below hb fun k hk => (h.all.lt k hk).2, owns_below h.row hb fun k hk => (owns_lt h.row k hk).2, h.below.trans (hb.mono h.below.size)⟩
theorem PartsAt.belowB {w : World} {ms ma : List UInt8} {v5 v8 : Value} {xs : List Value} {wr w' : World} (h : PartsAt w ms ma v5 v8 xs wr) {B : Nat} (hb : Below B wr w') (h0 : w.heap.size < B) (h5 : ∀ k, v5.ownBlock = some k → k < B) (h8 : ∀ k, v8.ownBlock = some k → k < B) : PartsAt w ms ma v5 v8 xs w' :=
  ⟨h.st.below hb h0, h.all.below hb h5, owns_below h.row hb h8, h.below.trans (hb.mono (by omega))⟩
theorem PartsAt.grewRow {w : World} {ms ma : List UInt8} {v5 v8 v8' : Value} {xs xs' : List Value} {wr w' : World} {o : Obj} (h : PartsAt w ms ma v5 v8 xs wr) (hr : w'.ownsRow (w.heap.size + 1) 22 1 v8' xs'.length xs') (hg : (wr.alloc o).grownBy w' v8.ownBlock) : PartsAt w ms ma v5 v8' xs' w' := by
  have ha := h.later ((Below.refl _ wr).alloc (Nat.le_refl _) o)
  obtain ⟨cs, hcs⟩ := ha.st.row
  refine ⟨ha.st.kept hg (fun e => owns_apart ha.row hcs (by decide) e), ?_, hr, ?_⟩
  · refine ha.all.kept hg ?_
    by_cases hn : v5.ownBlock = none
    · exact .inl hn
    refine .inr ?_
    obtain ⟨_, ⟨e1, _⟩ | ⟨g, cap, cur, e1, _, e3, _⟩⟩ := ha.row
    · rw [e1]; exact hn
    · rw [e1]
      exact owns_apart (E := 5) ha.all e3 (by decide)
  · refine ha.below.trans (grown_below hg ha.below.size fun k hk => ?_)
    have := (owns_lt ha.row k hk).1
    omega
theorem PartsAt.grewAll {w : World} {ms ma ma' : List UInt8} {v5 v5' v8 : Value} {xs : List Value} {wr w' : World} (h : PartsAt w ms ma v5 v8 xs wr) (hr : OwnB (w.heap.size + 1) w' v5' ma') (hg : wr.grownBy w' v5.ownBlock) : PartsAt w ms ma' v5' v8 xs w' := by
  obtain ⟨cs, hcs⟩ := h.st.row
  refine ⟨h.st.kept hg (fun e => owns_apart (E := 5) h.all hcs (by decide) e), hr, ?_, ?_⟩
  · refine owns_kept h.row hg ?_
    by_cases hn : v8.ownBlock = none
    · exact .inl hn
    refine .inr ?_
    obtain ⟨_, ⟨e1, _⟩ | ⟨g, cap, cur, e1, _, e3, _⟩⟩ := h.all
    · rw [e1]; exact hn
    · rw [e1]
      exact owns_apart h.row e3 (by decide)
  · refine h.below.trans (grown_below hg h.below.size fun k hk => ?_)
    have := (h.all.lt k hk).1
    omega
theorem PartsAt.wrote {w : World} {ms ms' ma : List UInt8} {v5 v8 : Value} {xs : List Value} {wr w' : World} (h : PartsAt w ms ma v5 v8 xs wr) (ho : Only w.heap.size wr w') (hs : StAt w.heap.size 55 w' ms') : PartsAt w ms' ma v5 v8 xs w' := by
  obtain ⟨cs, hcs⟩ := h.st.row
  exact ⟨hs, owns_only (E := 5) h.all ho (owns_apart (E := 5) h.all hcs (by decide)), owns_only h.row ho (owns_apart h.row hcs (by decide)), h.below.trans (Below.of_only ho (Nat.le_refl _) h.below.size)⟩
theorem PartsAt.twin {w : World} {ms ma mt : List UInt8} {v5 v8 : Value} {xs : List Value} {G : Nat} {wr w' : World} (h : PartsAt w ms ma v5 v8 xs wr) (ht : StAt G 55 wr mt) (hG : w.heap.size < G) (ho : Only G wr w') : PartsAt w ms ma v5 v8 xs w' := by
  obtain ⟨cs, hcs⟩ := ht.row
  exact ⟨h.st.only ho (by omega), owns_only (E := 5) h.all ho (owns_apart (E := 5) h.all hcs (by decide)), owns_only h.row ho (owns_apart h.row hcs (by decide)), h.below.trans (Below.of_only ho (by omega) h.below.size)⟩
theorem SlW.toBS {w : World} {v : Value} {bs : List UInt8} (h : SlW w v bs) {w' : World} (hb : Below w.heap.size w w') {G : Nat} (hG : w.heap.size ≤ G) : SlB G w' v bs := by
  rcases h with ⟨g, o, cap, h1, h2, h3⟩ | h
  · exact .inl ⟨g, o, cap, h1, h2, fun h0 => by have := h3.lt h0; omega, by
      by_cases h0 : 0 < bs.length
      · exact h3.below hb (h3.lt h0)
      · intro i hi; omega⟩
  · exact .inr h
theorem OwnB.toSlB {base G T : Nat} {w : World} {v : Value} {l : List UInt8} {cs : Array Value} (h : OwnB base w v l) (hG : w.heap[G]? = some (.cells cs T (0, 0))) (hT : T ≠ 5) : SlB G w v l := by
  have hne := owns_apart (E := 5) h hG hT
  rcases h.toW with ⟨g, o, cap, h1, h2, h3⟩ | h1
  · refine .inl ⟨g, o, cap, h1, h2, fun _ => ?_, h3⟩
    rintro rfl
    exact hne (by rw [h1]; rfl)
  · exact .inr h1
theorem OwnB.shapeN {base : Nat} {w : World} {v : Value} {l : List UInt8} (h : OwnB base w v l) {n : Nat} (hn : l.length = n) : ∃ p cap, v = .slice p n cap := by
  subst hn; exact h.toW.shape
/-- Where it stands, if it has bytes. -/
theorem OwnB.spot {base : Nat} {w : World} {v : Value} {l : List UInt8} (h : OwnB base w v l) (h0 : 0 < l.length) : ∃ g cap, v = .slice (some ⟨g, 0, none⟩) l.length cap ∧ base ≤ g ∧ g < w.heap.size ∧ l.length ≤ cap ∧
    (∀ i, i < l.length → w.cell? ⟨g, i, none⟩ = some (.int .u8 (bi (l.getD i 0)))) ∧ (∀ i, w.frozen? ⟨g, i, none⟩ = false) ∧ ∀ i x, i < l.length → OwnB base (w.setCell ⟨g, i, none⟩ (.int .u8 (bi x))) v (l.set i x) := by
  have hW := h.toW
  obtain ⟨e0, ⟨h1, h2⟩ | ⟨g, cap, cur, rfl, h2, h3, h4, h5, h6, h7⟩⟩ := h
  · omega
  · refine ⟨g, cap, rfl, h2, (Array.getElem?_eq_some_iff.1 h3).1, h4, fun i hi => ?_, fun i => frozen_of_row _ _ _ _ _ h3, fun i x hi => ?_⟩
    · obtain ⟨g', o', cap', he, _, hB⟩ | ⟨p', he, hb0⟩ := hW
      · cases he
        have := hB i hi
        rwa [Nat.zero_add] at this
      · rw [hb0] at hi; simp at hi
    · refine ⟨by simp [bl], .inr ⟨g, cap, cur.setIfInBounds i (.int .u8 (bi x)), by simp, h2, heap_setCell_same _ _ _ _ _ _ h3, by simpa using h4, h5, by simpa using h6, ?_⟩⟩
      rw [Array.toList_setIfInBounds, List.length_set, List.take_set, h7]
      simp [bl, List.map_set]
theorem slb_aside (w : World) {G : Nat} (hG : G < w.heap.size) : SlB G (w.alloc (.cells #[.int .u8 97, .int .u8 115, .int .u8 105, .int .u8 100, .int .u8 101] 5 (5, 6))) (.slice (some ⟨w.heap.size, 0, none⟩) 5 5) asideL :=
  .inl ⟨w.heap.size, 0, 5, rfl, Nat.le_refl _, fun _ => by omega, fun i hi => by
    rw [Nat.zero_add, cell_of_row _ _ _ _ _ _ (heap_alloc_new _ _)]
    match i, hi with
    | 0, _ => rfl
    | 1, _ => rfl
    | 2, _ => rfl
    | 3, _ => rfl
    | 4, _ => rfl⟩
theorem row_spot {base : Nat} {w : World} {v : Value} {FL : List (Value × List UInt8)} {u : Value} {k : Nat} (h : w.ownsRow base 22 1 v (FL.map (·.1) ++ [u]).length (FL.map (·.1) ++ [u])) (hk : FL.length = k) :
    ∃ g cap, v = .slice (some ⟨g, 0, none⟩) (k + 1) cap ∧ k + 1 ≤ cap ∧ ∀ j y, FL[j]? = some y → w.cell? ⟨g, j, none⟩ = some y.1 := by
  have hl : (FL.map (·.1) ++ [u]).length = k + 1 := by simp [hk]
  rw [hl] at h
  obtain ⟨_, ⟨h1, h2⟩ | ⟨g, cap, cur, h1, h2, h3, h4, h5, h6, h7⟩⟩ := h
  · omega
  · refine ⟨g, cap, h1, h4, fun j y hj => ?_⟩
    have hjl : j < FL.length := (List.getElem?_eq_some_iff.1 hj).1
    rw [cell_of_row _ _ _ _ _ _ h3, ← Array.getElem?_toList]
    have e : cur.toList[j]? = (FL.map (·.1) ++ [u])[j]? := by
      rw [← h7, List.getElem?_take, if_pos (by omega)]
    rw [e, List.getElem?_append_left (by simpa using hjl), List.getElem?_map, hj]
    rfl
theorem each_snoc {w : World} {FL : List (Value × List UInt8)} {u : Value} {B : List UInt8} (h : ∀ x ∈ FL, SlW w x.1 x.2) (hb : SlW w u B) : ∀ x ∈ FL ++ [(u, B)], SlW w x.1 x.2 := fun x hx => by
  rcases List.mem_append.1 hx with hx | hx
  · exact h x hx
  · obtain rfl := List.mem_singleton.1 hx; exact hb
theorem row_pat {w wr : World} {base : Nat} {v : Value} {FL : List (Value × List UInt8)} (h : wr.ownsRow base 22 1 v (FL.map (·.1)).length (FL.map (·.1))) (he : ∀ x ∈ FL, SlW w x.1 x.2) (hb : Below w.heap.size w wr) : PAt wr v FL := by
  rw [List.length_map] at h
  obtain ⟨_, ⟨h1, h2⟩ | ⟨g, cap, cur, h1, h2, h3, h4, h5, h6, h7⟩⟩ := h
  · exact .inr ⟨h1, List.eq_nil_of_length_eq_zero h2⟩
  · refine .inl ⟨g, 0, cap, h1, fun i x hx => ⟨?_, (he x (List.mem_of_getElem? hx)).below hb (Nat.le_refl _)⟩⟩
    have hi : i < FL.length := (List.getElem?_eq_some_iff.1 hx).1
    rw [Nat.zero_add, cell_of_row _ _ _ _ _ _ h3, ← Array.getElem?_toList]
    have e : cur.toList[i]? = (FL.map (·.1))[i]? := by
      rw [← h7, List.getElem?_take, if_pos (by omega)]
    rw [e]
    simp [hx]
theorem stsum_at {G : Nat} {msg : List UInt8} {y : World} {v : Value} (hv : v = .pointer (some ⟨G, 0, none⟩)) (hS : StAt G 55 y msg) (hK : KAt y) (hl : msg.length ≤ 549755813888) : Calls Tryd.prog 20 #[v] y fun e w' => e = .returned (.agg (bcells (shaL msg))) ∧ Below y.heap.size y w' := by
  subst hv; exact stsum_walk G 55 msg y hS hK hl
theorem all_aside {y : World} {v : Value} (FL : List (Value × List UInt8)) (h : ∃ va, PAt y v (FL ++ [(va, asideL)])) (hK : KAt y) (hH : HAt y) (h1 : (cat FL).length ≤ 1000000) (h2 : FL.length ≤ 1000000) : Calls Tryd.prog 22 #[v] y fun e w' => e = .returned (.agg (bcells (shaL (cat FL ++ asideL)))) ∧ Below y.heap.size y w' := by
  obtain ⟨va, hp⟩ := h
  have := all_walk y v _ hp hK hH (by rw [cat_snoc, List.length_append]; show _ + 5 ≤ _; omega) (by simp; omega)
  rw [cat_snoc] at this
  exact this
def PartsRel (w : World) (L : Nat) (v5 v7 v8 v16 : Value) (wr : World) : Prop :=
  ∃ (k : Nat) (FL : List (Value × List UInt8)), k ≤ L ∧ k ≤ 20 ∧ v16 = .int .i64 k ∧ TwinV v7 ∧ FL.length = k ∧ (cat FL).length ≤ 300 * k ∧ (∀ x ∈ FL, SlW w x.1 x.2) ∧ PartsAt w (cat FL) (cat FL) v5 v8 (FL.map (·.1)) wr
def InnerRel (B0 : Nat) (w5 : World) (m : Nat) (v11 v51 : Value) (wr : World) : Prop :=
  ∃ (j : Nat) (l : List UInt8), j ≤ m ∧ v51 = .int .i64 j ∧ l.length = m ∧ OwnB B0 wr v11 l ∧ Below B0 w5 wr
theorem u8_xor255 (x : UInt8) : bits .xor .u8 (bi x) 255 = bi (x ^^^ 255) := by
  unfold bi; rw [show (255 : Int) = ((255 : Nat) : Int) from rfl, u8_xor_nat _ _ x.toNat_lt (by decide), UInt8.toNat_xor]; rfl
set_option maxRecDepth 100000 in
set_option maxHeartbeats 4000000 in
theorem parts_walk (w : World) (p : Option Addr) (cap : Nat) (l : List (Value × List UInt8)) (hp : PAt w (.slice p l.length cap) l) (hlen : l.length ≤ 9223372036854775807) (z : Nat) (hz : z < 256) (hK : KAt w) (hH : HAt w) :
    Calls Tryd.prog 5 #[.slice p l.length cap, .int .u8 z] w (SumsPost w) := by
  have hK2 : 2 < w.heap.size := block_lt_of_cell (hK 0 (by omega))
  have HP := Lib.hid hp
  clear hp
  obtain ⟨q, hq⟩ : ∃ q, q = z % 20 := ⟨_, rfl⟩
  have hq20 : q < 20 := by omega
  have hqi : (z : Int) % 20 = (q : Int) := by omega
  have HZ := Lib.hid hqi
  have kc := fun (w : World) (C : Array Value) (n c : Nat) => Lib.run_convert_bytes_const (P := Tryd.prog) w 22 5 C n c Tryd.underlying22 Tryd.underlying5
  clear hq
  generalize hL : l.length = L at *
  have HL := Lib.hid hL
  clear hL
  go_enter Tryd.func5, Tryd.ntmps5
  go_wp2_with fail
  refine (new_walk w hH).mono ?_
  rintro e w1 ⟨rfl, hw1⟩
  have HG0 : Hid (PartsAt w [] [] (.slice none 0 0) (.slice none 0 0) [] w1) := Lib.hid (by
    rw [hw1]; exact ⟨stAt_new _ _ (heap_alloc_new _ _), OwnB.nil _ _, ⟨rfl, .inl ⟨rfl, rfl⟩⟩, (Below.refl _ _).alloc (Nat.le_refl _) _⟩)
  clear hw1
  go_wp2_with fail
  go_loopw [5, 7, 8, 9, 10, 11, 12, 16] (fun v5 v7 v8 _ _ _ _ v16 wr => PartsRel w L v5 v7 v8 v16 wr) (fun _ _ _ _ _ _ _ v16 _ => 21 - (intOf v16).toNat)
  case atStart => exact ⟨0, [], by omega, by omega, rfl, .inl rfl, rfl, by simp [cat], fun x hx => (by cases hx), HG0.out⟩
  case round =>
    clear HG0
    obtain ⟨k, FL, hk1, hk2, rfl, htw, hFl, hFs, hFe, hG⟩ := hrel
    by_cases hlt : k < L ∧ k < 20
    · obtain ⟨hl1, hl2⟩ := hlt
      obtain ⟨gp, op, cap', e1, h2⟩ | ⟨e1, e2⟩ := HP.out
      rotate_left
      · have := HL.out; rw [e2] at this; simp at this; omega
      obtain ⟨rfl, e3, rfl⟩ : p = some ⟨gp, op, none⟩ ∧ L = l.length ∧ cap = cap' := by simpa using e1
      obtain ⟨x, hx⟩ : ∃ x, l[k]? = some x := ⟨l[k]'(by omega), List.getElem?_eq_getElem _⟩
      obtain ⟨bv, bb⟩ := x
      obtain ⟨q1, q3⟩ := h2 k _ hx
      simp only at q1 q3
      have c1 : wr.cell? ⟨gp, op + k, none⟩ = some bv := by rw [hG.below.cell (p := ⟨gp, op + k, none⟩) (block_lt_of_cell q1)]; exact q1
      obtain ⟨pb, cb, rfl⟩ := q3.shape
      obtain ⟨m, hm⟩ : ∃ m, m = min bb.length 300 := ⟨_, rfl⟩
      have hmi : min (bb.length : Int) 300 = (m : Int) := by omega
      have hmb : m ≤ bb.length := by omega
      have hm1 : m ≤ 300 := by omega
      have hsl := slice_to pb bb.length cb m bb q3 hmb
      have HB := Lib.hid (q3.take m hmb)
      have HLT : Hid ((bb.take m).length = m) := Lib.hid (by simp; omega)
      clear hm q1 q3 hx h2 e1 e3
      generalize bb.take m = B at *
      generalize bb.length = lb at *
      have hi1 : (k : Int) < (L : Int) := by omega
      have hi2 : ¬ k = 20 := by omega
      have hi3 : ((k : Int) == 20) = false := by simp; omega
      have HG := Lib.hid hG
      have HBS : Hid (w.heap.size + 1 ≤ wr.heap.size) := Lib.hid hG.st.lt
      have HX1 : Hid ((FL.map (·.1)).length ≤ 1000000) := Lib.hid (by simp; omega)
      have HTW := Lib.hid htw
      clear hG htw
      by_cases hkq : k = q
      · subst hkq
        go_wp2_with (refine wpList_appS rfl (.tmp 28) (.tmp 30) rfl (w.heap.size + 1) u8 (.slice pb m cb) (FL.map (·.1)) rfl rfl HG.out.row rfl HBS.out HX1.out ?_; intro v8' w2 hrow2 hg2)
        have hG2 := HG.out.grewRow hrow2 hg2
        clear hrow2 hg2 HG HBS HX1 c1 hsl hmi
        refine (copy_walk w.heap.size 55 (cat FL) w2 hG2.st).mono ?_
        rintro e w3 ⟨rfl, hst3, hb3⟩
        have hG3 := hG2.later hb3
        have hGs : w.heap.size < w2.heap.size := hG2.st.lt
        clear hG2 hb3
        go_wp2_with fail
        have hS4 := hst3.below ((Below.refl _ w3).alloc (Nat.le_refl _) (.cells #[.int .u8 97, .int .u8 115, .int .u8 105, .int .u8 100, .int .u8 101] 5 (5, 6))) hst3.lt
        have hG4 := hG3.later ((Below.refl _ w3).alloc (Nat.le_refl _) (.cells #[.int .u8 97, .int .u8 115, .int .u8 105, .int .u8 100, .int .u8 101] 5 (5, 6)))
        have hv4 : SlB w2.heap.size (w3.alloc (.cells #[.int .u8 97, .int .u8 115, .int .u8 105, .int .u8 100, .int .u8 101] 5 (5, 6))) (.slice (some ⟨w3.heap.size, 0, none⟩) 5 5) asideL := slb_aside w3 hst3.lt
        refine (write_walk w2.heap.size 55 (cat FL) _ asideL _ hv4 hS4 (hK.below hG4.below hK2) (by omega) (by show _ + 5 ≤ _; omega)).mono ?_
        rintro e w5 ⟨rfl, ho5, ht5⟩
        have hG5 := hG4.twin hS4 hGs ho5
        clear hst3 hG3 hS4 hG4 hv4 ho5
        go_wp2_with fail

        have HSB : Hid (SlW w5 (.slice pb m cb) B) := Lib.hid (HB.out.below hG5.below (Nat.le_refl _))
        refine (clone_walk w5 _ B HSB.out (by rw [HLT.out]; omega)).mono ?_
        rintro e w6 ⟨v11, rfl, hown6, hb6⟩
        obtain ⟨p11, cap11, rfl⟩ := hown6.shapeN HLT.out
        have hG6 := hG5.later hb6
        have ht6 := ht5.below hb6 ht5.lt
        have H5 : Hid (∀ k, u5.ownBlock = some k → k < w5.heap.size) := Lib.hid fun k hk => (hG5.all.lt k hk).2
        have H8 : Hid (∀ k, v8'.ownBlock = some k → k < w5.heap.size) := Lib.hid fun k hk => (owns_lt hG5.row k hk).2
        have HWS : Hid (w.heap.size < w5.heap.size) := Lib.hid hG5.st.lt
        have hK6 := hK.below hG6.below hK2
        obtain ⟨cs6, hcs6⟩ := hG6.st.row
        have HS6 := Lib.hid (hown6.toSlB hcs6 (by decide))
        have hsz6 := hb6.size
        clear hcs6 hb6 HSB
        go_wp2_with fail
        refine (write_walk w.heap.size 55 (cat FL) _ B w6 HS6.out hG6.st hK6 (by omega) (by rw [HLT.out]; omega)).mono ?_
        rintro e w7 ⟨rfl, ho7, hst7⟩
        have hG7 := hG6.wrote ho7 hst7
        have ht7 := ht6.only ho7 (by omega)
        have hne7 : (Value.slice p11 m cap11).ownBlock ≠ some w.heap.size := fun e => by have := (hown6.lt _ e).1; have := HWS.out; omega
        have hown7 : OwnB w5.heap.size w7 (.slice p11 m cap11) B := owns_only (E := 5) hown6 ho7 hne7
        have HG7 := Lib.hid hG7
        have HO7 := Lib.hid hown7
        clear hG6 hown6 ho7 hst7 hne7 hown7 hG7 HS6 hK6 cs6
        obtain ⟨B0, hB0⟩ : ∃ B0, B0 = w5.heap.size := ⟨_, rfl⟩
        rw [← hB0] at H5 H8 HWS HO7 hsz6
        have hB0t : w2.heap.size < B0 := by rw [hB0]; exact ht5.lt
        clear hB0
        go_wp2_with fail
        go_loopw [12, 51] (fun _ v51 wr => InnerRel B0 w7 m (.slice p11 m cap11) v51 wr) (fun _ v51 _ => m - (intOf v51).toNat)
        case atStart => exact ⟨0, B, by omega, rfl, HLT.out, HO7.out, Below.refl _ _⟩
        case round =>
          clear HO7
          obtain ⟨j, lo, hj, rfl, hlo, hownj, hbj⟩ := hrel
          by_cases hjm : j < m
          · obtain ⟨g', cap', e1, hg1, _, _, hcell, hfree, hset⟩ := hownj.spot (by omega)
            rw [hlo] at e1
            obtain ⟨rfl, rfl⟩ : p11 = some ⟨g', 0, none⟩ ∧ cap11 = cap' := by simpa using e1
            have cj := hcell j (by omega)
            have fj := hfree j
            have ux := u8_xor255 (lo.getD j 0)
            have HSj := Lib.hid (hset j (lo.getD j 0 ^^^ 255) (by omega))
            have hji : (j : Int) < (m : Int) := by omega
            clear hcell hfree hset e1 hownj
            generalize lo.getD j 0 = y at *
            go_wp2_with fail
            exact ⟨⟨j + 1, _, by omega, by go_num, by simp [hlo], HSj.out, hbj.setCell hg1 _⟩, by simp [intOf]; omega⟩
          · have hji : (m : Int) ≤ (j : Int) := by omega
            have hG8 := HG7.out.belowB hbj HWS.out H5.out H8.out
            have ht8 := ht7.below hbj hB0t
            clear HG7 hownj hbj
            obtain ⟨n5, hn5⟩ : ∃ n, (cat FL ++ B).length = n := ⟨_, rfl⟩
            have hn5b : n5 ≤ 10000 := by rw [← hn5, List.length_append, HLT.out]; omega
            have HN5 := Lib.hid hn5
            have HSB8 : Hid (SlW wr (.slice pb m cb) B) := Lib.hid (HB.out.below hG8.below (Nat.le_refl _))
            have HBS8 : Hid (w.heap.size + 1 ≤ wr.heap.size) := Lib.hid hG8.st.lt
            have HSZ : Hid ((cat FL).length + B.length ≤ 1099511627776) := Lib.hid (by rw [HLT.out]; omega)
            have HG8 := Lib.hid hG8
            clear hn5 hG8 hlo H5 H8 HWS hsz6
            go_wp2_with (refine wpList_appB rfl (.tmp 61) (.tmp 62) rfl (w.heap.size + 1) u5 _ (cat FL) B rfl rfl HG8.out.all HSB8.out HBS8.out HSZ.out ?_; intro v5' w9 hown9 hg9; obtain ⟨p5, cap5, rfl⟩ := hown9.shapeN HN5.out)
            have hG9 := HG8.out.grewAll hown9 hg9
            have ht9 := ht8.kept hg9 (fun e => by obtain ⟨cs, hcs⟩ := ht8.row; exact owns_apart (E := 5) HG8.out.all hcs (by decide) e)
            clear hown9 hg9 HG8 HSB8 HBS8 HSZ
            have hK9 := hK.below hG9.below hK2
            refine (stsum_walk w.heap.size 55 (cat FL ++ B) w9 hG9.st hK9 (by rw [HN5.out]; omega)).mono ?_
            rintro e w10 ⟨rfl, hb10⟩
            have hG10 := hG9.later hb10
            have ht10 := ht9.below hb10 ht9.lt
            clear hb10 hG9 hK9
            go_wp2_with fail
            refine (sum_walk w10 _ (cat FL ++ B) hG10.all.toW (hK.below hG10.below hK2) (hH.below hG10.below (by omega)) (by rw [HN5.out]; omega)).mono ?_
            rintro e w11 ⟨rfl, hb11⟩
            have hG11 := hG10.later hb11
            have ht11 := ht10.below hb11 ht10.lt
            clear hb11 hG10
            have hsm := same25 _ (shaL_length (cat FL ++ B))
            have hgd : Tryd.prog.eqGuardType Tryd.prog.depth 25 = false := by kernel_rfl
            obtain ⟨D, hD⟩ : ∃ D, D = shaL (cat FL ++ B) := ⟨_, rfl⟩
            rw [← hD] at hsm
            rw [← hD]
            clear hD
            have HST := Lib.hid hG11.st
            go_wp2_with fail
            refine (len_walk w.heap.size 55 (cat FL ++ B) w11 HST.out).mono ?_
            rintro e w' ⟨rfl, rfl⟩
            rw [HN5.out]
            clear HST hsm hgd
            go_wp2_with fail
            obtain ⟨g8, cap8, rfl, hcap8, hrow8⟩ := row_spot hG11.row hFl
            have HROW : Hid (∀ j y, FL[j]? = some y → w11.drew.cell? ⟨g8, j, none⟩ = some y.1 ∧ SlW w11.drew y.1 y.2) := Lib.hid fun j y hj => ⟨hrow8 j y hj, (hFe y (List.mem_of_getElem? hj)).below (below_drew hG11.below) (Nat.le_refl _)⟩
            have hK11 := hK.below hG11.below hK2
            have hH11 := hH.below hG11.below (by omega)
            have hK2' : 2 < w11.heap.size := by have := hG11.below.size; omega
            clear hrow8

            refine wp_region_inv (by kernel_rfl) (by kernel_rfl) (BaseW w11.drew) (StepF w11.drew) (VF w11.drew [.eq (.pointer (some ⟨w2.heap.size, 0, none⟩)), .eq (.bool true), .eq (.bool true), .eq (.int .i64 (k : Int)), .eq (.int .u8 (z : Int)), .eq (.int .u8 (k : Int)), .eq (.int .i64 (k : Int)), .eq (.bool true), .eq (.bool true), .eq (.bool true), .eq (.pointer (some ⟨w2.heap.size, 0, none⟩)), .eq (.agg (bcells (shaL (cat FL ++ asideL)))), .eq (.slice (some ⟨g8, 0, none⟩) (k + 1) cap8), .eq (.int .i64 (k : Int)), .eq (.int .i64 (k : Int)), .eq (.slice (some ⟨g8, 0, none⟩) k k), .bytes, .bytes, .one, .parts FL, .eq (.agg (bcells (shaL (cat FL ++ asideL)))), .eq (.bool false), .eq (.bool false)]) (VF.mono _ _) (Below.refl _ _) ?_ ?_
            · refine ⟨okf_move (.inl rfl) _ rfl _ rfl rfl fun x y hL _ hD => hL.rest 7 (by kernel_rfl),
                okf_run (.inl rfl) _ rfl rfl fun x y hL hB hD => run_neq_ptr (.tmp 77) rfl w2.heap.size (hD.1 rfl),
                okf_move (.inl rfl) _ rfl _ rfl rfl fun x y hL _ hD => hD.1 rfl,
                okf_move (.inr ⟨2, true, rfl, fun x y hL _ hD => hD.1 rfl⟩) _ rfl _ rfl rfl fun x y hL _ hD => hL.rest 9 (by kernel_rfl),
                okf_move (.inr ⟨2, true, rfl, fun x y hL _ hD => hD.1 rfl⟩) _ rfl _ rfl rfl fun x y hL _ hD => hL.rest 1 (by kernel_rfl),
                okf_run (.inr ⟨2, true, rfl, fun x y hL _ hD => hD.2.1 rfl⟩) _ rfl rfl fun x y hL hB hD => run_rem20 (.tmp 81) rfl z k hz HZ.out (hD.1 rfl),
                okf_run (.inr ⟨2, true, rfl, fun x y hL _ hD => hD.2.1 rfl⟩) _ rfl rfl fun x y hL hB hD => run_conv53 (.tmp 82) rfl k hl2 (hD.1 rfl),
                okf_run (.inr ⟨2, true, rfl, fun x y hL _ hD => hD.2.2.1 rfl⟩) _ rfl rfl fun x y hL hB hD => (run_eql_int (.tmp 80) (.tmp 83) rfl (k : Int) (k : Int) (hD.1 rfl) (hD.2.1 rfl)).trans (by rw [beq_self_eq_true]),
                okf_pick (.inl rfl) _ _ _ rfl true _ rfl rfl fun x y hL _ hD => ⟨hD.1 rfl, hD.2.1 rfl⟩,
                okf_move (.inl rfl) _ rfl _ rfl rfl fun x y hL _ hD => hD.1 rfl,
                okf_move (.inr ⟨9, true, rfl, fun x y hL _ hD => hD.1 rfl⟩) _ rfl _ rfl rfl fun x y hL _ hD => hL.rest 7 (by kernel_rfl),
                okf_call1 (.inr ⟨9, true, rfl, fun x y hL _ hD => hD.2.1 rfl⟩) 20 (.tmp 87) (fun a w => by kernel_rfl) _ rfl rfl fun x y hL hB hD => stsum_at (show x.eval (.tmp 87) = .pointer (some ⟨w2.heap.size, 0, none⟩) from hD.1 rfl) (ht11.below (of_drew hB) ht11.lt) (hK11.below (of_drew hB) hK2') (by rw [List.length_append]; show _ + 5 ≤ _; omega),
                okf_move (.inr ⟨9, true, rfl, fun x y hL _ hD => hD.1 rfl⟩) _ rfl _ rfl rfl fun x y hL _ hD => hL.rest 8 (by kernel_rfl),
                okf_move (.inr ⟨9, true, rfl, fun x y hL _ hD => hD.1 rfl⟩) _ rfl _ rfl rfl fun x y hL _ hD => hL.rest 9 (by kernel_rfl),
                okf_move (.inr ⟨9, true, rfl, fun x y hL _ hD => hD.1 rfl⟩) _ rfl _ rfl rfl fun x y hL _ hD => hL.rest 9 (by kernel_rfl),
                okf_run (.inr ⟨9, true, rfl, fun x y hL _ hD => hD.2.2.2.1 rfl⟩) _ rfl rfl fun x y hL hB hD => run_slice39 (.tmp 89) (.tmp 90) (.tmp 91) rfl g8 (k + 1) cap8 k (by omega) hcap8 (hD.1 rfl) (hD.2.1 rfl) (hD.2.2.1 rfl),
                okf_build5 (.inr ⟨9, true, rfl, fun x y hL _ hD => hD.1 rfl⟩) rfl rfl rfl,
                okf_conv (.inr ⟨9, true, rfl, fun x y hL _ hD => hD.2.1 rfl⟩) (.tmp 93) rfl rfl rfl fun x y hL hB hD => (hD.1 rfl),
                okf_build1 (.inr ⟨9, true, rfl, fun x y hL _ hD => hD.2.1 rfl⟩) (.tmp 94) rfl rfl rfl fun x y hL hB hD => (hD.1 rfl),
                okf_app (.inr ⟨9, true, rfl, fun x y hL _ hD => hD.2.2.2.1 rfl⟩) (.tmp 92) (.tmp 95) rfl FL g8 (by omega) HROW.out rfl rfl fun x y hL hB hD => ⟨by rw [hFl]; exact (hD.1 rfl), (hD.2.1 rfl)⟩,
                okf_call1 (.inr ⟨9, true, rfl, fun x y hL _ hD => hD.2.2.1 rfl⟩) 22 (.tmp 96) (fun a w => by kernel_rfl) _ rfl rfl fun x y hL hB hD => all_aside FL (show ∃ va, PAt y (x.eval (.tmp 96)) (FL ++ [(va, asideL)]) from hD.1 rfl) (hK11.below (of_drew hB) hK2') (hH11.below (of_drew hB) (by omega)) (by omega) (by omega),
                okf_run (.inr ⟨9, true, rfl, fun x y hL _ hD => hD.2.2.1 rfl⟩) _ rfl rfl fun x y hL hB hD => run_neq25 (.tmp 88) (.tmp 97) rfl (shaL (cat FL ++ asideL)) (shaL_length _) (hD.1 rfl) (hD.2.1 rfl),
                okf_pick (.inl rfl) _ _ _ rfl true _ rfl rfl fun x y hL _ hD => ⟨hD.1 rfl, hD.2.1 rfl⟩, trivial⟩
            intro a' w12 hL hB2 hV
            have hb12 : Below w11.heap.size w11 w12 := of_drew hB2
            obtain ⟨x93, hx93⟩ : ∃ x, a'.eval (.tmp 93) = x := ⟨_, rfl⟩
            obtain ⟨x94, hx94⟩ : ∃ x, a'.eval (.tmp 94) = x := ⟨_, rfl⟩
            obtain ⟨x95, hx95⟩ : ∃ x, a'.eval (.tmp 95) = x := ⟨_, rfl⟩
            obtain ⟨x96, hx96⟩ : ∃ x, a'.eval (.tmp 96) = x := ⟨_, rfl⟩
            obtain rfl := hL.puts [(77, (.pointer (some ⟨w2.heap.size, 0, none⟩))), (78, (.bool true)), (79, (.bool true)), (80, (.int .i64 (k : Int))), (81, (.int .u8 (z : Int))), (82, (.int .u8 (k : Int))), (83, (.int .i64 (k : Int))), (84, (.bool true)), (85, (.bool true)), (86, (.bool true)), (87, (.pointer (some ⟨w2.heap.size, 0, none⟩))), (88, (.agg (bcells (shaL (cat FL ++ asideL))))), (89, (.slice (some ⟨g8, 0, none⟩) (k + 1) cap8)), (90, (.int .i64 (k : Int))), (91, (.int .i64 (k : Int))), (92, (.slice (some ⟨g8, 0, none⟩) k k)), (93, x93), (94, x94), (95, x95), (96, x96), (97, (.agg (bcells (shaL (cat FL ++ asideL))))), (98, (.bool false)), (99, (.bool false))] (by
              simp only [List.forall_mem_cons, List.not_mem_nil, false_implies, implies_true, and_true]
              exact ⟨hV 0 (of_decide_eq_true (by kernel_rfl)), hV 1 (of_decide_eq_true (by kernel_rfl)), hV 2 (of_decide_eq_true (by kernel_rfl)), hV 3 (of_decide_eq_true (by kernel_rfl)), hV 4 (of_decide_eq_true (by kernel_rfl)), hV 5 (of_decide_eq_true (by kernel_rfl)), hV 6 (of_decide_eq_true (by kernel_rfl)), hV 7 (of_decide_eq_true (by kernel_rfl)), hV 8 (of_decide_eq_true (by kernel_rfl)), hV 9 (of_decide_eq_true (by kernel_rfl)), hV 10 (of_decide_eq_true (by kernel_rfl)), hV 11 (of_decide_eq_true (by kernel_rfl)), hV 12 (of_decide_eq_true (by kernel_rfl)), hV 13 (of_decide_eq_true (by kernel_rfl)), hV 14 (of_decide_eq_true (by kernel_rfl)), hV 15 (of_decide_eq_true (by kernel_rfl)), hx93, hx94, hx95, hx96, hV 20 (of_decide_eq_true (by kernel_rfl)), hV 21 (of_decide_eq_true (by kernel_rfl)), hV 22 (of_decide_eq_true (by kernel_rfl))⟩) (by kernel_rfl)
            clear hL hV hB2 hx93 hx94 hx95 hx96
            simp only [putAll, Act.put, List.setIfInBounds_toArray, List.set_cons_zero, List.set_cons_succ]
            have hG12 := hG11.later hb12
            clear hG11 hb12
            go_wp2_with fail
            exact ⟨⟨k + 1, FL ++ [(.slice pb m cb, B)], by omega, by omega, by go_num, .inr ⟨_, rfl⟩, by simp [hFl], by rw [cat_snoc, List.length_append, HLT.out]; omega, each_snoc hFe HB.out, by rw [cat_snoc, List.map_append]; exact hG12⟩, by simp [intOf]; omega⟩
      · have hkq2 : ((k : Int) == (q : Int)) = false := by simp; omega
        go_wp2_with (refine wpList_appS rfl (.tmp 28) (.tmp 30) rfl (w.heap.size + 1) u8 (.slice pb m cb) (FL.map (·.1)) rfl rfl HG.out.row rfl HBS.out HX1.out ?_; intro v8' w2 hrow2 hg2)
        have hG2 := HG.out.grewRow hrow2 hg2
        clear hrow2 hg2 HG HBS HX1 c1 hsl hmi

        have HSB : Hid (SlW w2 (.slice pb m cb) B) := Lib.hid (HB.out.below hG2.below (Nat.le_refl _))
        refine (clone_walk w2 _ B HSB.out (by rw [HLT.out]; omega)).mono ?_
        rintro e w6 ⟨v11, rfl, hown6, hb6⟩
        obtain ⟨p11, cap11, rfl⟩ := hown6.shapeN HLT.out
        have hG6 := hG2.later hb6

        have H5 : Hid (∀ k, u5.ownBlock = some k → k < w2.heap.size) := Lib.hid fun k hk => (hG2.all.lt k hk).2
        have H8 : Hid (∀ k, v8'.ownBlock = some k → k < w2.heap.size) := Lib.hid fun k hk => (owns_lt hG2.row k hk).2
        have HWS : Hid (w.heap.size < w2.heap.size) := Lib.hid hG2.st.lt
        have hK6 := hK.below hG6.below hK2
        obtain ⟨cs6, hcs6⟩ := hG6.st.row
        have HS6 := Lib.hid (hown6.toSlB hcs6 (by decide))
        have hsz6 := hb6.size
        clear hcs6 hb6 HSB
        go_wp2_with fail
        refine (write_walk w.heap.size 55 (cat FL) _ B w6 HS6.out hG6.st hK6 (by omega) (by rw [HLT.out]; omega)).mono ?_
        rintro e w7 ⟨rfl, ho7, hst7⟩
        have hG7 := hG6.wrote ho7 hst7

        have hne7 : (Value.slice p11 m cap11).ownBlock ≠ some w.heap.size := fun e => by have := (hown6.lt _ e).1; have := HWS.out; omega
        have hown7 : OwnB w2.heap.size w7 (.slice p11 m cap11) B := owns_only (E := 5) hown6 ho7 hne7
        have HG7 := Lib.hid hG7
        have HO7 := Lib.hid hown7
        clear hG6 hown6 ho7 hst7 hne7 hown7 hG7 HS6 hK6 cs6
        obtain ⟨B0, hB0⟩ : ∃ B0, B0 = w2.heap.size := ⟨_, rfl⟩
        rw [← hB0] at H5 H8 HWS HO7 hsz6

        clear hB0
        go_wp2_with fail
        go_loopw [12, 51] (fun _ v51 wr => InnerRel B0 w7 m (.slice p11 m cap11) v51 wr) (fun _ v51 _ => m - (intOf v51).toNat)
        case atStart => exact ⟨0, B, by omega, rfl, HLT.out, HO7.out, Below.refl _ _⟩
        case round =>
          clear HO7
          obtain ⟨j, lo, hj, rfl, hlo, hownj, hbj⟩ := hrel
          by_cases hjm : j < m
          · obtain ⟨g', cap', e1, hg1, _, _, hcell, hfree, hset⟩ := hownj.spot (by omega)
            rw [hlo] at e1
            obtain ⟨rfl, rfl⟩ : p11 = some ⟨g', 0, none⟩ ∧ cap11 = cap' := by simpa using e1
            have cj := hcell j (by omega)
            have fj := hfree j
            have ux := u8_xor255 (lo.getD j 0)
            have HSj := Lib.hid (hset j (lo.getD j 0 ^^^ 255) (by omega))
            have hji : (j : Int) < (m : Int) := by omega
            clear hcell hfree hset e1 hownj
            generalize lo.getD j 0 = y at *
            go_wp2_with fail
            exact ⟨⟨j + 1, _, by omega, by go_num, by simp [hlo], HSj.out, hbj.setCell hg1 _⟩, by simp [intOf]; omega⟩
          · have hji : (m : Int) ≤ (j : Int) := by omega
            have hG8 := HG7.out.belowB hbj HWS.out H5.out H8.out
    
            clear HG7 hownj hbj
            obtain ⟨n5, hn5⟩ : ∃ n, (cat FL ++ B).length = n := ⟨_, rfl⟩
            have hn5b : n5 ≤ 10000 := by rw [← hn5, List.length_append, HLT.out]; omega
            have HN5 := Lib.hid hn5
            have HSB8 : Hid (SlW wr (.slice pb m cb) B) := Lib.hid (HB.out.below hG8.below (Nat.le_refl _))
            have HBS8 : Hid (w.heap.size + 1 ≤ wr.heap.size) := Lib.hid hG8.st.lt
            have HSZ : Hid ((cat FL).length + B.length ≤ 1099511627776) := Lib.hid (by rw [HLT.out]; omega)
            have HG8 := Lib.hid hG8
            clear hn5 hG8 hlo H5 H8 HWS hsz6
            go_wp2_with (refine wpList_appB rfl (.tmp 61) (.tmp 62) rfl (w.heap.size + 1) u5 _ (cat FL) B rfl rfl HG8.out.all HSB8.out HBS8.out HSZ.out ?_; intro v5' w9 hown9 hg9; obtain ⟨p5, cap5, rfl⟩ := hown9.shapeN HN5.out)
            have hG9 := HG8.out.grewAll hown9 hg9

            clear hown9 hg9 HG8 HSB8 HBS8 HSZ
            have hK9 := hK.below hG9.below hK2
            refine (stsum_walk w.heap.size 55 (cat FL ++ B) w9 hG9.st hK9 (by rw [HN5.out]; omega)).mono ?_
            rintro e w10 ⟨rfl, hb10⟩
            have hG10 := hG9.later hb10

            clear hb10 hG9 hK9
            go_wp2_with fail
            refine (sum_walk w10 _ (cat FL ++ B) hG10.all.toW (hK.below hG10.below hK2) (hH.below hG10.below (by omega)) (by rw [HN5.out]; omega)).mono ?_
            rintro e w11 ⟨rfl, hb11⟩
            have hG11 := hG10.later hb11

            clear hb11 hG10
            have hsm := same25 _ (shaL_length (cat FL ++ B))
            have hgd : Tryd.prog.eqGuardType Tryd.prog.depth 25 = false := by kernel_rfl
            obtain ⟨D, hD⟩ : ∃ D, D = shaL (cat FL ++ B) := ⟨_, rfl⟩
            rw [← hD] at hsm
            rw [← hD]
            clear hD
            have HST := Lib.hid hG11.st
            go_wp2_with fail
            refine (len_walk w.heap.size 55 (cat FL ++ B) w11 HST.out).mono ?_
            rintro e w' ⟨rfl, rfl⟩
            rw [HN5.out]
            clear HST hsm hgd
            go_wp2_with fail
            rcases HTW.out with rfl | ⟨gt, rfl⟩
            · refine wp_region_inv (by kernel_rfl) (by kernel_rfl) (BaseW w11.drew) (StepF w11.drew) (VF w11.drew [.eq (.pointer none), .eq (.bool false), .eq (.bool false), .eq undef, .eq undef, .eq undef, .eq undef, .eq undef, .eq (.bool false), .eq (.bool false), .eq undef, .eq undef, .eq undef, .eq undef, .eq undef, .eq undef, .eq undef, .eq undef, .eq undef, .eq undef, .eq undef, .eq undef, .eq (.bool false)]) (VF.mono _ _) (Below.refl _ _) ?_ ?_
              · refine ⟨okf_move (.inl rfl) _ rfl _ rfl rfl fun x y hL _ hD => hL.rest 7 (by kernel_rfl),
                  okf_run (.inl rfl) _ rfl rfl fun x y hL hB hD => run_neq_nil (.tmp 77) rfl (hD.1 rfl),
                  okf_move (.inl rfl) _ rfl _ rfl rfl fun x y hL _ hD => hD.1 rfl,
                  okf_skip 2 true rfl rfl fun x y hL _ hD => hD.1 rfl,
                  okf_skip 2 true rfl rfl fun x y hL _ hD => hD.1 rfl,
                  okf_skip 2 true rfl rfl fun x y hL _ hD => hD.2.1 rfl,
                  okf_skip 2 true rfl rfl fun x y hL _ hD => hD.2.1 rfl,
                  okf_skip 2 true rfl rfl fun x y hL _ hD => hD.2.2.1 rfl,
                  okf_pick (.inl rfl) _ _ _ rfl false _ rfl rfl fun x y hL _ hD => ⟨hD.1 rfl, rfl⟩,
                  okf_move (.inl rfl) _ rfl _ rfl rfl fun x y hL _ hD => hD.1 rfl,
                  okf_skip 9 true rfl rfl fun x y hL _ hD => hD.1 rfl,
                  okf_skip 9 true rfl rfl fun x y hL _ hD => hD.2.1 rfl,
                  okf_skip 9 true rfl rfl fun x y hL _ hD => hD.1 rfl,
                  okf_skip 9 true rfl rfl fun x y hL _ hD => hD.1 rfl,
                  okf_skip 9 true rfl rfl fun x y hL _ hD => hD.1 rfl,
                  okf_skip 9 true rfl rfl fun x y hL _ hD => hD.2.2.2.1 rfl,
                  okf_skip 9 true rfl rfl fun x y hL _ hD => hD.1 rfl,
                  okf_skip 9 true rfl rfl fun x y hL _ hD => hD.2.1 rfl,
                  okf_skip 9 true rfl rfl fun x y hL _ hD => hD.2.1 rfl,
                  okf_skip 9 true rfl rfl fun x y hL _ hD => hD.2.2.2.1 rfl,
                  okf_skip 9 true rfl rfl fun x y hL _ hD => hD.2.2.1 rfl,
                  okf_skip 9 true rfl rfl fun x y hL _ hD => hD.2.2.1 rfl,
                  okf_pick (.inl rfl) _ _ _ rfl false _ rfl rfl fun x y hL _ hD => ⟨hD.1 rfl, rfl⟩, trivial⟩
              intro a' w12 hL hB2 hV
              have hb12 : Below w11.heap.size w11 w12 := of_drew hB2
              obtain rfl := hL.puts [(77, (.pointer none)), (78, (.bool false)), (79, (.bool false)), (80, undef), (81, undef), (82, undef), (83, undef), (84, undef), (85, (.bool false)), (86, (.bool false)), (87, undef), (88, undef), (89, undef), (90, undef), (91, undef), (92, undef), (93, undef), (94, undef), (95, undef), (96, undef), (97, undef), (98, undef), (99, (.bool false))] (by
                simp only [List.forall_mem_cons, List.not_mem_nil, false_implies, implies_true, and_true]
                exact ⟨hV 0 (of_decide_eq_true (by kernel_rfl)), hV 1 (of_decide_eq_true (by kernel_rfl)), hV 2 (of_decide_eq_true (by kernel_rfl)), hV 3 (of_decide_eq_true (by kernel_rfl)), hV 4 (of_decide_eq_true (by kernel_rfl)), hV 5 (of_decide_eq_true (by kernel_rfl)), hV 6 (of_decide_eq_true (by kernel_rfl)), hV 7 (of_decide_eq_true (by kernel_rfl)), hV 8 (of_decide_eq_true (by kernel_rfl)), hV 9 (of_decide_eq_true (by kernel_rfl)), hV 10 (of_decide_eq_true (by kernel_rfl)), hV 11 (of_decide_eq_true (by kernel_rfl)), hV 12 (of_decide_eq_true (by kernel_rfl)), hV 13 (of_decide_eq_true (by kernel_rfl)), hV 14 (of_decide_eq_true (by kernel_rfl)), hV 15 (of_decide_eq_true (by kernel_rfl)), hV 16 (of_decide_eq_true (by kernel_rfl)), hV 17 (of_decide_eq_true (by kernel_rfl)), hV 18 (of_decide_eq_true (by kernel_rfl)), hV 19 (of_decide_eq_true (by kernel_rfl)), hV 20 (of_decide_eq_true (by kernel_rfl)), hV 21 (of_decide_eq_true (by kernel_rfl)), hV 22 (of_decide_eq_true (by kernel_rfl))⟩) (by kernel_rfl)
              clear hL hV hB2 
              simp only [putAll, Act.put, List.setIfInBounds_toArray, List.set_cons_zero, List.set_cons_succ]
              have hG12 := hG11.later hb12
              clear hG11 hb12
              go_wp2_with fail
              exact ⟨⟨k + 1, FL ++ [(.slice pb m cb, B)], by omega, by omega, by go_num, .inl rfl, by simp [hFl], by rw [cat_snoc, List.length_append, HLT.out]; omega, each_snoc hFe HB.out, by rw [cat_snoc, List.map_append]; exact hG12⟩, by simp [intOf]; omega⟩
            · refine wp_region_inv (by kernel_rfl) (by kernel_rfl) (BaseW w11.drew) (StepF w11.drew) (VF w11.drew [.eq (.pointer (some ⟨gt, 0, none⟩)), .eq (.bool true), .eq (.bool true), .eq (.int .i64 (k : Int)), .eq (.int .u8 (z : Int)), .eq (.int .u8 (q : Int)), .eq (.int .i64 (q : Int)), .eq (.bool false), .eq (.bool false), .eq (.bool false), .eq undef, .eq undef, .eq undef, .eq undef, .eq undef, .eq undef, .eq undef, .eq undef, .eq undef, .eq undef, .eq undef, .eq undef, .eq (.bool false)]) (VF.mono _ _) (Below.refl _ _) ?_ ?_
              · refine ⟨okf_move (.inl rfl) _ rfl _ rfl rfl fun x y hL _ hD => hL.rest 7 (by kernel_rfl),
                  okf_run (.inl rfl) _ rfl rfl fun x y hL hB hD => run_neq_ptr (.tmp 77) rfl gt (hD.1 rfl),
                  okf_move (.inl rfl) _ rfl _ rfl rfl fun x y hL _ hD => hD.1 rfl,
                  okf_move (.inr ⟨2, true, rfl, fun x y hL _ hD => hD.1 rfl⟩) _ rfl _ rfl rfl fun x y hL _ hD => hL.rest 9 (by kernel_rfl),
                  okf_move (.inr ⟨2, true, rfl, fun x y hL _ hD => hD.1 rfl⟩) _ rfl _ rfl rfl fun x y hL _ hD => hL.rest 1 (by kernel_rfl),
                  okf_run (.inr ⟨2, true, rfl, fun x y hL _ hD => hD.2.1 rfl⟩) _ rfl rfl fun x y hL hB hD => run_rem20 (.tmp 81) rfl z q hz HZ.out (hD.1 rfl),
                  okf_run (.inr ⟨2, true, rfl, fun x y hL _ hD => hD.2.1 rfl⟩) _ rfl rfl fun x y hL hB hD => run_conv53 (.tmp 82) rfl q hq20 (hD.1 rfl),
                  okf_run (.inr ⟨2, true, rfl, fun x y hL _ hD => hD.2.2.1 rfl⟩) _ rfl rfl fun x y hL hB hD => (run_eql_int (.tmp 80) (.tmp 83) rfl (k : Int) (q : Int) (hD.1 rfl) (hD.2.1 rfl)).trans (by rw [hkq2]),
                  okf_pick (.inl rfl) _ _ _ rfl true _ rfl rfl fun x y hL _ hD => ⟨hD.1 rfl, hD.2.1 rfl⟩,
                  okf_move (.inl rfl) _ rfl _ rfl rfl fun x y hL _ hD => hD.1 rfl,
                  okf_skip 9 true rfl rfl fun x y hL _ hD => hD.1 rfl,
                  okf_skip 9 true rfl rfl fun x y hL _ hD => hD.2.1 rfl,
                  okf_skip 9 true rfl rfl fun x y hL _ hD => hD.1 rfl,
                  okf_skip 9 true rfl rfl fun x y hL _ hD => hD.1 rfl,
                  okf_skip 9 true rfl rfl fun x y hL _ hD => hD.1 rfl,
                  okf_skip 9 true rfl rfl fun x y hL _ hD => hD.2.2.2.1 rfl,
                  okf_skip 9 true rfl rfl fun x y hL _ hD => hD.1 rfl,
                  okf_skip 9 true rfl rfl fun x y hL _ hD => hD.2.1 rfl,
                  okf_skip 9 true rfl rfl fun x y hL _ hD => hD.2.1 rfl,
                  okf_skip 9 true rfl rfl fun x y hL _ hD => hD.2.2.2.1 rfl,
                  okf_skip 9 true rfl rfl fun x y hL _ hD => hD.2.2.1 rfl,
                  okf_skip 9 true rfl rfl fun x y hL _ hD => hD.2.2.1 rfl,
                  okf_pick (.inl rfl) _ _ _ rfl false _ rfl rfl fun x y hL _ hD => ⟨hD.1 rfl, rfl⟩, trivial⟩
              intro a' w12 hL hB2 hV
              have hb12 : Below w11.heap.size w11 w12 := of_drew hB2
              obtain rfl := hL.puts [(77, (.pointer (some ⟨gt, 0, none⟩))), (78, (.bool true)), (79, (.bool true)), (80, (.int .i64 (k : Int))), (81, (.int .u8 (z : Int))), (82, (.int .u8 (q : Int))), (83, (.int .i64 (q : Int))), (84, (.bool false)), (85, (.bool false)), (86, (.bool false)), (87, undef), (88, undef), (89, undef), (90, undef), (91, undef), (92, undef), (93, undef), (94, undef), (95, undef), (96, undef), (97, undef), (98, undef), (99, (.bool false))] (by
                simp only [List.forall_mem_cons, List.not_mem_nil, false_implies, implies_true, and_true]
                exact ⟨hV 0 (of_decide_eq_true (by kernel_rfl)), hV 1 (of_decide_eq_true (by kernel_rfl)), hV 2 (of_decide_eq_true (by kernel_rfl)), hV 3 (of_decide_eq_true (by kernel_rfl)), hV 4 (of_decide_eq_true (by kernel_rfl)), hV 5 (of_decide_eq_true (by kernel_rfl)), hV 6 (of_decide_eq_true (by kernel_rfl)), hV 7 (of_decide_eq_true (by kernel_rfl)), hV 8 (of_decide_eq_true (by kernel_rfl)), hV 9 (of_decide_eq_true (by kernel_rfl)), hV 10 (of_decide_eq_true (by kernel_rfl)), hV 11 (of_decide_eq_true (by kernel_rfl)), hV 12 (of_decide_eq_true (by kernel_rfl)), hV 13 (of_decide_eq_true (by kernel_rfl)), hV 14 (of_decide_eq_true (by kernel_rfl)), hV 15 (of_decide_eq_true (by kernel_rfl)), hV 16 (of_decide_eq_true (by kernel_rfl)), hV 17 (of_decide_eq_true (by kernel_rfl)), hV 18 (of_decide_eq_true (by kernel_rfl)), hV 19 (of_decide_eq_true (by kernel_rfl)), hV 20 (of_decide_eq_true (by kernel_rfl)), hV 21 (of_decide_eq_true (by kernel_rfl)), hV 22 (of_decide_eq_true (by kernel_rfl))⟩) (by kernel_rfl)
              clear hL hV hB2 
              simp only [putAll, Act.put, List.setIfInBounds_toArray, List.set_cons_zero, List.set_cons_succ]
              have hG12 := hG11.later hb12
              clear hG11 hb12
              go_wp2_with fail
              exact ⟨⟨k + 1, FL ++ [(.slice pb m cb, B)], by omega, by omega, by go_num, .inr ⟨_, rfl⟩, by simp [hFl], by rw [cat_snoc, List.length_append, HLT.out]; omega, each_snoc hFe HB.out, by rw [cat_snoc, List.map_append]; exact hG12⟩, by simp [intOf]; omega⟩
    · have hTw := hG.below
      have hKr := hK.below hTw hK2
      have hHr := hH.below hTw (by omega)
      have HPA := Lib.hid (row_pat hG.row hFe hTw)
      have HAL := Lib.hid hG.all
      obtain ⟨n5, hn5⟩ : ∃ n, (cat FL).length = n := ⟨_, rfl⟩
      have HN5 := Lib.hid hn5
      have hn5b : n5 ≤ 10000 := by omega
      obtain ⟨p5, cap5, rfl⟩ := HAL.out.shapeN HN5.out
      clear hG htw hn5 hFe
      have hsm := same25 _ (shaL_length (cat FL))
      have hgd : Tryd.prog.eqGuardType Tryd.prog.depth 25 = false := by kernel_rfl
      by_cases hl1 : k < L
      · obtain ⟨gp, op, cap', e1, h2⟩ | ⟨e1, e2⟩ := HP.out
        rotate_left
        · have := HL.out; rw [e2] at this; simp at this; omega
        obtain ⟨rfl, e3, rfl⟩ : p = some ⟨gp, op, none⟩ ∧ L = l.length ∧ cap = cap' := by simpa using e1
        obtain ⟨x, hx⟩ : ∃ x, l[k]? = some x := ⟨l[k]'(by omega), List.getElem?_eq_getElem _⟩
        obtain ⟨bv, bb⟩ := x
        obtain ⟨q1, q3⟩ := h2 k _ hx
        simp only at q1 q3
        have c1 : wr.cell? ⟨gp, op + k, none⟩ = some bv := by rw [hTw.cell (p := ⟨gp, op + k, none⟩) (block_lt_of_cell q1)]; exact q1
        obtain rfl : k = 20 := by omega
        clear q1 q3 hx h2 e1 e3 hlt
        have hi1 : (20 : Int) < (L : Int) := by omega
        go_wp2_with fail
        refine (all_walk wr u8 FL HPA.out hKr hHr (by rw [HN5.out]; omega) (by omega)).mono ?_
        rintro e w2 ⟨rfl, hb2⟩
        have hT2 := hTw.trans (hb2.mono hTw.size)
        have HAL2 := Lib.hid (HAL.out.below hb2 fun k hk => (HAL.out.lt k hk).2)
        go_wp2_with fail
        refine (sum_walk w2 _ (cat FL) HAL2.out.toW (hK.below hT2 hK2) (hH.below hT2 (by omega)) (by rw [HN5.out]; omega)).mono ?_
        rintro e w3 ⟨rfl, hb3⟩
        have hT3 := hT2.trans (hb3.mono hT2.size)
        clear hb2 hb3 HAL HAL2 HPA
        generalize shaL (cat FL) = D at *
        go_wp2_with fail
        refine (wakes_walk w3 (hK.below hT3 hK2) (hH.below hT3 (by omega))).mono ?_
        rintro e w4 ⟨rfl, hb4⟩
        go_wp2_with fail
        go_ret
        exact ⟨rfl, hT3.trans (hb4.mono hT3.size)⟩
      · have hi1 : (L : Int) ≤ (k : Int) := by omega
        clear hlt
        go_wp2_with fail
        refine (all_walk wr u8 FL HPA.out hKr hHr (by rw [HN5.out]; omega) (by omega)).mono ?_
        rintro e w2 ⟨rfl, hb2⟩
        have hT2 := hTw.trans (hb2.mono hTw.size)
        have HAL2 := Lib.hid (HAL.out.below hb2 fun k hk => (HAL.out.lt k hk).2)
        go_wp2_with fail
        refine (sum_walk w2 _ (cat FL) HAL2.out.toW (hK.below hT2 hK2) (hH.below hT2 (by omega)) (by rw [HN5.out]; omega)).mono ?_
        rintro e w3 ⟨rfl, hb3⟩
        have hT3 := hT2.trans (hb3.mono hT2.size)
        clear hb2 hb3 HAL HAL2 HPA
        generalize shaL (cat FL) = D at *
        go_wp2_with fail
        refine (wakes_walk w3 (hK.below hT3 hK2) (hH.below hT3 (by omega))).mono ?_
        rintro e w4 ⟨rfl, hb4⟩
        go_wp2_with fail
        go_ret
        exact ⟨rfl, hT3.trans (hb4.mono hT3.size)⟩
end Go.Proofs.YtdkajbhhmgmohaaDoor
