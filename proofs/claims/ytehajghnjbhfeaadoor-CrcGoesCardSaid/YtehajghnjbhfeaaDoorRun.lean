/-
  The contracts of crc.Run's calls, crc.Of and the law's own tells.
-/
import Derived.Test.YtehajghnjbhfeaaDoorWords
import Derived.Deep.WholeRow
import Derived.Lib.SlBytesConst
namespace Go.Proofs.YtehajghnjbhfeaaDoor
open Go.RowKit Crc

/-- Nothing but block g has turned below the heap's end. -/
structure Only (g : Nat) (w w' : World) : Prop where
  os : w'.os = w.os
  tape : w'.tape = w.tape
  output : w'.output = w.output
  size : w.heap.size ≤ w'.heap.size
  block : ∀ k, k < w.heap.size → k ≠ g → w'.heap[k]? = w.heap[k]?
theorem Only.refl (g : Nat) (w : World) : Only g w w := ⟨rfl, rfl, rfl, Nat.le_refl _, fun _ _ _ => rfl⟩
theorem Only.trans {g : Nat} {a b c : World} (h : Only g a b) (k : Only g b c) : Only g a c :=
  ⟨k.os.trans h.os, k.tape.trans h.tape, k.output.trans h.output, Nat.le_trans h.size k.size, fun i hi hne => (k.block i (Nat.lt_of_lt_of_le hi h.size) hne).trans (h.block i hi hne)⟩
theorem Only.of_below {g : Nat} {a b : World} (h : Below a.heap.size a b) : Only g a b := ⟨h.os, h.tape, h.output, h.size, fun i hi _ => h.block i hi⟩
theorem Only.setCell {g : Nat} {a b : World} (h : Only g a b) (o : Nat) (v : Value) : Only g a (b.setCell ⟨g, o, none⟩ v) :=
  h.trans ⟨rfl, rfl, rfl, by simp [World.setCell], fun _ _ hne => heap_setCell_other _ _ _ _ hne⟩
theorem Only.alloc {g : Nat} {a b : World} (h : Only g a b) (o : Obj) : Only g a (b.alloc o) :=
  h.trans ⟨rfl, rfl, rfl, by simp, fun _ hk _ => Below.heap_alloc _ _ _ hk⟩
theorem Only.cell {g : Nat} {w w' : World} (h : Only g w w') {a : Addr} {v : Value} (hc : w.cell? a = some v) (hne : a.block ≠ g) : w'.cell? a = some v := by
  rw [World.cell?_of_block (w := w) (h.block a.block (block_lt_of_cell hc) hne)]; exact hc
theorem TAt.only {g : Nat} {w w' : World} (h : TAt w) (ho : Only g w w') (hg : g ≠ 0) : TAt w' := fun i hi => ho.cell (h i hi) (fun e => hg e.symm)
theorem TAt.below {w w' : World} (h : TAt w) {B : Nat} (hb : Below B w w') (hB : 0 < B) : TAt w' := fun i hi => by
  rw [hb.cell (p := ⟨0, i, none⟩) hB]; exact h i hi
theorem TAt.lt {w : World} (h : TAt w) : 0 < w.heap.size := block_lt_of_cell (h 0 (by omega))
theorem Below.of_only {g : Nat} {w w' : World} {B : Nat} (h : Only g w w') (hB : B ≤ g) (hs : B ≤ w.heap.size) : Below B w w' :=
  ⟨h.os, h.tape, h.output, h.size, fun k hk => h.block k (by omega) (by omega)⟩
theorem BytesAt.lt {w : World} {g o : Nat} {bs : List UInt8} (h : BytesAt w g o bs) (h0 : 0 < bs.length) : g < w.heap.size :=
  block_lt_of_cell (h 0 h0)
theorem BytesAt.below {w w' : World} {g o B : Nat} {bs : List UInt8} (h : BytesAt w g o bs) (hb : Below B w w') (hg : g < B) : BytesAt w' g o bs :=
  fun i hi => by rw [hb.cell (p := ⟨g, o + i, none⟩) hg]; exact h i hi
theorem BytesAt.only {g gs o : Nat} {w w' : World} {bs : List UInt8} (h : BytesAt w g o bs) (ho : Only gs w w') (hg : g ≠ gs) : BytesAt w' g o bs := fun i hi => ho.cell (h i hi) hg
theorem BytesAt.drop {w : World} {g o : Nat} {bs : List UInt8} (h : BytesAt w g o bs) (k : Nat) : BytesAt w g (o + k) (bs.drop k) := fun i hi => by
  have := h (k + i) (by simp at hi; omega)
  rw [Nat.add_assoc, this]; simp
theorem BytesAt.take {w : World} {g o : Nat} {bs : List UInt8} (h : BytesAt w g o bs) (k : Nat) : BytesAt w g o (bs.take k) := fun i hi => by
  have := h i (by simp at hi; omega)
  rw [this]; simp at hi; simp [show i < k by omega]
theorem SlW.below {w w' : World} {v : Value} {bs : List UInt8} (h : SlW w v bs) {B : Nat} (hb : Below B w w') (hB : w.heap.size ≤ B) : SlW w' v bs := by
  rcases h with ⟨g, o, cap, h1, h2, h3⟩ | h
  · refine .inl ⟨g, o, cap, h1, h2, ?_⟩
    intro i hi
    have h0 := h3.lt (by omega)
    rw [hb.cell (p := ⟨g, o + i, none⟩) (by show g < B; omega)]; exact h3 i hi
  · exact .inr h

/-- A slice value reads as these bytes, none of them in block gs. -/
def SlB (gs : Nat) (w : World) (v : Value) (bs : List UInt8) : Prop :=
  (∃ g o cap, v = .slice (some ⟨g, o, none⟩) bs.length cap ∧ bs.length ≤ cap ∧ (0 < bs.length → g ≠ gs) ∧ BytesAt w g o bs) ∨ (∃ p, v = .slice p 0 0 ∧ bs = [])
theorem SlB.only {gs : Nat} {w w' : World} {v : Value} {bs : List UInt8} (h : SlB gs w v bs) (ho : Only gs w w') : SlB gs w' v bs := by
  rcases h with ⟨g, o, cap, h1, h2, h3, h4⟩ | h
  · refine .inl ⟨g, o, cap, h1, h2, h3, ?_⟩
    by_cases h0 : 0 < bs.length
    · exact h4.only ho (h3 h0)
    · intro i hi; omega
  · exact .inr h
theorem SlB.toW {gs : Nat} {w : World} {v : Value} {bs : List UInt8} (h : SlB gs w v bs) : SlW w v bs := by
  rcases h with ⟨g, o, cap, h1, h2, h3, h4⟩ | h
  · exact .inl ⟨g, o, cap, h1, h2, h4⟩
  · exact .inr h
theorem SlW.toB {w : World} {v : Value} {bs : List UInt8} (h : SlW w v bs) {gs : Nat} (hg : w.heap.size ≤ gs) : SlB gs w v bs := by
  rcases h with ⟨g, o, cap, h1, h2, h3⟩ | h
  · exact .inl ⟨g, o, cap, h1, h2, fun h0 => by have := h3.lt h0; omega, h3⟩
  · exact .inr h
theorem SlB.shape {gs : Nat} {w : World} {v : Value} {bs : List UInt8} (h : SlB gs w v bs) : ∃ p cap, v = .slice p bs.length cap := by
  rcases h with ⟨g, o, cap, h, _⟩ | ⟨p, h, rfl⟩
  · exact ⟨_, _, h⟩
  · exact ⟨_, _, h⟩

/-- Parts: slice values, each with the bytes that it reads as; nothing of it in block gs. -/
def PB (gs : Nat) (w : World) (v : Value) (l : List (Value × List UInt8)) : Prop :=
  (∃ gp op cap, v = .slice (some ⟨gp, op, none⟩) l.length cap ∧ (0 < l.length → gp ≠ gs) ∧ ∀ i x, l[i]? = some x → w.cell? ⟨gp, op + i, none⟩ = some x.1 ∧ SlB gs w x.1 x.2) ∨ (v = .slice none 0 0 ∧ l = [])
theorem PB.only {gs : Nat} {w w' : World} {v : Value} {l : List (Value × List UInt8)} (h : PB gs w v l) (ho : Only gs w w') : PB gs w' v l := by
  rcases h with ⟨gp, op, cap, h1, h2, h3⟩ | h
  · exact .inl ⟨gp, op, cap, h1, h2, fun i x hx => ⟨ho.cell (h3 i x hx).1 (h2 (by have := (List.getElem?_eq_some_iff.1 hx).1; omega)), (h3 i x hx).2.only ho⟩⟩
  · exact .inr h
def cat (l : List (Value × List UInt8)) : List UInt8 := (l.map (·.2)).flatten
theorem cat_take_succ (l : List (Value × List UInt8)) (k : Nat) (x : Value × List UInt8) (hx : l[k]? = some x) : cat (l.take (k + 1)) = cat (l.take k) ++ x.2 := by
  rw [List.take_add_one, hx]; simp [cat]
theorem cat_take_le (l : List (Value × List UInt8)) (k : Nat) : (cat (l.take k)).length ≤ (cat l).length := by
  have : cat l = cat (l.take k) ++ cat (l.drop k) := by
    unfold cat; rw [← List.flatten_append, ← List.map_append, List.take_append_drop]
  rw [this, List.length_append]; omega
theorem cat_take_le' (l : List (Value × List UInt8)) (k : Nat) (x : Value × List UInt8) (hx : l[k]? = some x) : (cat (l.take k)).length + x.2.length ≤ (cat l).length := by
  have := cat_take_le l (k + 1); rw [cat_take_succ l k x hx] at this; simpa using this

/-- A Run's cells. -/
def rc (s : W) (n : Nat) : Array Value := #[.int .u32 (iv s), .int .i64 n]
def RunAt (g T : Nat) (w : World) (s : W) (n : Nat) : Prop := w.heap[g]? = some (.cells (rc s n) T (0, 0))
theorem RunAt.c0 {g T : Nat} {w : World} {s : W} {n : Nat} (h : RunAt g T w s n) : w.cell? ⟨g, 0, none⟩ = some (.int .u32 (iv s)) := cell_of_row _ _ _ _ _ _ h
theorem RunAt.c1 {g T : Nat} {w : World} {s : W} {n : Nat} (h : RunAt g T w s n) : w.cell? ⟨g, 1, none⟩ = some (.int .i64 n) := cell_of_row _ _ _ _ _ _ h
theorem RunAt.free {g T : Nat} {w : World} {s : W} {n : Nat} (h : RunAt g T w s n) (o : Nat) : w.frozen? ⟨g, o, none⟩ = false := frozen_of_row _ _ _ _ _ h
theorem RunAt.set0 {g T : Nat} {w : World} {s : W} {n : Nat} (h : RunAt g T w s n) (t : W) : RunAt g T (w.setCell ⟨g, 0, none⟩ (.int .u32 (iv t))) t n := (heap_setCell_same _ _ _ _ _ _ h).trans rfl
theorem RunAt.set1 {g T : Nat} {w : World} {s : W} {n : Nat} (h : RunAt g T w s n) (m : Nat) : RunAt g T (w.setCell ⟨g, 1, none⟩ (.int .i64 m)) s m := (heap_setCell_same _ _ _ _ _ _ h).trans rfl
theorem RunAt.alloc {g T : Nat} {w : World} {s : W} {n : Nat} (h : RunAt g T w s n) (o : Obj) : RunAt g T (w.alloc o) s n := (Below.heap_alloc _ _ _ (Array.getElem?_eq_some_iff.1 h).1).trans h
theorem RunAt.lt {g T : Nat} {w : World} {s : W} {n : Nat} (h : RunAt g T w s n) : g < w.heap.size := (Array.getElem?_eq_some_iff.1 h).1

set_option maxHeartbeats 400000 in
theorem runsum_walk (g T : Nat) (s : W) (n : Nat) (w : World) (h : RunAt g T w s n) :
    Calls Tryd.prog 10 #[.pointer (some ⟨g, 0, none⟩)] w fun e w' => e = .returned (.int .u32 (iv s)) ∧ w = w' := by
  have c0 := h.c0
  clear h
  go_enter Tryd.func10, Tryd.ntmps10
  go_wp2
  go_ret
  exact ⟨rfl, rfl⟩
set_option maxHeartbeats 400000 in
theorem runlen_walk (g T : Nat) (s : W) (n : Nat) (w : World) (h : RunAt g T w s n) :
    Calls Tryd.prog 11 #[.pointer (some ⟨g, 0, none⟩)] w fun e w' => e = .returned (.int .i64 n) ∧ w = w' := by
  have c0 := h.c1
  clear h
  go_enter Tryd.func11, Tryd.ntmps11
  go_wp2
  go_ret
  exact ⟨rfl, rfl⟩

def AddPost (g T : Nat) (s : W) (n : Nat) (l : List (Value × List UInt8)) (w : World) (e : Ending) (w' : World) : Prop :=
  e = .returned (.tuple #[]) ∧ Only g w w' ∧ RunAt g T w' (on s (cat l)) (n + (cat l).length)
def AddRel (g T : Nat) (s : W) (n : Nat) (l : List (Value × List UInt8)) (w : World) (v : Value) (wr : World) : Prop :=
  ∃ k : Nat, k ≤ l.length ∧ v = .int .i64 k ∧ Only g w wr ∧ RunAt g T wr (on s (cat (l.take k))) (n + (cat (l.take k)).length)
theorem PB.shape {gs : Nat} {w : World} {v : Value} {l : List (Value × List UInt8)} (h : PB gs w v l) : ∃ p cap, v = .slice p l.length cap := by
  rcases h with ⟨g, o, cap, h, _⟩ | ⟨h, rfl⟩
  · exact ⟨_, _, h⟩
  · exact ⟨_, _, h⟩
set_option maxRecDepth 100000 in
set_option maxHeartbeats 400000 in
theorem add_walk (g T : Nat) (s : W) (n : Nat) (w : World) (v : Value) (l : List (Value × List UInt8)) (hv : PB g w v l) (hR : RunAt g T w s n) (hT : TAt w) (hg : g ≠ 0)
    (hlen : n + (cat l).length ≤ 549755813888) (hll : l.length ≤ 1099511627776) :
    Calls Tryd.prog 8 #[.pointer (some ⟨g, 0, none⟩), v] w (AddPost g T s n l w) := by
  obtain ⟨p, cap, rfl⟩ := hv.shape
  have HV := Lib.hid hv
  clear hv
  generalize hll' : l.length = m at *
  have HN := Lib.hid hll'
  clear hll'
  go_enter Tryd.func8, Tryd.ntmps8
  go_wp2_with fail
  go_loopw [10] (fun v wr => AddRel g T s n l w v wr) (fun v _ => m - (intOf v).toNat)
  case atStart => exact ⟨0, by omega, rfl, Only.refl _ _, by simpa [cat, on_nil] using hR⟩
  case round =>
    obtain ⟨k, hk, rfl, ho, hr⟩ := hrel
    by_cases hlt : k < m
    · obtain ⟨gp, op, cap', e1, h2, h3⟩ | ⟨e1, e2⟩ := HV.out.only ho
      rotate_left
      · have := HN.out; rw [e2] at this; simp at this; omega
      · obtain ⟨rfl, e3, rfl⟩ : p = some ⟨gp, op, none⟩ ∧ m = l.length ∧ cap = cap' := by simpa using e1
        obtain ⟨x, hx⟩ : ∃ x, l[k]? = some x := ⟨l[k]'(by omega), List.getElem?_eq_getElem _⟩
        obtain ⟨hcr, hsl⟩ := h3 k x hx
        have HX := Lib.hid (cat_take_succ l k x hx)
        have hlx := cat_take_le' l k x hx
        have hTr := hT.only ho hg
        obtain ⟨xv, xb⟩ := x
        simp only at hcr hsl hlx HX
        obtain ⟨q, cq, rfl⟩ := hsl.shape
        have HSL := Lib.hid hsl.toW
        have HR := Lib.hid hr
        have c0 := hr.c0
        have f0 := hr.free 0
        have hki : (k : Int) < (m : Int) := by omega
        have HE : Hid (on s (cat (l.take (k + 1))) = on (on s (cat (l.take k))) xb) := Lib.hid (by rw [HX.out, on_append])
        have HC : Hid (n + (cat (l.take (k + 1))).length = n + (cat (l.take k)).length + xb.length) := Lib.hid (by rw [HX.out, List.length_append, Nat.add_assoc])
        have hxl : xb.length ≤ 1099511627776 := by omega
        have HXL := Lib.hid hxl
        have hnn : n + (cat (l.take k)).length + xb.length ≤ 549755813888 := by omega
        clear e1 e3 h2 h3 hx hr hsl hxl HX hlx
        generalize hcn : n + (cat (l.take k)).length = cn at *
        clear hcn
        generalize on s (cat (l.take k)) = r at *
        generalize hq : xb.length = xl at *
        have HQ := Lib.hid hq
        clear hq
        go_wp2_with fail
        refine (behind_walk wr (~~~r) _ xb HSL.out hTr (by rw [HQ.out]; exact HXL.out)).mono ?_
        rintro e w' ⟨rfl, rfl⟩
        have hon : iv (~~~(reg (~~~r) xb)) = iv (on r xb) := rfl
        have HR2 := Lib.hid (HR.out.set0 (on r xb))
        have c1 := HR2.out.c1
        have f1 := HR2.out.free 1
        have HO2 := Lib.hid (ho.setCell 0 (.int .u32 (iv (on r xb))))
        clear HSL hTr
        go_wp2_with fail
        refine ⟨⟨k + 1, by have := HN.out; omega, by go_num, HO2.out.setCell _ _, ?_⟩, by simp [intOf]; omega⟩
        rw [HE.out, HC.out]
        have := HR2.out.set1 (cn + xl)
        simpa using this
    · have hki : (m : Int) ≤ (k : Int) := by omega
      have HC : Hid (cat (l.take k) = cat l) := Lib.hid (by rw [List.take_of_length_le (by have := HN.out; omega)])
      have HQ : Hid (AddPost g T s n l w (.returned (.tuple #[])) wr) := Lib.hid ⟨rfl, ho, by rw [← HC.out]; exact hr⟩
      clear hr ho
      go_wp2_with fail
      go_end0
      exact HQ.out
theorem PB.alloc {gs : Nat} {w : World} {v : Value} {l : List (Value × List UInt8)} (h : PB gs w v l) (o : Obj) : PB gs (w.alloc o) v l := h.only ((Only.refl _ _).alloc _)
theorem TAt.alloc {w : World} (h : TAt w) (o : Obj) : TAt (w.alloc o) := h.below ((Below.refl _ w).alloc (Nat.le_refl _) o) h.lt
/-- One part in a block of its own. -/
theorem PB.one {gs : Nat} {w : World} {v : Value} {bs : List UInt8} (h : SlB gs w v bs) (hg : gs < w.heap.size) (T : Nat) : PB gs (w.alloc (.cells #[v] T)) (.slice (some ⟨w.heap.size, 0, none⟩) 1 1) [(v, bs)] :=
  .inl ⟨w.heap.size, 0, 1, rfl, fun _ => by omega, fun i x hx => by
    match i, hx with
    | 0, hx =>
      simp at hx; subst hx
      exact ⟨(cell_of_row _ _ _ _ _ _ (heap_alloc_new _ _)).trans rfl, h.only ((Only.refl _ _).alloc _)⟩
    | i + 1, hx => simp at hx⟩
theorem cat_one (v : Value) (bs : List UInt8) : cat [(v, bs)] = bs := by simp [cat]
set_option maxRecDepth 100000 in
set_option maxHeartbeats 400000 in
theorem each_walk (g T : Nat) (s : W) (n : Nat) (w : World) (v : Value) (l : List (Value × List UInt8)) (hv : PB g w v l) (hR : RunAt g T w s n) (hT : TAt w) (hg : g ≠ 0)
    (hlen : n + (cat l).length ≤ 549755813888) (hll : l.length ≤ 1099511627776) :
    Calls Tryd.prog 17 #[.func (.func 8) #[.pointer (some ⟨g, 0, none⟩)] #[], v] w (AddPost g T s n l w) := by
  obtain ⟨p, cap, rfl⟩ := hv.shape
  have HV := Lib.hid hv
  clear hv
  generalize hll' : l.length = m at *
  have HN := Lib.hid hll'
  clear hll'
  go_enter Tryd.func17, Tryd.ntmps17
  go_wp2_with fail
  go_loopw [8] (fun v wr => AddRel g T s n l w v wr) (fun v _ => m - (intOf v).toNat)
  case atStart => exact ⟨0, by omega, rfl, Only.refl _ _, by simpa [cat, on_nil] using hR⟩
  case round =>
    obtain ⟨k, hk, rfl, ho, hr⟩ := hrel
    by_cases hlt : k < m
    · obtain ⟨gp, op, cap', e1, h2, h3⟩ | ⟨e1, e2⟩ := HV.out.only ho
      rotate_left
      · have := HN.out; rw [e2] at this; simp at this; omega
      · obtain ⟨rfl, e3, rfl⟩ : p = some ⟨gp, op, none⟩ ∧ m = l.length ∧ cap = cap' := by simpa using e1
        obtain ⟨x, hx⟩ : ∃ x, l[k]? = some x := ⟨l[k]'(by omega), List.getElem?_eq_getElem _⟩
        obtain ⟨hcr, hsl⟩ := h3 k x hx
        have HX := Lib.hid (cat_take_succ l k x hx)
        have hlx := cat_take_le' l k x hx
        have hTr := hT.only ho hg
        obtain ⟨xv, xb⟩ := x
        simp only at hcr hsl hlx HX
        obtain ⟨q, cq, rfl⟩ := hsl.shape
        have HSL := Lib.hid hsl
        have HR := Lib.hid hr
        have hki : (k : Int) < (m : Int) := by omega
        have HE : Hid (on s (cat (l.take (k + 1))) = on (on s (cat (l.take k))) xb) := Lib.hid (by rw [HX.out, on_append])
        have HC : Hid (n + (cat (l.take (k + 1))).length = n + (cat (l.take k)).length + xb.length) := Lib.hid (by rw [HX.out, List.length_append, Nat.add_assoc])
        have hnn : n + (cat (l.take k)).length + xb.length ≤ 549755813888 := by omega
        clear e1 e3 h2 h3 hx hr hsl HX hlx
        generalize hcn : n + (cat (l.take k)).length = cn at *
        clear hcn
        generalize on s (cat (l.take k)) = r at *
        generalize hq : xb.length = xl at *
        have HQ := Lib.hid hq
        clear hq
        go_wp2_with fail
        have hlt2 := HR.out.lt
        have hP := PB.one HSL.out hlt2 27
        refine (add_walk g T r cn _ _ [(.slice q xl cq, xb)] hP (HR.out.alloc _) (hTr.alloc _) hg (by rw [cat_one, HQ.out]; exact hnn) (by simp)).mono ?_
        rintro e w5 ⟨rfl, ho5, hr5⟩
        rw [cat_one] at hr5
        have HR5 := Lib.hid hr5
        clear hr5 hP
        go_wp2_with fail
        refine ⟨⟨k + 1, by have := HN.out; omega, by go_num, (ho.alloc _).trans ho5, ?_⟩, by simp [intOf]; omega⟩
        rw [HE.out, HC.out]
        have := HR5.out
        rw [HQ.out] at this
        exact this
    · have hki : (m : Int) ≤ (k : Int) := by omega
      have HC : Hid (cat (l.take k) = cat l) := Lib.hid (by rw [List.take_of_length_le (by have := HN.out; omega)])
      have HQ : Hid (AddPost g T s n l w (.returned (.tuple #[])) wr) := Lib.hid ⟨rfl, ho, by rw [← HC.out]; exact hr⟩
      clear hr ho
      go_wp2_with fail
      go_end0
      exact HQ.out
/-- Parts: slice values, each with the bytes that it reads as. -/
def PAt (w : World) (v : Value) (l : List (Value × List UInt8)) : Prop :=
  (∃ gp op cap, v = .slice (some ⟨gp, op, none⟩) l.length cap ∧ ∀ i x, l[i]? = some x → w.cell? ⟨gp, op + i, none⟩ = some x.1 ∧ SlW w x.1 x.2) ∨ (v = .slice none 0 0 ∧ l = [])
theorem PAt.toB {w : World} {v : Value} {l : List (Value × List UInt8)} (h : PAt w v l) : PB w.heap.size w v l := by
  rcases h with ⟨gp, op, cap, h1, h2⟩ | h
  · refine .inl ⟨gp, op, cap, h1, fun h0 => ?_, fun i x hx => ⟨(h2 i x hx).1, (h2 i x hx).2.toB (Nat.le_refl _)⟩⟩
    have := block_lt_of_cell (h2 0 l[0] (List.getElem?_eq_getElem h0)).1
    simp at this
    omega
  · exact .inr h
theorem PAt.below {w w' : World} {v : Value} {l : List (Value × List UInt8)} (h : PAt w v l) (hb : Below w.heap.size w w') : PAt w' v l := by
  rcases h with ⟨gp, op, cap, h1, h2⟩ | h
  · exact .inl ⟨gp, op, cap, h1, fun i x hx => ⟨by rw [hb.cell (p := ⟨gp, op + i, none⟩) (block_lt_of_cell (h2 i x hx).1)]; exact (h2 i x hx).1, (h2 i x hx).2.below hb (Nat.le_refl _)⟩⟩
  · exact .inr h
def SumPost (bs : List UInt8) (w : World) (e : Ending) (w' : World) : Prop := e = .returned (.int .u32 (iv (crcL bs))) ∧ Below w.heap.size w w'
theorem run0 (w : World) : RunAt w.heap.size 25 (w.alloc (.cells #[.int .u32 0, .int .i64 0] 25)) 0#32 0 := heap_alloc_new _ _
set_option maxRecDepth 100000 in
set_option maxHeartbeats 400000 in
theorem of_walk (w : World) (v : Value) (l : List (Value × List UInt8)) (hv : PAt w v l) (hT : TAt w) (hlen : (cat l).length ≤ 549755813888) (hll : l.length ≤ 1099511627776) :
    Calls Tryd.prog 12 #[v] w (SumPost (cat l) w) := by
  have HV := Lib.hid hv.toB
  have h0 := hT.lt
  obtain ⟨p, cap, rfl⟩ := hv.toB.shape
  clear hv
  have HB : Hid (Below w.heap.size w (w.alloc (.cells #[.int .u32 0, .int .i64 0] 25))) := Lib.hid ((Below.refl _ _).alloc (Nat.le_refl _) _)
  have HV1 := Lib.hid (HV.out.alloc (.cells #[.int .u32 0, .int .i64 0] 25))
  have HR1 := Lib.hid (run0 w)
  have HT1 := hT.alloc (.cells #[.int .u32 0, .int .i64 0] 25)
  have HLL := Lib.hid hll
  clear hll
  clear HV
  generalize hm : l.length = m at HV1 ⊢
  clear hm
  go_enter Tryd.func12, Tryd.ntmps12
  go_wp2_with fail
  refine (each_walk w.heap.size 25 0#32 0 _ _ l HV1.out HR1.out HT1 (by omega) (by omega) HLL.out).mono ?_
  rintro e w2 ⟨rfl, ho2, hr2⟩
  have HB2 := Lib.hid (HB.out.trans (Below.of_only ho2 (Nat.le_refl _) (by simp)))
  have HR2 := Lib.hid hr2
  clear hr2 ho2
  go_wp2_with fail
  refine (runsum_walk _ _ _ _ _ HR2.out).mono ?_
  rintro e w' ⟨rfl, rfl⟩
  go_wp2_with fail
  go_ret
  exact ⟨rfl, HB2.out⟩
theorem slw_row (w : World) (l : List UInt8) (t : TypeId) (fr : Nat × Nat) : SlW (w.alloc (.cells (bcells l) t fr)) (.slice (some ⟨w.heap.size, 0, none⟩) l.length l.length) l :=
  .inl ⟨w.heap.size, 0, l.length, rfl, Nat.le_refl _, fun i hi => by
    rw [Nat.zero_add, cell_of_row _ _ _ _ _ _ (heap_alloc_new _ _)]; exact bcells_at l i hi⟩
theorem pat_row {w : World} (l : List (Value × List UInt8)) (h : ∀ x ∈ l, SlW w x.1 x.2) (t : TypeId) (fr : Nat × Nat) : PAt (w.alloc (.cells (l.map (·.1)).toArray t fr)) (.slice (some ⟨w.heap.size, 0, none⟩) l.length l.length) l :=
  .inl ⟨w.heap.size, 0, l.length, rfl, fun i x hx => by
    refine ⟨?_, (h x (List.mem_of_getElem? hx)).below ((Below.refl _ _).alloc (Nat.le_refl _) _) (Nat.le_refl _)⟩
    rw [Nat.zero_add, cell_of_row _ _ _ _ _ _ (heap_alloc_new _ _)]; simp [hx]⟩
def BoolPost (b : Bool) (w : World) (e : Ending) (w' : World) : Prop := e = .returned (.bool b) ∧ Below w.heap.size w w'
theorem size_alloc (w : World) (o : Obj) : (w.alloc o).heap.size = w.heap.size + 1 := by simp
theorem tell1 (w : World) : PAt ((w.alloc (.cells #[.int .u8 97] 5 (1, 2))).alloc (.cells #[.slice (some ⟨w.heap.size, 0, none⟩) 1 1] 27)) (.slice (some ⟨w.heap.size + 1, 0, none⟩) 1 1) [(.slice (some ⟨w.heap.size, 0, none⟩) 1 1, [97])] := by
  have h := pat_row (w := w.alloc (.cells #[.int .u8 97] 5 (1, 2))) [(.slice (some ⟨w.heap.size, 0, none⟩) 1 1, [97])] (fun x hx => by
    obtain rfl := List.mem_singleton.1 hx
    exact slw_row w [97] 5 (1, 2)) 27 (0, 0)
  rw [size_alloc] at h
  exact h
theorem tell2 (w : World) : PAt (((w.alloc (.cells #[.int .u8 49, .int .u8 50, .int .u8 51, .int .u8 52] 5 (4, 5))).alloc (.cells #[.int .u8 53, .int .u8 54, .int .u8 55, .int .u8 56, .int .u8 57] 5 (5, 6))).alloc (.cells #[.slice (some ⟨w.heap.size, 0, none⟩) 4 4, .slice none 0 0, .slice (some ⟨w.heap.size + 1, 0, none⟩) 5 5] 27))
    (.slice (some ⟨w.heap.size + 2, 0, none⟩) 3 3) [(.slice (some ⟨w.heap.size, 0, none⟩) 4 4, [49, 50, 51, 52]), (.slice none 0 0, []), (.slice (some ⟨w.heap.size + 1, 0, none⟩) 5 5, [53, 54, 55, 56, 57])] := by
  have h1 := slw_row w [49, 50, 51, 52] 5 (4, 5)
  have h2 := slw_row (w.alloc (.cells #[.int .u8 49, .int .u8 50, .int .u8 51, .int .u8 52] 5 (4, 5))) [53, 54, 55, 56, 57] 5 (5, 6)
  rw [size_alloc] at h2
  have h := pat_row (w := (w.alloc (.cells #[.int .u8 49, .int .u8 50, .int .u8 51, .int .u8 52] 5 (4, 5))).alloc (.cells #[.int .u8 53, .int .u8 54, .int .u8 55, .int .u8 56, .int .u8 57] 5 (5, 6)))
    [(.slice (some ⟨w.heap.size, 0, none⟩) 4 4, [49, 50, 51, 52]), (.slice none 0 0, []), (.slice (some ⟨w.heap.size + 1, 0, none⟩) 5 5, [53, 54, 55, 56, 57])] (fun x hx => by
    simp only [List.mem_cons, List.not_mem_nil, or_false] at hx
    rcases hx with rfl | rfl | rfl
    · exact SlW.below h1 ((Below.refl _ _).alloc (Nat.le_refl _) _) (Nat.le_refl _)
    · exact .inr ⟨none, rfl, rfl⟩
    · exact h2) 27 (0, 0)
  rw [size_alloc, size_alloc] at h
  exact h
theorem k0 : iv (crcL (cat [])) = 0 := by rw [show cat [] = [] from rfl, ex0]; rfl
theorem k1 (a : Value) : iv (crcL (cat [(a, [97])])) = 3904355907 := by rw [show cat [(a, [97])] = [97] from rfl, ex1]; rfl
theorem k2 (a b c : Value) : iv (crcL (cat [(a, [49, 50, 51, 52]), (b, []), (c, [53, 54, 55, 56, 57])])) = 3421780262 := by rw [show cat [(a, [49, 50, 51, 52]), (b, []), (c, [53, 54, 55, 56, 57])] = [49, 50, 51, 52, 53, 54, 55, 56, 57] from rfl, ex2]; rfl
theorem k3 : iv (zerosL 0#32 4) = 558161692 := by rw [ex3]; rfl
set_option maxRecDepth 100000 in
set_option maxHeartbeats 400000 in
theorem tells_walk (w : World) (hT : TAt w) : Calls Tryd.prog 13 #[] w (BoolPost true w) := by
  have h0 := hT.lt
  have kc := fun (w : World) (C : Array Value) (n c : Nat) => Lib.run_convert_bytes_const (P := Tryd.prog) w 27 5 C n c Tryd.underlying27 Tryd.underlying5
  have kc2 : ∀ (w : World) (A : Obj) (C : Array Value) (n c : Nat), (convert 27 27 (.slice (some ⟨w.heap.size + 1, 0, none⟩) n c)).run Tryd.prog ((w.alloc A).alloc (.cells C 5)) = .ok (.slice (some ⟨w.heap.size + 1, 0, none⟩) n c) ((w.alloc A).alloc (.cells C 5 (C.size, C.size + 1))) := fun w A C n c => by
    have h := Lib.run_convert_bytes_const (P := Tryd.prog) (w.alloc A) 27 5 C n c Tryd.underlying27 Tryd.underlying5
    rw [size_alloc] at h
    exact h
  go_enter Tryd.func13, Tryd.ntmps13
  go_wp2_with fail
  refine (of_walk w _ [] (.inr ⟨rfl, rfl⟩) hT (by simp [cat]) (by simp)).mono ?_
  rintro e w1 ⟨rfl, hb1⟩
  have hz1 := hb1.size
  rw [k0]
  go_wp2_with fail
  have hP2 := tell1 w1
  have hb2 : Below w.heap.size w ((w1.alloc (.cells #[.int .u8 97] 5 (1, 2))).alloc (.cells #[.slice (some ⟨w1.heap.size, 0, none⟩) 1 1] 27)) := (hb1.alloc hz1 _).alloc (by simp; omega) _
  have hz2 := hb2.size
  refine (of_walk _ _ _ hP2 (hT.below hb2 h0) (by simp [cat]) (by simp)).mono ?_
  rintro e w3 ⟨rfl, hb3⟩
  rw [k1]
  have hb13 : Below w.heap.size w w3 := hb2.trans (hb3.mono hz2)
  have hz3 := hb13.size
  clear hb3 hb2 hP2 hb1 hz1 hz2
  go_wp2_with fail
  have hP4 := tell2 w3
  have hb4 : Below w.heap.size w (((w3.alloc (.cells #[.int .u8 49, .int .u8 50, .int .u8 51, .int .u8 52] 5 (4, 5))).alloc (.cells #[.int .u8 53, .int .u8 54, .int .u8 55, .int .u8 56, .int .u8 57] 5 (5, 6))).alloc (.cells #[.slice (some ⟨w3.heap.size, 0, none⟩) 4 4, .slice none 0 0, .slice (some ⟨w3.heap.size + 1, 0, none⟩) 5 5] 27)) := ((hb13.alloc hz3 _).alloc (by simp; omega) _).alloc (by simp; omega) _
  have hz4 := hb4.size
  refine (of_walk _ _ _ hP4 (hT.below hb4 h0) (by simp [cat]) (by simp)).mono ?_
  rintro e w5 ⟨rfl, hb5⟩
  rw [k2]
  have hb15 : Below w.heap.size w w5 := hb4.trans (hb5.mono hz4)
  have hz5 := hb15.size
  clear hb5 hb4 hP4 hb13 hz3 hz4
  go_wp2_with fail
  refine (zeros_walk 0#32 4 _ (by omega)).mono ?_
  rintro e w' ⟨rfl, rfl⟩
  rw [k3]
  go_wp2_with fail
  go_ret
  exact ⟨rfl, hb15⟩
end Go.Proofs.YtehajghnjbhfeaaDoor
