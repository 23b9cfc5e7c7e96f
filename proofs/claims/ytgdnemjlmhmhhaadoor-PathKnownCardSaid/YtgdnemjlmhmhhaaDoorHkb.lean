/-
  PathKnown's texts and what is known of them.
-/
import Derived.Test.YtgdnemjlmhmhhaaDoorHka
import Derived.Test.YtgdnemjlmhmhhaaDoorHwb
import Derived.Test.YtgdnemjlmhmhhaaDoorHla
namespace Go.Proofs.YtgdnemjlmhmhhaaDoor
open Go.RowKit Go.Maps Inv

theorem like_eq {a0 a : Act} (hn : a0.tmps.size = 232) (h : Like opsK a0 a) {v29 v30 v31 v32 v33 v34 : Value} (h29 : a.eval (.tmp 29) = v29) (h30 : a.eval (.tmp 30) = v30) (h31 : a.eval (.tmp 31) = v31) (h32 : a.eval (.tmp 32) = v32) (h33 : a.eval (.tmp 33) = v33) (h34 : a.eval (.tmp 34) = v34) :
    a = ⟨(((((a0.tmps.setIfInBounds 29 v29).setIfInBounds 30 v30).setIfInBounds 31 v31).setIfInBounds 32 v32).setIfInBounds 33 v33).setIfInBounds 34 v34, a0.defers⟩ := by
  have hs := h.size.trans hn
  have hd := h.defers
  have hev : ∀ i : Nat, i < 232 → a.tmps[i]? = some (a.eval (.tmp i)) := fun i hi => by
    show a.tmps[i]? = some (a.tmps.getD i undef)
    have hi2 : i < a.tmps.size := by rw [hs]; exact hi
    simp [hi2]
  have hev0 : ∀ i : Nat, i < 232 → a0.tmps[i]? = some (a0.eval (.tmp i)) := fun i hi => by
    show a0.tmps[i]? = some (a0.tmps.getD i undef)
    have hi2 : i < a0.tmps.size := by rw [hn]; exact hi
    simp [hi2]
  have ht : a.tmps = (((((a0.tmps.setIfInBounds 29 v29).setIfInBounds 30 v30).setIfInBounds 31 v31).setIfInBounds 32 v32).setIfInBounds 33 v33).setIfInBounds 34 v34 := by
    apply Array.ext_getElem?
    intro i
    by_cases hi : i < 232
    · rw [hev i hi]
      by_cases e34 : i = 34
      · subst e34; rw [h34]; simp [hn]
      by_cases e33 : i = 33
      · subst e33; rw [h33]; simp [hn]
      by_cases e32 : i = 32
      · subst e32; rw [h32]; simp [hn]
      by_cases e31 : i = 31
      · subst e31; rw [h31]; simp [hn]
      by_cases e30 : i = 30
      · subst e30; rw [h30]; simp [hn]
      by_cases e29 : i = 29
      · subst e29; rw [h29]; simp [hn]
      have hr := h.rest i (by simp [opsK, Ne.symm e29, Ne.symm e30, Ne.symm e31, Ne.symm e32, Ne.symm e33, Ne.symm e34])
      rw [hr, ← hev0 i hi]
      simp [Ne.symm e29, Ne.symm e30, Ne.symm e31, Ne.symm e32, Ne.symm e33, Ne.symm e34]
    · rw [Array.getElem?_eq_none (by omega), Array.getElem?_eq_none (by simp; omega)]
  cases a
  simp only at ht hd
  rw [ht, hd]
def ddL : List UInt8 := Lib.repeatL [100, 47] 253
def w1L : List UInt8 := Lib.repeatL [119] 249
def w3L : List UInt8 := Lib.repeatL (w1L ++ [47]) 16
def w4L : List UInt8 := Lib.repeatL [119] 80
def xxL : List UInt8 := Lib.repeatL [120] 256
def a1L : List UInt8 := Lib.repeatL [97, 47] 256
def a2L : List UInt8 := Lib.repeatL [97, 47] 255
theorem rep_walk (s : ByteArray) (l : List UInt8) (n : Int) (c : Nat) (hn : n = (c : Int)) (hc : c ≤ 1000000) (hl : s.size ≤ 10000) (he : Lib.repeatL s.data.toList c = l) (w : World) : Calls Tryd.prog 37 #[.string s, .int .i64 n] w fun e w' => e = .returned (.string (sb l)) ∧ Below w.heap.size w w' := by
  have h := Any.strings_Repeat Tryd.laysRe Tryd.extraRe s c w (by omega) (by have := Nat.mul_le_mul hl hc; omega)
  rw [he] at h
  rw [hn]
  exact h
theorem below_blk {n : Nat} {w w1 : World} (h : Below n w w1) (r : Nat) (hr : n ≤ r) (o : Obj) : Below n w (Go.ChangeMaps.setBlock w1 r o) :=
  ⟨h.os, h.tape, h.output, by show _ ≤ (w1.heap.setIfInBounds r o).size; rw [Array.size_setIfInBounds]; exact h.size, fun k hk => by
    show (w1.heap.setIfInBounds r o)[k]? = _
    rw [Array.getElem?_setIfInBounds_ne (by omega)]; exact h.block k hk⟩
/-- One step of the loop over the map. -/
theorem next_known (wr : World) (N r c : Nat) (es : Array MapEntry) (seen : Array Nat) (hg : GoodMap es c) (hr : wr.heap[r]? = some (.mapIter (some N) c seen c)) (hb : wr.heap[N]? = some (.map es c)) (hne : N ≠ r) :
    ((Instr.next (.pointer (some ⟨r, 0, none⟩)) false 0).run Tryd.prog wr = .ok (.tuple #[.bool false]) wr) ∨
    ∃ (s : List UInt8) (w2 : World) (seen' : Array Nat), s.length ≤ 300 ∧ (Instr.next (.pointer (some ⟨r, 0, none⟩)) false 0).run Tryd.prog wr = .ok (.tuple #[.bool true, .string (sb s), .bool (Pt.mayName s)]) w2 ∧
      (Instr.entry (.pointer (some ⟨r, 0, none⟩))).run Tryd.prog w2 = .ok (.tuple #[.string (sb s), .bool (Pt.mayName s)]) w2 ∧ w2.heap[r]? = some (.mapIter (some N) c seen' c) ∧ w2.heap[N]? = some (.map es c) ∧ w2.heap.size = wr.heap.size ∧
      (leftOf es seen').size < (leftOf es seen).size ∧ ∀ n w, n ≤ r → Below n w wr → Below n w w2 := by
  rcases run_next_at wr 0 r N c c seen es c hr hb hg.1.1 (Nat.le_refl _) with ⟨_, h⟩ | ⟨e, he, w1, hw1, h⟩
  · exact .inl h
  · obtain ⟨hm, _⟩ := mem_left he
    obtain ⟨s, hs, hk, hv⟩ := hg.2 e hm
    rw [hk, hv] at h
    have hr1 : w1.heap[r]? = some (.mapIter (some N) c seen c) := by rcases hw1 with e1 | e1 <;> (rw [e1]; exact hr)
    have hb1 : w1.heap[N]? = some (.map es c) := by rcases hw1 with e1 | e1 <;> (rw [e1]; exact hb)
    have hlt : r < w1.heap.size := (Array.getElem?_eq_some_iff.1 hr1).1
    have hr2 : (Go.ChangeMaps.setBlock w1 r (.mapIter (some N) c (seen.push e.born) c)).heap[r]? = some (.mapIter (some N) c (seen.push e.born) c) := by
      show (w1.heap.setIfInBounds r _)[r]? = _
      simp [hlt]
    have hb2 : (Go.ChangeMaps.setBlock w1 r (.mapIter (some N) c (seen.push e.born) c)).heap[N]? = some (.map es c) := by
      show (w1.heap.setIfInBounds r _)[N]? = _
      rw [Array.getElem?_setIfInBounds_ne (Ne.symm hne)]; exact hb1
    have hen := run_entry_at (P := Tryd.prog) _ r N c seen es c e hr2 hb2 hm hg.1.2.1
    rw [hk, hv] at hen
    refine .inr ⟨s, _, seen.push e.born, hs, h, hen, hr2, hb2, ?_, left_shrinks es seen e he, fun n w hn hB => below_blk ?_ r hn _⟩
    · show (w1.heap.setIfInBounds r _).size = _
      rw [Array.size_setIfInBounds]
      rcases hw1 with e1 | e1 <;> rw [e1] <;> rfl
    · rcases hw1 with e1 | e1
      · rw [e1]; exact hB
      · rw [e1]; exact hB.drew
end Go.Proofs.YtgdnemjlmhmhhaaDoor
