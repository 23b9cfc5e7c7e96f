/-
  The document's own Get: parts of slices, a record read.
-/
import Derived.Test.YtjgphicmkmdeiaaDoorPgb
namespace Go.Proofs.YtjgphicmkmdeiaaDoor
open Go.RowKit Go.Maps

theorem cut22 {w : World} {p : Option Addr} {n cap : Nat} {vs : List Value} (h : SlV w (.slice p n cap) vs) (i j : Nat) (hij : i ≤ j) (hj : j ≤ n) :
    ∃ p', (∀ w', (Instr.sliceAt 26 (.slice p n cap) (some (.int .i64 (i : Int))) (some (.int .i64 (j : Int))) none).run Tryd.prog w' = .ok (.slice p' (j - i) (cap - i)) w') ∧ SlV w (.slice p' (j - i) (cap - i)) ((vs.drop i).take (j - i)) := by
  rcases h with ⟨g, o, cap', h, h2, hB⟩ | ⟨p', h, rfl⟩
  · cases h
    have hl : ((vs.drop i).take (j - i)).length = j - i := by simp; omega
    have h1 : (0 : Int) ≤ (i : Int) := by omega
    have h3 : (i : Int) ≤ (j : Int) := by omega
    have h4 : (j : Int) ≤ (cap : Int) := by omega
    by_cases hck : cap = i
    · have hji : j = i := by omega
      subst hck
      subst hji
      refine ⟨some ⟨g, o, none⟩, fun w' => ?_, .inr ⟨some ⟨g, o, none⟩, by simp, by simp⟩⟩
      go_simp
    · refine ⟨some ⟨g, o + i, none⟩, fun w' => ?_, .inl ⟨g, o + i, cap - i, by rw [hl], by rw [hl]; omega, (hB.drop i).take _⟩⟩
      go_simp
  · have h0 : n = 0 ∧ cap = 0 ∧ p' = p := by cases h; exact ⟨rfl, rfl, rfl⟩
    obtain ⟨rfl, rfl, rfl⟩ := h0
    obtain rfl : j = 0 := by omega
    obtain rfl : i = 0 := by omega
    refine ⟨p', fun w' => ?_, .inr ⟨p', rfl, by simp⟩⟩
    show (Instr.sliceAt 26 (.slice p' 0 0) (some (.int .i64 0)) (some (.int .i64 0)) none).run Tryd.prog w' = .ok (.slice p' 0 0) w'
    cases p' with
    | none => kernel_rfl
    | some a => kernel_rfl
theorem bl_mid (L : List UInt8) (i k : Nat) : ((bl L).drop i).take k = bl ((L.drop i).take k) := by
  simp [bl]
theorem take1 (L : List UInt8) (q : Nat) (h : q < L.length) : (L.drop q).take 1 = [L.getD q 0] := by
  rw [List.drop_eq_getElem_cons h, List.take_succ_cons, List.take_zero, List.getD_eq_getElem?_getD, List.getElem?_eq_getElem h]; rfl
theorem Px.nd_pred (n : Nat) : Lib.nDigits (n - 1) ≤ Lib.nDigits n := by
  cases n with
  | zero => exact Nat.le_refl _
  | succ k =>
    have := Px.dg_step k
    rw [Nat.add_sub_cancel]
    omega
theorem one_isz {L b : List UInt8} {f n m : Nat} (h32 : L.drop f = Lib.decDigits n ++ 32 :: b) (hs : Px.isSz n = true) (hn : n ≤ 16777216) (hm : n - Lib.nDigits n - 1 = m) : Px.one (L.drop f) = match Px.rdRec b m with | .error e => .error e | .ok r => .ok (r, L.drop (f + n)) := by
  have h9 : L.drop (f + n) = (L.drop f).drop n := by rw [List.drop_drop]
  rw [h9, h32, Px.r7 n b hn, if_pos hs, hm]
  cases Px.rdRec b m <;> rfl
theorem RG.step {w : World} {L : List UInt8} {wx : World} {f e : Nat} {acc : List Px.Rec} {v : Value} {r : Px.Rec} (h : RG w L wx f acc v) (ho : Px.one (L.drop f) = .ok (r, L.drop e)) (hle : e ≤ L.length) {wa wz : World} (ha : Below wx.heap.size wx wa) {v' : Value}
    (hown : wz.ownsRow w.heap.size 39 2 v' (acc.length + 1) (nr acc ++ nr [r])) (hgrow : wa.grownBy wz v.ownBlock) : RG w L wz e (acc ++ [r]) v' := by
  have hl := Px.one_less ho
  rw [List.length_drop, List.length_drop] at hl
  have hB2 : Below w.heap.size w wa := h.below.trans (ha.mono h.below.size)
  refine ⟨hB2.grown hgrow hB2.size (fun k hk => (h.own.lt k hk).1), ?_, hle, by have := h.cnt; simp; omega, ?_⟩
  · unfold OwnR
    rw [nr_append, List.length_append]; exact hown
  · rw [h.eq, Px.get_one ho]
    cases Px.get (L.drop e) with
    | error e => rfl
    | ok t => simp

end Go.Proofs.YtjgphicmkmdeiaaDoor
