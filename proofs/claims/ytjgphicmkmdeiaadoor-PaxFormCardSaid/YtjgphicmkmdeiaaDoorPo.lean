/-
  What is read of bytes, as mathematics: texts told apart, cut short, and back.
-/
import Derived.Test.YtjgphicmkmdeiaaDoorPn
namespace Go.Proofs.YtjgphicmkmdeiaaDoor
namespace Px
open Go.Lib (nDigits nDigits_small nDigits_big nDigits_pos nDigits_unique lt_pow_nDigits decDigits itoa)

theorem isSz_le {n : Nat} (h : isSz n = true) : nDigits n + 4 ≤ n ∧ n ≤ 16777216 := by
  have := (isSz_iff n).1 h
  exact ⟨this.1, this.2.1⟩
theorem rdSize_ok {s b : List UInt8} {n : Nat} (h : rdSize s = .ok (n, b)) : s = decDigits n ++ 32 :: b ∧ isSz n = true := by
  unfold rdSize at h
  rcases cut_cases 32 s with ⟨_, hc⟩ | ⟨x, y, _, h2, hc⟩
  · rw [hc] at h
    simp only at h
    split at h
    · cases h
    · split at h
      · cases h
      · rw [if_neg (by simp)] at h
        split at h <;> cases h
  · rw [hc] at h
    simp only at h
    split at h
    · cases h
    · rename_i v hv
      split at h
      · cases h
      · rename_i hb
        rw [if_pos trivial] at h
        split at h
        · rename_i hs
          cases h
          exact ⟨by rw [h2, num_nat hv (by omega)], hs⟩
        · cases h
theorem rdSize_err {s : List UInt8} {e : Nat} (h : rdSize s = .error e) : e = 4 ∨ e = 5 := by
  unfold rdSize at h
  split at h
  · cases h; exact .inr rfl
  · split at h
    · cases h; exact .inr rfl
    · split at h
      · split at h
        · cases h
        · cases h; exact .inr rfl
      · split at h
        · cases h; exact .inl rfl
        · cases h; exact .inr rfl
theorem rdRec_err {s : List UInt8} {m e : Nat} (h : rdRec s m = .error e) : e = 4 ∨ e = 5 := by
  unfold rdRec at h
  split at h
  · cases h; exact .inr rfl
  · split at h
    · cases h; exact .inl rfl
    · split at h
      · cases h; exact .inr rfl
      · cases h
theorem rdRec_ok {s : List UInt8} {m : Nat} {r : Rec} (hm : 1 ≤ m) (h : rdRec s m = .ok r) : okK r.1 = true ∧ r.1.length + r.2.length + 2 = m ∧ s = r.1 ++ 61 :: (r.2 ++ 10 :: s.drop m) := by
  unfold rdRec at h
  split at h
  · cases h
  · rename_i hb
    split at h
    · cases h
    · rename_i hl
      split at h
      · cases h
      · rename_i hx
        injection h with h
        subst h
        have htl : (s.take (m - 1)).length = m - 1 := by rw [List.length_take]; omega
        have hsplit : s = s.take (m - 1) ++ 10 :: s.drop m := by
          conv => lhs; rw [← List.take_append_drop (m - 1) s]
          congr 1
          have hi : m - 1 < s.length := by omega
          rw [List.drop_eq_getElem_cons hi, show m - 1 + 1 = m by omega]
          congr 1
          have hx2 : s.getD (m - 1) 0 = 10 := Decidable.not_not.1 hx
          rw [List.getD_eq_getElem?_getD, List.getElem?_eq_getElem hi] at hx2
          exact hx2
        rcases cut_cases 61 (s.take (m - 1)) with ⟨_, hc⟩ | ⟨x, y, _, h2, hc⟩
        · rw [hc] at hb
          exfalso
          apply hb
          unfold begun
          simp [htl]
        · rw [hc] at hb ⊢
          simp only at hb ⊢
          have hk : okK x = true := by
            unfold begun at hb
            simpa using hb
          refine ⟨hk, ?_, ?_⟩
          · have := congrArg List.length h2
            simp only [List.length_append, List.length_cons] at this
            omega
          · conv => lhs; rw [hsplit, h2]
            simp
theorem one_err {s : List UInt8} {e : Nat} (h : one s = .error e) : e = 4 ∨ e = 5 := by
  unfold one at h
  split at h
  · rename_i e1 h1; cases h; exact rdSize_err h1
  · split at h
    · rename_i e1 h1; cases h; exact rdRec_err h1
    · cases h
theorem one_ok {s rest : List UInt8} {r : Rec} (h : one s = .ok (r, rest)) : okK r.1 = true ∧ sz r ≤ 16777216 ∧ s = txt r ++ rest := by
  unfold one at h
  split at h
  · cases h
  · rename_i n b h1
    obtain ⟨h2, h3⟩ := rdSize_ok h1
    have h4 := isSz_le h3
    have hm : n - (s.length - b.length) = n - nDigits n - 1 := by
      rw [h2]; simp only [List.length_append, List.length_cons, dec_len]; omega
    rw [hm] at h
    split at h
    · cases h
    · rename_i r2 h5
      injection h with h
      obtain ⟨rfl, rfl⟩ := Prod.mk.inj h
      obtain ⟨k1, k2, k3⟩ := rdRec_ok (by omega) h5
      have hsz : sz r2 = n := by
        rw [sz_ok k1]
        unfold isSz at h3
        simp only [Bool.and_eq_true, decide_eq_true_eq] at h3
        have : r2.1.length + r2.2.length + 3 = n - nDigits n := by omega
        rw [this]; exact h3.2.2
      refine ⟨k1, by omega, ?_⟩
      have hd : s.drop n = b.drop (n - nDigits n - 1) := by
        rw [h2, List.drop_append]
        rw [List.drop_of_length_le (by rw [dec_len]; omega), List.nil_append, dec_len, show n - nDigits n = (n - nDigits n - 1) + 1 by omega, List.drop_succ_cons]
        simp
      rw [hd]
      unfold txt
      rw [hsz]
      conv => lhs; rw [h2, k3]
      simp
/-- The rest is shorter. -/
theorem one_less {s rest : List UInt8} {r : Rec} (h : one s = .ok (r, rest)) : rest.length < s.length := by
  obtain ⟨h1, h2, h3⟩ := one_ok h
  have := txt_len h1
  have hz := sz_fix h1
  rw [h3, List.length_append]
  omega
/-- Reading on: with fuel enough it is as much as with more. -/
theorem getF_fuel (f g : Nat) (s : List UInt8) (h1 : s.length ≤ f) (h2 : s.length ≤ g) : getF f s = getF g s := by
  induction f generalizing g s with
  | zero =>
    obtain rfl : s = [] := List.eq_nil_of_length_eq_zero (by omega)
    cases g <;> simp [getF]
  | succ f ih =>
    cases g with
    | zero =>
      obtain rfl : s = [] := List.eq_nil_of_length_eq_zero (by omega)
      simp [getF]
    | succ g =>
      rw [getF, getF]
      split
      · rfl
      · cases ho : one s with
        | error e => rfl
        | ok p =>
          obtain ⟨r, rest⟩ := p
          simp only
          have := one_less ho
          rw [ih g rest (by omega) (by omega)]
def get (s : List UInt8) : Except Nat (List Rec) := getF s.length s
theorem get_nil : get [] = .ok [] := rfl
theorem get_one {s rest : List UInt8} {r : Rec} (h : one s = .ok (r, rest)) : get s = match get rest with | .error e => .error e | .ok l => .ok (r :: l) := by
  unfold get
  have hl := one_less h
  cases hs : s with
  | nil => rw [hs] at hl; simp at hl
  | cons c t =>
    rw [← hs]
    obtain ⟨n, hn⟩ : ∃ n, s.length = n + 1 := ⟨s.length - 1, by rw [hs]; simp⟩
    rw [hn, getF, if_neg (by rw [hs]; simp), h]
    simp only
    rw [getF_fuel n rest.length rest (by omega) (Nat.le_refl _)]
    cases getF rest.length rest <;> rfl
theorem get_stop {s : List UInt8} {e : Nat} (hne : s ≠ []) (h : one s = .error e) : get s = .error e := by
  unfold get
  cases hs : s with
  | nil => exact absurd hs hne
  | cons c t =>
    rw [← hs]
    obtain ⟨n, hn⟩ : ∃ n, s.length = n + 1 := ⟨s.length - 1, by rw [hs]; simp⟩
    rw [hn, getF, if_neg hne, h]
end Px
end Go.Proofs.YtjgphicmkmdeiaaDoor
