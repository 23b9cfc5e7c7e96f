/-
  What is read of records' texts that are cut short, as mathematics.
-/
import Derived.Test.YtjgphicmkmdeiaaDoorPo
namespace Go.Proofs.YtjgphicmkmdeiaaDoor
namespace Px
open Go.Lib (nDigits nDigits_small nDigits_big nDigits_pos nDigits_unique lt_pow_nDigits decDigits itoa)

theorem dec_take (n : Nat) : ∀ k, 1 ≤ k → k ≤ nDigits n → (decDigits n).take k = decDigits (n / 10 ^ (nDigits n - k)) := by
  induction n using Nat.strongRecOn with
  | _ n ih =>
    intro k h1 h2
    by_cases h : n < 10
    · have hd := nDigits_small h
      have hk : k = 1 := by omega
      subst hk
      rw [hd, Nat.sub_self, Nat.pow_zero, Nat.div_one, List.take_of_length_le (by rw [dec_len, hd]; exact Nat.le_refl _)]
    · have hd := nDigits_big (u := n) (by omega)
      by_cases hk : k = nDigits n
      · rw [hk, Nat.sub_self, Nat.pow_zero, Nat.div_one, List.take_of_length_le (by rw [dec_len]; exact Nat.le_refl _)]
      · have hk2 : k ≤ nDigits (n / 10) := by omega
        rw [dec_big h, List.take_append_of_le_length (by rw [dec_len]; exact hk2), ih (n / 10) (by omega) k h1 hk2, Nat.div_div_eq_div_mul, ← Nat.pow_succ']
        congr 3
        omega
theorem okK_take {k : List UInt8} (h : okK k = true) (j : Nat) (hj : 1 ≤ j) : okK (k.take j) = true := by
  obtain ⟨h1, h2, h3⟩ := okK_ne h
  unfold okK
  simp only [Bool.and_eq_true, Bool.not_eq_true', decide_eq_true_eq, List.all_eq_true, List.isEmpty_eq_false_iff]
  refine ⟨?_, by rw [List.length_take]; omega, fun c hc => h3 c (List.mem_of_mem_take hc)⟩
  cases hk : k with
  | nil => exact absurd hk h1
  | cons a t => obtain ⟨m, rfl⟩ : ∃ m, j = m + 1 := ⟨j - 1, by omega⟩; simp
theorem rdSize_cut {n k : Nat} (hs : isSz n = true) (h1 : 1 ≤ k) (h2 : k ≤ nDigits n) : rdSize ((decDigits n).take k) = .error 4 := by
  have hn := isSz_le hs
  have hno : (32 : UInt8) ∉ (decDigits n).take k := fun hc => no32 n (List.mem_of_mem_take hc)
  have hle : n / 10 ^ (nDigits n - k) ≤ n := Nat.div_le_self _ _
  have hnum := num_dec (n / 10 ^ (nDigits n - k)) (by omega)
  unfold rdSize
  rw [cut_no hno, dec_take n k h1 h2]
  obtain ⟨q, hq⟩ : ∃ q, n / 10 ^ (nDigits n - k) = q := ⟨_, rfl⟩
  rw [hq] at hle hnum ⊢
  simp only
  rw [hnum]
  simp only
  rw [if_neg (by omega), if_neg (by simp), if_pos]
  rw [Int.toNat_natCast]
  by_cases hk : k = nDigits n
  · rw [hk, Nat.sub_self, Nat.pow_zero, Nat.div_one] at hq
    rw [← hq]
    unfold begSz; rw [hs]; rfl
  · rw [← hq]
    have hp : 10 ^ (nDigits n - k) = 10 * 10 ^ (nDigits n - k - 1) := by rw [← Nat.pow_succ']; congr 1; omega
    have hpp : 1 ≤ 10 ^ (nDigits n - k - 1) := Nat.one_le_pow _ _ (by decide)
    have hq9 : 10 ^ (nDigits n - k) ≤ n := by
      rcases Nat.lt_or_ge n (10 ^ (nDigits n - k)) with hlt | hge
      · exfalso
        obtain ⟨m, hm⟩ : ∃ m, nDigits n - k = m + 1 := ⟨nDigits n - k - 1, by omega⟩
        rw [hm] at hlt
        have := dg_lt hlt
        omega
      · exact hge
    have hm1 : 1 ≤ n / 10 ^ (nDigits n - k) := Nat.div_pos hq9 (by omega)
    have hm10 : 10 * (n / 10 ^ (nDigits n - k)) ≤ n := by
      rw [Nat.le_div_iff_mul_le (by omega)] at hm1
      have h3 := Nat.div_mul_le_self n (10 ^ (nDigits n - k))
      have h4 : n / 10 ^ (nDigits n - k) * 10 ≤ n / 10 ^ (nDigits n - k) * 10 ^ (nDigits n - k) := Nat.mul_le_mul_left _ (by rw [hp]; omega)
      omega
    rw [hq] at hm1 hm10 ⊢
    exact (begSz_iff _ hm1 (by omega)).2 (fun h => by omega)
/-- What stands behind the blank. -/
def bh (r : Rec) : List UInt8 := r.1 ++ 61 :: (r.2 ++ [10])
theorem rdRec_cut {r : Rec} (h : okK r.1 = true) (j : Nat) (hj : j < r.1.length + r.2.length + 2) : rdRec ((bh r).take j) (r.1.length + r.2.length + 2) = .error 4 := by
  have hlen : (bh r).length = r.1.length + r.2.length + 2 := by unfold bh; simp; omega
  have ht : ((bh r).take j).take (r.1.length + r.2.length + 2 - 1) = (bh r).take j := by
    rw [List.take_take, Nat.min_eq_right (by omega)]
  have hb : begun (cut 61 ((bh r).take j)).1 (cut 61 ((bh r).take j)).2.2 (r.1.length + r.2.length + 2 - 1) = true := by
    by_cases hj2 : j ≤ r.1.length
    · unfold bh
      rw [List.take_append_of_le_length hj2, cut_no (fun hc => okK_no h (List.mem_of_mem_take hc))]
      unfold begun
      have hl : decide ((r.1.take j).length < r.1.length + r.2.length + 2 - 1) = true := by rw [decide_eq_true_eq, List.length_take]; omega
      simp only [hl]
      by_cases hj0 : j = 0
      · subst hj0; simp
      · simp [okK_take h j (by omega)]
    · obtain ⟨m, hm⟩ : ∃ m, j = r.1.length + (m + 1) := ⟨j - r.1.length - 1, by omega⟩
      unfold bh
      rw [hm, List.take_append, List.take_of_length_le (by omega), show r.1.length + (m + 1) - r.1.length = m + 1 by omega, List.take_succ_cons, cut_at _ (okK_no h)]
      unfold begun
      simp [h]
  unfold rdRec
  rw [ht, hb, if_neg (by simp), if_pos (by rw [List.length_take, hlen]; omega)]
theorem one_cut {r : Rec} (h : okK r.1 = true) (hm : sz r ≤ 16777216) (k : Nat) (h1 : 1 ≤ k) (h2 : k < sz r) : one ((txt r).take k) = .error 4 := by
  have hf := sz_fix h
  unfold one
  by_cases hk : k ≤ nDigits (sz r)
  · have e : (txt r).take k = (decDigits (sz r)).take k := by
      unfold txt; rw [List.take_append_of_le_length (by rw [dec_len]; exact hk)]
    rw [e, rdSize_cut (isSz_sz h hm) h1 hk]
  · obtain ⟨j, hj⟩ : ∃ j, k = nDigits (sz r) + (j + 1) := ⟨k - nDigits (sz r) - 1, by omega⟩
    have e : (txt r).take k = decDigits (sz r) ++ 32 :: (bh r).take j := by
      unfold txt bh
      rw [hj, List.take_append, List.take_of_length_le (by rw [dec_len]; omega), dec_len, show nDigits (sz r) + (j + 1) - nDigits (sz r) = j + 1 by omega, List.take_succ_cons]
    rw [e, rdSize_txt h hm]
    simp only
    have e2 : sz r - ((decDigits (sz r) ++ 32 :: (bh r).take j).length - ((bh r).take j).length) = r.1.length + r.2.length + 2 := by
      simp only [List.length_append, List.length_cons, dec_len]
      omega
    rw [e2, rdRec_cut h j (by omega)]
theorem sz_pos {r : Rec} (h : sz r ≠ 0) : okK r.1 = true := by
  rw [Ne, sz_zero] at h
  simpa using h
/-- Records' texts, cut short, are fewer records, at an end of one, else short. -/
theorem get_cut : ∀ (l : List Rec), (∀ r ∈ l, sz r ≠ 0) → (txts l).length ≤ 16777216 → ∀ k, k ≤ (txts l).length →
    (∃ j, j ≤ l.length ∧ (txts (l.take j)).length = k ∧ get ((txts l).take k) = .ok (l.take j)) ∨ ((∀ j, j ≤ l.length → (txts (l.take j)).length ≠ k) ∧ get ((txts l).take k) = .error 4) := by
  intro l
  induction l with
  | nil =>
    intro _ _ k hk
    have : k = 0 := by simpa [txts] using hk
    subst this
    exact .inl ⟨0, Nat.le_refl _, rfl, rfl⟩
  | cons r t ih =>
    intro hz hm k hk
    have hr := sz_pos (hz r (by simp))
    have hl := txt_len hr
    rw [txts, List.length_append, hl] at hm hk
    rw [txts]
    by_cases hk0 : k = 0
    · subst hk0
      exact .inl ⟨0, Nat.zero_le _, rfl, rfl⟩
    by_cases hks : k < sz r
    · refine .inr ⟨fun j hj he => ?_, ?_⟩
      · cases j with
        | zero => rw [List.take_zero] at he; simp [txts] at he; omega
        | succ j => rw [List.take_succ_cons, txts, List.length_append, hl] at he; omega
      · rw [List.take_append_of_le_length (by omega)]
        refine get_stop (fun e => ?_) (one_cut hr (by omega) k (by omega) hks)
        have h3 := congrArg List.length e
        rw [List.length_take, hl] at h3
        simp at h3
        omega
    · obtain ⟨m, rfl⟩ : ∃ m, k = sz r + m := ⟨k - sz r, by omega⟩
      rw [List.take_append, List.take_of_length_le (by omega), hl, show sz r + m - sz r = m by omega, get_one (one_txt hr (by omega) _)]
      rcases ih (fun x hx => hz x (by simp [hx])) (by omega) m (by omega) with ⟨j, h1, h2, h3⟩ | ⟨h2, h3⟩
      · refine .inl ⟨j + 1, by simp; omega, ?_, ?_⟩
        · rw [List.take_succ_cons, txts, List.length_append, hl, h2]
        · rw [h3, List.take_succ_cons]
      · refine .inr ⟨fun j hj he => ?_, ?_⟩
        · cases j with
          | zero => rw [List.take_zero] at he; simp [txts] at he; have := wd_ge (r.1.length + r.2.length + 3); rw [← sz_ok hr] at this; omega
          | succ j =>
            rw [List.take_succ_cons, txts, List.length_append, hl] at he
            exact h2 j (by simpa using hj) (by omega)
        · rw [h3]
theorem get_txts (l : List Rec) (h : ∀ r ∈ l, sz r ≠ 0) (hm : (txts l).length ≤ 16777216) : get (txts l) = .ok l := by
  rcases get_cut l h hm (txts l).length (Nat.le_refl _) with ⟨j, h1, h2, h3⟩ | ⟨h2, _⟩
  · rw [List.take_of_length_le (Nat.le_refl _)] at h3
    rw [h3]
    by_cases hj : j = l.length
    · rw [hj, List.take_of_length_le (Nat.le_refl _)]
    · exfalso
      have hlt : j < l.length := by omega
      have e : txts l = txts (l.take j) ++ txts (l.drop j) := by
        have : ∀ a b : List Rec, txts (a ++ b) = txts a ++ txts b := by
          intro a b
          induction a with
          | nil => rfl
          | cons x t ih => rw [List.cons_append, txts, txts, ih, List.append_assoc]
        rw [← this, List.take_append_drop]
      have hd : (txts (l.drop j)).length = 0 := by have := congrArg List.length e; rw [List.length_append] at this; omega
      obtain ⟨x, t, hx⟩ : ∃ x t, l.drop j = x :: t := by
        cases hx : l.drop j with
        | nil => have := congrArg List.length hx; rw [List.length_drop] at this; simp at this; omega
        | cons x t => exact ⟨x, t, rfl⟩
      have hxr := sz_pos (h x (List.mem_of_mem_drop (by rw [hx]; simp)))
      rw [hx, txts, List.length_append, txt_len hxr] at hd
      have := wd_ge (x.1.length + x.2.length + 3)
      rw [← sz_ok hxr] at this
      omega
  · exact absurd (show (txts (l.take l.length)).length = (txts l).length by rw [List.take_of_length_le (Nat.le_refl _)]) (h2 l.length (Nat.le_refl _))
/-- No two beginnings of rows of records have as many bytes. -/
theorem ends_inj {l : List Rec} (h : ∀ r ∈ l, sz r ≠ 0) : ∀ {i j : Nat}, i ≤ l.length → j ≤ l.length → (txts (l.take i)).length = (txts (l.take j)).length → i = j := by
  induction l with
  | nil => intro i j hi hj _; simp at hi hj; omega
  | cons r t ih =>
    intro i j hi hj he
    have hr := sz_pos (h r (by simp))
    have hw := wd_ge (r.1.length + r.2.length + 3)
    rw [← sz_ok hr] at hw
    cases i with
    | zero =>
      cases j with
      | zero => rfl
      | succ j => rw [List.take_zero, List.take_succ_cons, txts, txts, List.length_append, txt_len hr] at he; simp at he; omega
    | succ i =>
      cases j with
      | zero => rw [List.take_zero, List.take_succ_cons, txts, txts, List.length_append, txt_len hr] at he; simp at he; omega
      | succ j =>
        rw [List.take_succ_cons, List.take_succ_cons, txts, txts, List.length_append, List.length_append] at he
        exact congrArg (· + 1) (ih (fun x hx => h x (by simp [hx])) (i := i) (j := j) (by simpa using hi) (by simpa using hj) (by omega))
end Px
end Go.Proofs.YtjgphicmkmdeiaaDoor
