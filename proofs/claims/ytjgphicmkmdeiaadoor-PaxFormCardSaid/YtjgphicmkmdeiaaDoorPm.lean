/-
  Records' texts, as mathematics: sizes that count themselves, numbers' texts, records' texts and what is read of them.
-/
import Derived.Lib.ItoaMem
import Derived.Lib.ParseIntBTie
namespace Go.Proofs.YtjgphicmkmdeiaaDoor
namespace Px
open Go.Lib (nDigits nDigits_small nDigits_big nDigits_pos nDigits_unique lt_pow_nDigits decDigits itoa parseIntB parseUintM parseUintB)

theorem dg_step (n : Nat) : nDigits (n + 1) = nDigits n ∨ nDigits (n + 1) = nDigits n + 1 := by
  induction n using Nat.strongRecOn with
  | _ n ih =>
    by_cases h : n < 9
    · left; rw [nDigits_small (by omega), nDigits_small (by omega)]
    · by_cases h9 : n = 9
      · subst h9; right; rw [nDigits_small (u := 9) (by omega), nDigits_big (u := 9 + 1) (by omega), nDigits_small (by omega)]
      · rw [nDigits_big (u := n + 1) (by omega), nDigits_big (u := n) (by omega)]
        have h2 : (n + 1) / 10 = n / 10 ∨ (n + 1) / 10 = n / 10 + 1 := by omega
        rcases h2 with h2 | h2
        · left; rw [h2]
        · rw [h2]
          rcases ih (n / 10) (by omega) with h3 | h3
          · left; omega
          · right; omega
theorem dg_mono {a b : Nat} (h : a ≤ b) : nDigits a ≤ nDigits b := by
  induction h with
  | refl => exact Nat.le_refl _
  | @step m h ih => rcases dg_step m with h2 | h2 <;> simp only [Nat.succ_eq_add_one] at * <;> omega
theorem dg_pow (n k : Nat) (h : 10 ^ k ≤ n) : k + 1 ≤ nDigits n := by
  have := dg_mono h
  rw [nDigits_unique k (10 ^ k) (Nat.le_refl _) (by rw [Nat.pow_succ]; have := Nat.one_le_pow k 10 (by decide); omega)] at this
  exact this
theorem dg_lt {n k : Nat} (h : n < 10 ^ (k + 1)) : nDigits n ≤ k + 1 := by
  rcases Nat.lt_or_ge (k + 1) (nDigits n) with h2 | h2
  · exfalso
    have h3 : nDigits (10 ^ (k + 1) - 1) ≤ k + 1 := by
      have h4 := Nat.one_le_pow (k + 1) 10 (by decide)
      rw [nDigits_unique k (10 ^ (k + 1) - 1) (by rw [Nat.pow_succ] at *; have := Nat.one_le_pow k 10 (by decide); omega) (by omega)]
      exact Nat.le_refl _
    have h5 : nDigits n ≤ nDigits (10 ^ (k + 1) - 1) := dg_mono (by omega)
    omega
  · exact h2
/-- The size of a text that has so many bytes beside its digits. -/
def wd (o : Nat) : Nat := o + nDigits (o + nDigits o)
theorem wd_fix (o : Nat) : wd o = o + nDigits (wd o) := by
  unfold wd
  have h1 : nDigits o ≤ nDigits (o + nDigits o) := dg_mono (by omega)
  have hl := lt_pow_nDigits o
  generalize hd : nDigits o = d at *
  have hd1 : 1 ≤ d := by rw [← hd]; exact nDigits_pos o
  have hself : d < 10 ^ d := Nat.lt_pow_self (by decide)
  have hp : 10 ^ (d + 1) = 10 ^ d * 10 := Nat.pow_succ ..
  have h2 : nDigits (o + d) ≤ d + 1 := dg_lt (by omega)
  by_cases he : nDigits (o + d) = d
  · rw [he, he]
  · have he2 : nDigits (o + d) = d + 1 := by omega
    rw [he2]
    have h3 : d + 1 ≤ nDigits (o + (d + 1)) := by rw [← he2]; exact dg_mono (by omega)
    have h4 : nDigits (o + (d + 1)) ≤ d + 1 := dg_lt (by omega)
    omega
theorem wd_least {o n : Nat} (h : n = o + nDigits n) : wd o ≤ n := by
  unfold wd
  have h1 : nDigits o ≤ nDigits n := dg_mono (by omega)
  have h2 : nDigits (o + nDigits o) ≤ nDigits n := dg_mono (by omega)
  omega
theorem wd_ge (o : Nat) : o + 1 ≤ wd o := by unfold wd; have := nDigits_pos (o + nDigits o); omega
theorem wd_mono {a b : Nat} (h : a ≤ b) : wd a ≤ wd b := by
  unfold wd
  have h1 : nDigits a ≤ nDigits b := dg_mono h
  have h2 : nDigits (a + nDigits a) ≤ nDigits (b + nDigits b) := dg_mono (by omega)
  omega
theorem wd_more (o : Nat) : wd (o + 1) = wd o + 1 ∨ wd (o + 1) = wd o + 2 := by
  have h1 : wd o + 1 ≤ wd (o + 1) := by
    unfold wd
    have h1 : nDigits o ≤ nDigits (o + 1) := dg_mono (by omega)
    have h2 : nDigits (o + nDigits o) ≤ nDigits (o + 1 + nDigits (o + 1)) := dg_mono (by omega)
    omega
  have hf := wd_fix o
  rcases dg_step (wd o) with h2 | h2
  · left
    have := wd_least (o := o + 1) (n := wd o + 1) (by omega)
    omega
  · rcases dg_step (wd o + 1) with h3 | h3
    · have := wd_least (o := o + 1) (n := wd o + 2) (by have : wd o + 2 = wd o + 1 + 1 := rfl; rw [this, h3]; omega)
      omega
    · exfalso
      have hl := lt_pow_nDigits (wd o)
      have hd := nDigits_pos (wd o)
      generalize nDigits (wd o) = d at *
      have : nDigits (wd o + 1 + 1) ≤ d + 1 := dg_lt (by have hp : 10 ^ (d + 1) = 10 ^ d * 10 := Nat.pow_succ ..; have := Nat.one_le_pow d 10 (by decide); omega)
      omega
/-- Some record's text has just so many bytes. -/
def isSz (n : Nat) : Bool := decide (nDigits n + 4 ≤ n) && (decide (n ≤ 16777216) && decide (wd (n - nDigits n) = n))
theorem sub_mono {a b : Nat} (h : a ≤ b) : a - nDigits a ≤ b - nDigits b := by
  induction h with
  | refl => exact Nat.le_refl _
  | @step m h ih => rcases dg_step m with h2 | h2 <;> simp only [Nat.succ_eq_add_one] at * <;> omega
theorem wd_self {n : Nat} (h : nDigits n < n) (h0 : 0 < n) : (wd (n - nDigits n) = n) ↔ nDigits (n - 1) = nDigits n := by
  obtain ⟨m, rfl⟩ : ∃ m, n = m + 1 := ⟨n - 1, by omega⟩
  rw [Nat.add_sub_cancel]
  have hfix : m + 1 = (m + 1 - nDigits (m + 1)) + nDigits (m + 1) := by omega
  have hle := wd_least hfix
  constructor
  · intro hw
    rcases dg_step m with h2 | h2
    · exact h2.symm
    · exfalso
      have h3 : m = (m + 1 - nDigits (m + 1)) + nDigits m := by omega
      have := wd_least h3
      omega
  · intro hd
    rcases Nat.lt_or_ge (wd (m + 1 - nDigits (m + 1))) (m + 1) with h2 | h2
    · exfalso
      have hf := wd_fix (m + 1 - nDigits (m + 1))
      have h3 := sub_mono (a := wd (m + 1 - nDigits (m + 1))) (b := m) (by omega)
      omega
    · omega
theorem isSz_iff (n : Nat) : isSz n = true ↔ nDigits n + 4 ≤ n ∧ n ≤ 16777216 ∧ nDigits (n - 1) = nDigits n := by
  unfold isSz
  simp only [Bool.and_eq_true, decide_eq_true_eq]
  constructor
  · rintro ⟨h1, h2, h3⟩
    exact ⟨h1, h2, (wd_self (by omega) (by omega)).1 h3⟩
  · rintro ⟨h1, h2, h3⟩
    exact ⟨h1, h2, (wd_self (by omega) (by omega)).2 h3⟩
/-- A size's digits are this number's, and maybe more behind them. -/
def begSz (n : Nat) : Bool := isSz n || isSz (10 * n + 1)
theorem dg_ten (n : Nat) (h : 1 ≤ n) : nDigits (10 * n + 1) = nDigits n + 1 ∧ nDigits (10 * n) = nDigits n + 1 := by
  rw [nDigits_big (u := 10 * n + 1) (by omega), nDigits_big (u := 10 * n) (by omega), show (10 * n + 1) / 10 = n by omega, show 10 * n / 10 = n by omega]
  exact ⟨rfl, rfl⟩
theorem dg_four {n : Nat} (h : 5 ≤ n) : nDigits n + 4 ≤ n := by
  induction n using Nat.strongRecOn with
  | _ n ih =>
    by_cases h1 : n < 10
    · rw [nDigits_small h1]; omega
    · rw [nDigits_big h1]
      by_cases h2 : n / 10 < 5
      · rw [nDigits_small (by omega)]; omega
      · have := ih (n / 10) (by omega) (by omega); omega
theorem dg_five {n : Nat} (h : nDigits n + 4 ≤ n) : 5 ≤ n := by have := nDigits_pos n; omega
theorem begSz_iff (n : Nat) (h1 : 1 ≤ n) (h2 : n ≤ 16777216) : begSz n = true ↔ ¬ (1 < n ∧ nDigits (n - 1) < nDigits n ∧ 16777216 < 10 * n) := by
  unfold begSz
  rw [Bool.or_eq_true, isSz_iff, isSz_iff, Nat.add_sub_cancel]
  have h10 := dg_ten n h1
  rw [h10.1, h10.2]
  have hst := dg_step (n - 1)
  rw [Nat.sub_add_cancel h1] at hst
  constructor
  · rintro (⟨a, b, c⟩ | ⟨a, b, _⟩) ⟨x, y, z⟩
    · omega
    · omega
  · intro hn
    by_cases h5 : 5 ≤ n
    · by_cases hd : nDigits (n - 1) = nDigits n
      · exact .inl ⟨dg_four h5, h2, hd⟩
      · right
        have := dg_four h5
        refine ⟨by omega, ?_, rfl⟩
        rcases Nat.lt_or_ge 16777216 (10 * n) with h | h
        · exact absurd ⟨by omega, by omega, h⟩ hn
        · omega
    · right
      rw [nDigits_small (by omega)]
      exact ⟨by omega, by omega, rfl⟩
end Px
end Go.Proofs.YtjgphicmkmdeiaaDoor
