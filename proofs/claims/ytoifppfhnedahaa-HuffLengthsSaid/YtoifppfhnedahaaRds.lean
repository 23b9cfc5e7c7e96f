/-
  What a book reads is what the document's Next reads.
-/
import Derived.Test.YtoifppfhnedahaaPre
namespace Hf

theorem ct_deep (zs : List Int) (n : Nat) (h : deep zs < n) : ct zs n = 0 := by
  unfold ct
  split
  · rfl
  · rw [List.count_eq_zero]
    intro hm
    have := (foldl_max zs 1).2 _ hm
    unfold deep at h; omega
theorem K_above (zs : List Int) (d : Nat) : K zs (deep zs + d) = 2 ^ d * K zs (deep zs) := by
  induction d with
  | zero => simp
  | succ d ih =>
    have e : K zs (deep zs + d + 1) = 2 * K zs (deep zs + d) + ct zs (deep zs + d + 1) := rfl
    rw [show deep zs + (d + 1) = deep zs + d + 1 by omega, e, ih, ct_deep zs _ (by omega), Nat.pow_succ, Nat.add_zero, ← Nat.mul_assoc, Nat.mul_comm 2]
theorem K_deep (zs : List Int) (h : kr zs = 32768) (hd : deep zs ≤ 15) : K zs (deep zs) = 2 ^ deep zs := by
  have h1 := K_above zs (15 - deep zs)
  rw [show deep zs + (15 - deep zs) = 15 by omega, show K zs 15 = 32768 from h] at h1
  have h2 : (32768 : Nat) = 2 ^ (15 - deep zs) * 2 ^ deep zs := by rw [← Nat.pow_add, show 15 - deep zs + deep zs = 15 by omega]
  have hp : 0 < 2 ^ (15 - deep zs) := Nat.pow_pos (by decide)
  exact Nat.eq_of_mul_eq_mul_left hp (h1.symm.trans h2)
theorem rd_same (zs : List Int) (h : kr zs = 32768) (hd : deep zs ≤ 15) : ∀ f n c (bs : List Bool), n + f = deep zs → c < 2 ^ n → K zs n ≤ c → rd zs f n c bs = rd zs (15 - n) n c bs := by
  intro f
  induction f with
  | zero =>
    intro n c bs hn hc hk
    exfalso
    obtain rfl : n = deep zs := by omega
    rw [K_deep zs h hd] at hk
    omega
  | succ f ih =>
    intro n c bs hn hc hk
    have e : 15 - n = (15 - (n + 1)) + 1 := by omega
    rw [e]
    match bs with
    | [] => rfl
    | b :: t =>
      rw [rd, rd]
      cases hs : sym zs (n + 1) (2 * c + b.toNat) with
      | some s => rfl
      | none =>
        have hF : F zs (n + 1) ≤ 2 * c + b.toNat := by rw [F_succ]; omega
        have hb : b.toNat < 2 := by cases b <;> decide
        exact ih (n + 1) (2 * c + b.toNat) t (by omega) (by rw [Nat.pow_succ]; omega) ((sym_none zs (n + 1) _ (by omega) hF).1 hs)
theorem rd_full (zs : List Int) (h : kr zs = 32768) (hd : deep zs ≤ 15) (bs : List Bool) : rd zs (deep zs) 0 0 bs = rd zs 15 0 0 bs :=
  rd_same zs h hd (deep zs) 0 0 bs (by omega) (by decide) (by rw [K_zero]; omega)
/-- What may come of reading. -/
theorem rd_ends (zs : List Int) : ∀ f n c (bs : List Bool), ((rd zs f n c bs).2.1 = 0 ∧ n < (rd zs f n c bs).2.2) ∨ ((rd zs f n c bs).2.1 = 4 ∧ (rd zs f n c bs).1 = 0) ∨ ((rd zs f n c bs).2.1 = 20 ∧ (rd zs f n c bs).1 = 0) := by
  intro f
  induction f with
  | zero => intro n c bs; cases bs <;> exact .inr (.inr ⟨rfl, rfl⟩)
  | succ f ih =>
    intro n c bs
    match bs with
    | [] => exact .inr (.inl ⟨rfl, rfl⟩)
    | b :: t =>
      rw [rd]
      cases hs : sym zs (n + 1) (2 * c + b.toNat) with
      | some s => exact .inl ⟨rfl, by simp⟩
      | none =>
        rcases ih (n + 1) (2 * c + b.toNat) t with h | h
        · exact .inl ⟨h.1, by simp only at h ⊢; omega⟩
        · exact .inr h
theorem rd_took (zs : List Int) : ∀ f n c (bs : List Bool), (rd zs f n c bs).2.2 ≤ n + bs.length := by
  intro f
  induction f with
  | zero => intro n c bs; cases bs <;> (simp [rd])
  | succ f ih =>
    intro n c bs
    match bs with
    | [] => simp [rd]
    | b :: t =>
      rw [rd]
      cases hs : sym zs (n + 1) (2 * c + b.toNat) with
      | some s => simp only [List.length_cons]; omega
      | none =>
        have := ih (n + 1) (2 * c + b.toNat) t
        simp only [List.length_cons]; omega
end Hf
