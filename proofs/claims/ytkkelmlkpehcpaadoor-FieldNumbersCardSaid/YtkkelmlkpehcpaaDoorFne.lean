/-
  The document's own Wide.
-/
import Derived.Test.YtkkelmlkpehcpaaDoorFnd
namespace Go.Proofs.YtkkelmlkpehcpaaDoor
open Go.RowKit

/-- Byte q of the first i bits. -/
def bAt (T : List Bool) (i q : Nat) : Int := Fx.valF 0 (((T.take i).drop (8 * q)).take 8)
theorem bAt_zero (T : List Bool) (q : Nat) : bAt T 0 q = 0 := by simp [bAt, Fx.valF]
theorem bAt_lt (T : List Bool) (i q : Nat) (hi : i ≤ 8 * q + 7) : 0 ≤ bAt T i q ∧ bAt T i q < 128 := by
  obtain ⟨h0, h1⟩ := Fx.valF_zero (((T.take i).drop (8 * q)).take 8)
  refine ⟨h0, Int.lt_of_lt_of_le h1 ?_⟩
  have hl : (((T.take i).drop (8 * q)).take 8).length ≤ 7 := by simp; omega
  have h2 : (2 : Nat) ^ (((T.take i).drop (8 * q)).take 8).length ≤ 2 ^ 7 := Nat.pow_le_pow_right (by omega) hl
  have h9 : ((2 ^ (((T.take i).drop (8 * q)).take 8).length : Nat) : Int) ≤ ((2 ^ 7 : Nat) : Int) := Int.ofNat_le.2 h2
  rw [Int.natCast_pow] at h9
  exact h9
theorem bAt_here (T : List Bool) (i q : Nat) (hi : i < T.length) (h1 : 8 * q ≤ i) (h2 : i < 8 * q + 8) : bAt T (i + 1) q = 2 * bAt T i q + if T.getD i false then 1 else 0 := by
  unfold bAt
  have e : T.take (i + 1) = T.take i ++ [T.getD i false] := by rw [List.take_add_one]; simp [hi]
  rw [e, List.drop_append_of_le_length (by rw [List.length_take]; omega), List.take_of_length_le (by rw [List.length_append, List.length_drop, List.length_take, List.length_singleton]; omega), Fx.valF_snoc, List.take_of_length_le (l := (T.take i).drop (8 * q)) (by rw [List.length_drop, List.length_take]; omega)]
theorem bAt_else (T : List Bool) (i q : Nat) (hi : i < T.length) (h : i < 8 * q ∨ 8 * q + 8 ≤ i) : bAt T (i + 1) q = bAt T i q := by
  unfold bAt
  have e : T.take (i + 1) = T.take i ++ [T.getD i false] := by rw [List.take_add_one]; simp [hi]
  rcases h with h | h
  · rw [List.drop_eq_nil_of_le (by rw [List.length_take]; omega), List.drop_eq_nil_of_le (by rw [List.length_take]; omega)]
  · rw [e, List.drop_append_of_le_length (by rw [List.length_take]; omega), List.take_append_of_le_length (by rw [List.length_drop, List.length_take]; omega)]
/-- The bits of a number are those of its bytes. -/
theorem low8 (n : Int) : lowBits 8 n = Fx.topBits 8 (UInt8.ofNat (n % 256).toNat) := by
  have key : ∀ k : Fin 256, lowBits 8 (k.1 : Int) = Fx.topBits 8 (UInt8.ofNat k.1) := by decide +kernel
  have hm : ∀ (k : Nat) (n : Int), lowBits k (n % 2 ^ k) = lowBits k n := by
    intro k
    induction k with
    | zero => intro n; rfl
    | succ k ih =>
      intro n
      have hp : (0 : Int) < 2 ^ k := Int.pow_pos (by omega)
      have e1 : n % 2 ^ (k + 1) / 2 = n / 2 % 2 ^ k := by
        rw [Int.pow_succ]
        generalize (2 : Int) ^ k = P at hp
        have h := Int.emod_add_mul_ediv n (P * 2)
        have h0 := Int.emod_nonneg n (show P * 2 ≠ 0 by omega)
        have h1 := Int.emod_lt_of_pos n (show 0 < P * 2 by omega)
        generalize n % (P * 2) = r at *
        generalize n / (P * 2) = q at *
        have e : n / 2 = r / 2 + P * q := by
          have : P * 2 * q = 2 * (P * q) := by rw [Int.mul_comm P 2, Int.mul_assoc]
          omega
        rw [e, Int.add_mul_emod_self_left, Int.emod_eq_of_lt (by omega) (by omega)]
      have e2 : n % 2 ^ (k + 1) % 2 = n % 2 := by rw [Int.pow_succ]; exact Int.emod_emod_of_dvd n ⟨2 ^ k, Int.mul_comm _ _⟩
      rw [lowBits, lowBits, e1, e2, ih]
  have h8 := hm 8 n
  have e : (2 : Int) ^ 8 = 256 := by decide
  rw [e] at h8
  have hk := key ⟨(n % 256).toNat, by omega⟩
  simp only [Int.toNat_of_nonneg (show 0 ≤ n % 256 by omega)] at hk
  rw [← h8]
  exact hk
theorem low_wid (k : Nat) (n : Int) : lowBits (8 * k) n = Fx.allBits (Fx.wid k n) := by
  induction k generalizing n with
  | zero => rfl
  | succ k ih =>
    have hs : ∀ (a b : Nat) (n : Int), lowBits (a + b) n = lowBits a (n / 2 ^ b) ++ lowBits b n := by
      intro a b
      induction b with
      | zero => intro n; simp [lowBits]
      | succ b ihb =>
        intro n
        rw [← Nat.add_assoc, lowBits, ihb, lowBits, List.append_assoc]
        congr 2
        rw [Int.ediv_ediv_of_nonneg (by omega), Int.pow_succ, Int.mul_comm]
    rw [show 8 * (k + 1) = 8 * k + 8 by omega, hs, ih, low8, Fx.wid, Fx.allBits_append]
    simp [Fx.allBits]
theorem mark_bits (b : UInt8) (t : List UInt8) : Fx.allBits (Fx.mark (b :: t)) = true :: (Fx.allBits (b :: t)).drop 1 := by
  have key : ∀ k : Fin 256, Fx.topBits 8 (UInt8.ofNat k.1 ||| 128) = true :: (Fx.topBits 8 (UInt8.ofNat k.1)).drop 1 := by decide +kernel
  have := key ⟨b.toNat, b.toNat_lt⟩
  simp only [UInt8.ofNat_toNat] at this
  rw [Fx.mark, Fx.allBits, Fx.allBits, this, List.drop_append_of_le_length (by simp)]
  rfl
theorem marked_bits (mm : Nat) (n : Int) (h : 1 ≤ mm) : Fx.allBits (Fx.mark (Fx.wid mm n)) = true :: lowBits (8 * mm - 1) n := by
  obtain ⟨k, rfl⟩ : ∃ k, mm = k + 1 := ⟨mm - 1, by omega⟩
  have e := low_wid (k + 1) n
  rw [wid_cons] at e ⊢
  rw [mark_bits, ← e, show 8 * (k + 1) = (8 * (k + 1) - 1) + 1 by omega, lowBits_cons]
  simp
theorem chunk (l : List UInt8) (q : Nat) (hq : q < l.length) : ((Fx.allBits l).drop (8 * q)).take 8 = Fx.topBits 8 (l.getD q 0) := by
  induction l generalizing q with
  | nil => simp at hq
  | cons b t ih =>
    cases q with
    | zero => rw [Fx.allBits, Nat.mul_zero, List.drop_zero]; exact List.take_left' (by simp)
    | succ q =>
      rw [Fx.allBits, List.drop_append, List.drop_eq_nil_of_le (by simp; omega), List.nil_append, Fx.topBits_length, show 8 * (q + 1) - 8 = 8 * q by omega, List.getD_cons_succ]
      exact ih q (by simpa using hq)
theorem bAt_end (mm : Nat) (n : Int) (h : 1 ≤ mm) (q : Nat) (hq : q < mm) : bAt (true :: lowBits (8 * mm - 1) n) (8 * mm) q = bi ((Fx.mark (Fx.wid mm n)).getD q 0) := by
  unfold bAt
  rw [List.take_of_length_le (l := true :: lowBits (8 * mm - 1) n) (by simp; omega), ← marked_bits mm n h, chunk _ q (by simpa using hq), Fx.valF_byte]
  simp [bi]
end Go.Proofs.YtkkelmlkpehcpaaDoor
