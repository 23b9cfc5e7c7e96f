/-
  Two's complement, bit by bit, as mathematics.
-/
import Derived.Test.YtkkelmlkpehcpaaDoorFx
namespace Go.Proofs.YtkkelmlkpehcpaaDoor
namespace Fx
/-- The first r bits of a byte. -/
def topBits (r : Nat) (b : UInt8) : List Bool := (List.range r).map fun q => decide (b.toNat / 2 ^ (7 - q) % 2 = 1)
def allBits : List UInt8 → List Bool
  | [] => []
  | b :: t => topBits 8 b ++ allBits t
def valF : Int → List Bool → Int
  | n, [] => n
  | n, b :: t => valF (2 * n + if b then 1 else 0) t
/-- A list of bits as two's complement. -/
def tc : List Bool → Int
  | [] => 0
  | b :: t => valF (if b then -1 else 0) t
theorem topBits_next (r : Nat) (b : UInt8) : topBits (r + 1) b = topBits r b ++ [decide (b.toNat / 2 ^ (7 - r) % 2 = 1)] := by simp [topBits, List.range_succ]
@[simp] theorem topBits_length (r : Nat) (b : UInt8) : (topBits r b).length = r := by simp [topBits]
theorem allBits_append (a b : List UInt8) : allBits (a ++ b) = allBits a ++ allBits b := by
  induction a with
  | nil => rfl
  | cons x a ih => simp [allBits, ih]
theorem allBits_length (l : List UInt8) : (allBits l).length = 8 * l.length := by
  induction l with
  | nil => rfl
  | cons x a ih => simp [allBits, ih]; omega
theorem valF_append (n : Int) (a b : List Bool) : valF n (a ++ b) = valF (valF n a) b := by
  induction a generalizing n with
  | nil => rfl
  | cons x a ih => simp [valF, ih]
theorem valF_lin (n : Int) (l : List Bool) : valF n l = n * 2 ^ l.length + valF 0 l := by
  induction l generalizing n with
  | nil => simp [valF]
  | cons x a ih =>
    rw [valF, valF, ih, ih (2 * 0 + _), List.length_cons, Int.pow_succ]
    generalize (2 : Int) ^ a.length = P
    generalize valF 0 a = V
    have e : n * (P * 2) = 2 * n * P := by rw [Int.mul_comm P 2, ← Int.mul_assoc, Int.mul_comm n 2]
    rw [e, Int.add_mul, Int.mul_zero, Int.zero_add]
    omega
theorem valF_zero (l : List Bool) : 0 ≤ valF 0 l ∧ valF 0 l < 2 ^ l.length := by
  induction l with
  | nil => decide
  | cons x a ih =>
    rw [valF, valF_lin, List.length_cons, Int.pow_succ]
    generalize (2 : Int) ^ a.length = P at *
    cases x <;> simp <;> omega
theorem valF_byte (n : Int) (b : UInt8) : valF n (topBits 8 b) = n * 256 + (b.toNat : Int) := by
  have key : ∀ k : Fin 256, valF 0 (topBits 8 (UInt8.ofNat k.1)) = (k.1 : Int) := by decide +kernel
  have := key ⟨b.toNat, b.toNat_lt⟩
  simp only [UInt8.ofNat_toNat] at this
  rw [valF_lin, this, topBits_length]
  rfl
theorem valF_all (n : Int) (x : UInt8) (t : List UInt8) : valF n (allBits (x :: t)) = valF (n * 256 + (x.toNat : Int)) (allBits t) := by
  rw [allBits, valF_append, valF_byte]
def inR (n : Int) : Prop := -9223372036854775808 ≤ n ∧ n < 9223372036854775808
theorem out_stays (l : List Bool) (n : Int) (h : ¬ inR n) : ¬ inR (valF n l) := by
  induction l generalizing n with
  | nil => exact h
  | cons x a ih =>
    rw [valF]
    apply ih
    unfold inR at *
    cases x <;> simp <;> omega
theorem rdW_val (t : List UInt8) (n : Int) : (t = [] ∨ inR (valF n (allBits t)) → rdW n t = some (valF n (allBits t))) ∧ (t ≠ [] → ¬ inR (valF n (allBits t)) → rdW n t = none) := by
  induction t generalizing n with
  | nil => exact ⟨fun _ => rfl, fun h => absurd rfl h⟩
  | cons x t ih =>
    rw [valF_all, rdW]
    have hx := x.toNat_lt
    by_cases hn : -36028797018963968 ≤ n ∧ n < 36028797018963968
    · rw [if_pos hn]
      obtain ⟨i1, i2⟩ := ih (n * 256 + (x.toNat : Int))
      have hin : inR (n * 256 + (x.toNat : Int)) := by unfold inR; omega
      refine ⟨fun h => i1 ?_, fun _ h => ?_⟩
      · rcases h with h | h
        · cases h
        · exact .inr h
      · cases t with
        | nil => exact absurd hin h
        | cons y t => exact i2 (by simp) h
    · rw [if_neg hn]
      have hout : ¬ inR (n * 256 + (x.toNat : Int)) := by unfold inR; omega
      refine ⟨fun h => ?_, fun _ _ => rfl⟩
      rcases h with h | h
      · cases h
      · exact absurd h (out_stays _ _ hout)
theorem tc_drop (b : Bool) (t : List Bool) : tc (b :: b :: t) = tc (b :: t) := by
  cases b <;> simp [tc, valF]
theorem tc_out (a b : Bool) (t : List Bool) (h : a ≠ b) (hl : 63 ≤ t.length) : ¬ inR (tc (a :: b :: t)) := by
  have hp : (9223372036854775808 : Int) ≤ 2 ^ t.length := by
    have h1 : (2 : Nat) ^ 63 ≤ 2 ^ t.length := Nat.pow_le_pow_right (by omega) hl
    have h9 : ((2 ^ 63 : Nat) : Int) ≤ ((2 ^ t.length : Nat) : Int) := Int.ofNat_le.2 h1
    rw [Int.natCast_pow 2 t.length] at h9
    exact h9
  obtain ⟨h0, h1⟩ := valF_zero t
  simp only [tc, valF]
  rw [valF_lin]
  generalize (2 : Int) ^ t.length = P at *
  unfold inR
  cases a <;> cases b <;> simp at h ⊢ <;> omega
theorem tc_in (l : List Bool) (k : Nat) (h0 : l ≠ []) (hk : l.length ≤ k + 1) : -(2 : Int) ^ k ≤ tc l ∧ tc l < 2 ^ k := by
  cases l with
  | nil => exact absurd rfl h0
  | cons b t =>
    have ht : t.length ≤ k := by simpa using hk
    have hp : (2 : Int) ^ t.length ≤ 2 ^ k := by
      have h1 : (2 : Nat) ^ t.length ≤ 2 ^ k := Nat.pow_le_pow_right (by omega) ht
      have h9 : ((2 ^ t.length : Nat) : Int) ≤ ((2 ^ k : Nat) : Int) := Int.ofNat_le.2 h1
      rw [Int.natCast_pow, Int.natCast_pow] at h9
      exact h9
    obtain ⟨h0, h1⟩ := valF_zero t
    rw [tc, valF_lin]
    generalize (2 : Int) ^ t.length = P at *
    generalize (2 : Int) ^ k = Q at *
    cases b <;> simp <;> omega
theorem valF_snoc (n : Int) (l : List Bool) (b : Bool) : valF n (l ++ [b]) = 2 * valF n l + if b then 1 else 0 := by rw [valF_append]; rfl
theorem tc_snoc (l : List Bool) (b : Bool) (h0 : l ≠ []) : tc (l ++ [b]) = 2 * tc l + if b then 1 else 0 := by
  cases l with
  | nil => exact absurd rfl h0
  | cons x t => simp only [List.cons_append, tc]; exact valF_snoc _ t b
theorem tc_next (l : List Bool) (k : Nat) (h1 : 1 ≤ k) (hk : k < l.length) : tc (l.take (k + 1)) = 2 * tc (l.take k) + if l.getD k false then 1 else 0 := by
  have e : l.take (k + 1) = l.take k ++ [l.getD k false] := by rw [List.take_add_one]; simp [hk]
  rw [e]
  exact tc_snoc _ _ (by intro h; have := congrArg List.length h; rw [List.length_take, List.length_nil] at this; omega)
theorem tc_hd (b : UInt8) (hb : 128 ≤ b.toNat) (X : List Bool) : tc ((topBits 8 b ++ X).drop 1) = valF (hd b) X := by
  have key : ∀ k : Fin 256, 128 ≤ k.1 → (topBits 8 (UInt8.ofNat k.1)).drop 1 ≠ [] ∧ tc ((topBits 8 (UInt8.ofNat k.1)).drop 1) = hd (UInt8.ofNat k.1) := by decide +kernel
  obtain ⟨h1, h2⟩ := key ⟨b.toNat, b.toNat_lt⟩ hb
  simp only [UInt8.ofNat_toNat] at h1 h2
  rw [List.drop_append_of_le_length (by simp), ← h2]
  generalize (topBits 8 b).drop 1 = Y at *
  cases Y with
  | nil => exact absurd rfl h1
  | cons y Y => simp only [List.cons_append, tc]; exact valF_append _ _ _
/-- What Number tells of a field in base 256. -/
theorem num_tc (b : UInt8) (t : List UInt8) (hb : 128 ≤ b.toNat) (ht : t.length ≤ 19) :
    (t = [] ∨ inR (tc ((allBits (b :: t)).drop 1)) → num (b :: t) = (tc ((allBits (b :: t)).drop 1), 0)) ∧ (t ≠ [] → ¬ inR (tc ((allBits (b :: t)).drop 1)) → num (b :: t) = (0, 3)) := by
  have e : tc ((allBits (b :: t)).drop 1) = valF (hd b) (allBits t) := by rw [allBits]; exact tc_hd b hb _
  rw [e]
  unfold num
  rw [if_neg (by simp; omega)]
  simp only
  rw [if_pos hb]
  obtain ⟨h1, h2⟩ := rdW_val t (hd b)
  exact ⟨fun h => by rw [h1 h], fun h h3 => by rw [h2 h h3]⟩
end Fx
end Go.Proofs.YtkkelmlkpehcpaaDoor
