/-
  Fields of numbers, as mathematics: octal digits, two's complement in base 256, what is read back.
-/
namespace Go.Proofs.YtkkelmlkpehcpaaDoor
namespace Fx
/-- k octal digits of n (the lowest ones), the highest first. -/
def pad : Nat → Nat → List UInt8
  | 0, _ => []
  | k + 1, n => pad k (n / 8) ++ [UInt8.ofNat (48 + n % 8)]
@[simp] theorem pad_length (k n : Nat) : (pad k n).length = k := by
  induction k generalizing n with
  | zero => rfl
  | succ k ih => simp [pad, ih]
theorem pad_cons (k n : Nat) : pad (k + 1) n = UInt8.ofNat (48 + n / 8 ^ k % 8) :: pad k n := by
  induction k generalizing n with
  | zero => simp [pad]
  | succ k ih =>
    rw [pad, ih, List.cons_append, pad]
    congr 3
    rw [Nat.div_div_eq_div_mul, Nat.pow_succ, Nat.mul_comm]
theorem pad_more (a k n : Nat) (h : n < 8 ^ k) : pad (a + k) n = List.replicate a 48 ++ pad k n := by
  induction a with
  | zero => simp
  | succ a ih =>
    rw [show a + 1 + k = (a + k) + 1 by omega, pad_cons, ih]
    have h2 : 8 ^ k ≤ 8 ^ (a + k) := Nat.pow_le_pow_right (by omega) (by omega)
    rw [Nat.div_eq_of_lt (Nat.lt_of_lt_of_le h h2)]
    simp [List.replicate_succ]
/-- The answer of Octal. -/
def octE (n many : Int) : Int := if many < 2 ∨ 20 < many then 1 else if n < 0 ∨ (8 : Int) ^ (many.toNat - 1) ≤ n then 3 else 0
def octL (n many : Int) : List UInt8 := if octE n many = 0 then pad (many.toNat - 1) n.toNat ++ [0] else []
theorem octL_length (n many : Int) (h : octE n many = 0) : ((octL n many).length : Int) = many := by
  unfold octL
  rw [if_pos h]
  unfold octE at h
  split at h
  · omega
  · simp; omega
/-- k bytes of n as two's complement, the highest first. -/
def wid : Nat → Int → List UInt8
  | 0, _ => []
  | k + 1, n => wid k (n / 256) ++ [UInt8.ofNat (n % 256).toNat]
@[simp] theorem wid_length (k : Nat) (n : Int) : (wid k n).length = k := by
  induction k generalizing n with
  | zero => rfl
  | succ k ih => simp [wid, ih]
/-- The mark upon the first byte. -/
def mark : List UInt8 → List UInt8
  | [] => []
  | b :: t => (b ||| 128) :: t
@[simp] theorem mark_length (l : List UInt8) : (mark l).length = l.length := by cases l <;> simp [mark]
/-- Does it fit into the bits that many bytes leave? -/
def fits (n many : Int) : Prop := -(2 : Int) ^ (8 * many.toNat - 2) ≤ n ∧ n < (2 : Int) ^ (8 * many.toNat - 2)
instance (n many : Int) : Decidable (fits n many) := by unfold fits; infer_instance
def widE (n many : Int) : Int := if many < 2 ∨ 20 < many then 1 else if fits n many then 0 else 3
def widL (n many : Int) : List UInt8 := if widE n many = 0 then mark (wid many.toNat n) else []
theorem widL_length (n many : Int) (h : widE n many = 0) : ((widL n many).length : Int) = many := by
  unfold widL
  rw [if_pos h]
  unfold widE at h
  split at h
  · omega
  · simp; omega
/-- Reading on in base 256. -/
def rdW : Int → List UInt8 → Option Int
  | n, [] => some n
  | n, x :: t => if -36028797018963968 ≤ n ∧ n < 36028797018963968 then rdW (n * 256 + (x.toNat : Int)) t else none
/-- The first byte's number: without the mark, its highest bit the sign. -/
def hd (b : UInt8) : Int := if b.toNat < 192 then (b.toNat : Int) - 128 else (b.toNat : Int) - 256
/-- Reading on in octal: 5 for what is no digit. -/
def rdO : Int → List UInt8 → Option Int
  | n, [] => some n
  | n, x :: t => if x = 32 ∨ x = 0 then some n else if x.toNat < 48 ∨ 55 < x.toNat then none else rdO (n * 8 + ((x.toNat : Int) - 48)) t
def skip : List UInt8 → List UInt8
  | [] => []
  | x :: t => if x = 32 then skip t else x :: t
/-- The answer of Number: the number, the error. -/
def num (l : List UInt8) : Int × Int :=
  if l.length = 0 ∨ 20 < l.length then (0, 1)
  else match l with
    | [] => (0, 1)
    | b :: t => if 128 ≤ b.toNat then (match rdW (hd b) t with | some n => (n, 0) | none => (0, 3)) else (match rdO 0 (skip (b :: t)) with | some n => (n, 0) | none => (0, 5))
end Fx
end Go.Proofs.YtkkelmlkpehcpaaDoor
