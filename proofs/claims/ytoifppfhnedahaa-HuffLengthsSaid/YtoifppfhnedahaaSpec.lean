/-
  The plain mathematics of canonical codes: how lengths are, first codes, what is read.
-/
import Derived.Attr
namespace Hf

/-- How many of length n (0: none counted). -/
def ct (zs : List Int) (n : Nat) : Nat := if n = 0 then 0 else zs.count (n : Int)
/-- The first code of a length. -/
def F (zs : List Int) : Nat → Nat
  | 0 => 0
  | n + 1 => 2 * (F zs n + ct zs n)
/-- What comes behind the last code of a length. -/
def K (zs : List Int) (n : Nat) : Nat := F zs n + ct zs n
theorem F_succ (zs : List Int) (n : Nat) : F zs (n + 1) = 2 * K zs n := rfl
theorem F_zero (zs : List Int) : F zs 0 = 0 := rfl
theorem K_zero (zs : List Int) : K zs 0 = 0 := rfl
theorem F_one (zs : List Int) : F zs 1 = 0 := rfl
theorem ct_le (zs : List Int) (n : Nat) : ct zs n ≤ zs.length := by
  unfold ct; split
  · omega
  · exact List.count_le_length
theorem K_le (zs : List Int) (n : Nat) : K zs n + zs.length ≤ 2 ^ n * zs.length := by
  induction n with
  | zero => simp [K_zero]
  | succ n ih =>
    have := ct_le zs (n + 1)
    have e : 2 ^ (n + 1) * zs.length = 2 * (2 ^ n * zs.length) := by rw [Nat.pow_succ]; simp [Nat.mul_comm, Nat.mul_left_comm]
    unfold K; rw [F_succ]; omega
theorem K_lt (zs : List Int) (n : Nat) (hn : n ≤ 15) (hl : zs.length ≤ 1024) : K zs n ≤ 33554432 := by
  have h := K_le zs n
  have h2 : 2 ^ n * zs.length ≤ 2 ^ 15 * 1024 := Nat.mul_le_mul (Nat.pow_le_pow_right (by decide) hn) hl
  have : (2 : Nat) ^ 15 * 1024 = 33554432 := by decide
  omega
/-- All that have a code, in parts of 2 to -15. -/
def kr (zs : List Int) : Nat := K zs 15
def st (zs : List Int) : Int := if kr zs < 32768 then -1 else if 32768 < kr zs then 1 else 0
/-- Lengths that may be. -/
def good (zs : List Int) : Prop := zs.length ≤ 1024 ∧ ∀ z ∈ zs, 0 ≤ z ∧ z ≤ 15
instance (zs : List Int) : Decidable (good zs) := by unfold good; infer_instance

/-- A symbol's code. -/
def code (zs : List Int) (i : Nat) : Nat := if 0 < zs.getD i 0 then F zs (zs.getD i 0).toNat + ct (zs.take i) (zs.getD i 0).toNat else 0
def codes (zs : List Int) : List Nat := (List.range zs.length).map (code zs)
theorem codes_length (zs : List Int) : (codes zs).length = zs.length := by simp [codes]
theorem codes_getD (zs : List Int) (i : Nat) (hi : i < zs.length) : (codes zs).getD i 0 = code zs i := by simp [codes, hi]

/-- The symbols of a length, in their order. -/
def places (zs : List Int) (n : Nat) : List Nat := (List.range zs.length).filter fun i => zs.getD i 0 == (n : Int)
theorem count_take_succ (zs : List Int) (i : Nat) (hi : i < zs.length) (z : Int) : (zs.take (i + 1)).count z = (zs.take i).count z + (if zs.getD i 0 == z then 1 else 0) := by
  have e : zs.getD i 0 = zs[i] := by simp [hi]
  rw [List.take_add_one, List.getElem?_eq_getElem hi, List.count_append, e, Option.toList_some, List.count_singleton]
theorem ct_take_succ (zs : List Int) (i : Nat) (hi : i < zs.length) (n : Nat) (hn : 0 < n) : ct (zs.take (i + 1)) n = ct (zs.take i) n + (if zs.getD i 0 = (n : Int) then 1 else 0) := by
  unfold ct
  rw [if_neg (by omega), if_neg (by omega), count_take_succ zs i hi]
  simp
/-- The symbols of a length among the first k. -/
def placesTo (zs : List Int) (n k : Nat) : List Nat := (List.range k).filter fun i => zs.getD i 0 == (n : Int)
theorem placesTo_all (zs : List Int) (n : Nat) : placesTo zs n zs.length = places zs n := rfl
theorem placesTo_succ (zs : List Int) (n k : Nat) : placesTo zs n (k + 1) = placesTo zs n k ++ (if zs.getD k 0 = (n : Int) then [k] else []) := by
  unfold placesTo
  rw [List.range_succ, List.filter_append]
  by_cases h : zs.getD k 0 = (n : Int) <;> simp_all
theorem placesTo_length (zs : List Int) (n k : Nat) (hn : 0 < n) (hk : k ≤ zs.length) : (placesTo zs n k).length = ct (zs.take k) n := by
  induction k with
  | zero => simp [placesTo, ct]
  | succ k ih =>
    rw [placesTo_succ, List.length_append, ih (by omega), ct_take_succ zs k (by omega) n hn]
    split <;> rfl
theorem places_length (zs : List Int) (n : Nat) (hn : 0 < n) : (places zs n).length = ct zs n := by
  rw [← placesTo_all, placesTo_length zs n _ hn (Nat.le_refl _), List.take_length]
/-- The symbol at a place among those of its length. -/
theorem placesTo_at (zs : List Int) (n k s : Nat) (hn : 0 < n) (hk : k ≤ zs.length) (j : Nat) (h : (placesTo zs n k)[j]? = some s) : s < k ∧ zs.getD s 0 = (n : Int) ∧ ct (zs.take s) n = j := by
  induction k with
  | zero => simp [placesTo] at h
  | succ k ih =>
    rw [placesTo_succ] at h
    have hl := placesTo_length zs n k hn (by omega)
    rcases Nat.lt_or_ge j (placesTo zs n k).length with hj | hj
    · rw [List.getElem?_append_left hj] at h
      have := ih (by omega) h
      exact ⟨by omega, this.2⟩
    · rw [List.getElem?_append_right hj] at h
      split at h
      · rename_i he
        rcases Nat.lt_or_ge (j - (placesTo zs n k).length) 1 with h1 | h1
        · have e0 : j - (placesTo zs n k).length = 0 := by omega
          rw [e0] at h
          simp at h
          subst h
          exact ⟨by omega, he, by omega⟩
        · rw [List.getElem?_eq_none (by simpa using h1)] at h; cases h
      · simp at h
theorem placesTo_of (zs : List Int) (n k s : Nat) (hn : 0 < n) (hk : k ≤ zs.length) (hs : s < k) (he : zs.getD s 0 = (n : Int)) : (placesTo zs n k)[ct (zs.take s) n]? = some s := by
  induction k with
  | zero => omega
  | succ k ih =>
    rw [placesTo_succ]
    rcases Nat.lt_or_ge s k with h | h
    · have := ih (by omega) h
      have hj := (List.getElem?_eq_some_iff.1 this).1
      rw [List.getElem?_append_left hj]; exact this
    · obtain rfl : s = k := by omega
      rw [List.getElem?_append_right (by rw [placesTo_length zs n s hn (by omega)]; omega), if_pos he, placesTo_length zs n s hn (by omega)]
      simp
/-- The symbol of a length whose code it is. -/
def sym (zs : List Int) (n c : Nat) : Option Nat := if F zs n ≤ c then (places zs n)[c - F zs n]? else none
theorem sym_some (zs : List Int) (n c s : Nat) (hn : 0 < n) : sym zs n c = some s ↔ s < zs.length ∧ zs.getD s 0 = (n : Int) ∧ code zs s = c := by
  unfold sym
  constructor
  · intro h
    split at h
    · rename_i hle
      have := placesTo_at zs n zs.length s hn (Nat.le_refl _) _ h
      refine ⟨this.1, this.2.1, ?_⟩
      unfold code
      rw [this.2.1, if_pos (by omega), Int.toNat_natCast, this.2.2]; omega
    · cases h
  · rintro ⟨h1, h2, h3⟩
    unfold code at h3
    rw [h2, if_pos (by omega), Int.toNat_natCast] at h3
    rw [if_pos (by omega)]
    have := placesTo_of zs n zs.length s hn (Nat.le_refl _) h1 h2
    rw [placesTo_all] at this
    rw [show c - F zs n = ct (zs.take s) n by omega]; exact this
theorem sym_none (zs : List Int) (n c : Nat) (hn : 0 < n) (h : F zs n ≤ c) : sym zs n c = none ↔ K zs n ≤ c := by
  unfold sym K
  rw [if_pos h, List.getElem?_eq_none_iff, places_length zs n hn]; omega
/-- A code is read, bit by bit, of so many bits at most. -/
def rd (zs : List Int) : Nat → Nat → Nat → List Bool → Nat × Int × Nat
  | 0, n, _, _ => (0, 20, n)
  | _ + 1, n, _, [] => (0, 4, n)
  | fuel + 1, n, c, b :: bs =>
    match sym zs (n + 1) (2 * c + b.toNat) with
    | some s => (s, 0, n + 1)
    | none => rd zs fuel (n + 1) (2 * c + b.toNat) bs
/-- The most bits that a book takes. -/
def deep (zs : List Int) : Nat := (zs.foldl max 1).toNat
/-- Are there no symbols, or just one, of length 1? -/
def lone (zs : List Int) : Bool := decide (zs.length - zs.count 0 ≤ 1) && decide (zs.length - zs.count 0 = zs.count 1)
def may (zs : List Int) : Int := if good zs then (if st zs = 0 ∨ lone zs = true then 0 else 20) else 1
end Hf
