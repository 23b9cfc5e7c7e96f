/-
  Merged, in the order in which they build: Spec Inf.
-/
import Derived.Attr
/-
  The plain mathematics of canonical codes: how lengths are, first codes, what is read.
-/
namespace Hf

/-- How many of length n (0: none counted). -/
def ct (zs : List Int) (n : Nat) : Nat := if n = 0 then 0 else zs.count (n : Int)
/-- The first code of a length. -/
def F (zs : List Int) : Nat → Nat
  | 0 => 0
  | n + 1 => 2 * (F zs n + ct zs n)
/-- What comes behind the last code of a length. -/
def K (zs : List Int) (n : Nat) : Nat := F zs n + ct zs n
theorem F_succ (zs : List Int) (n : Nat) : F zs (n + 1) = 2 * K zs n := rfl
theorem F_zero (zs : List Int) : F zs 0 = 0 := rfl
theorem K_zero (zs : List Int) : K zs 0 = 0 := rfl
theorem F_one (zs : List Int) : F zs 1 = 0 := rfl
theorem ct_le (zs : List Int) (n : Nat) : ct zs n ≤ zs.length := by
  unfold ct; split
  · omega
  · exact List.count_le_length
theorem K_le (zs : List Int) (n : Nat) : K zs n + zs.length ≤ 2 ^ n * zs.length := by
  induction n with
  | zero => simp [K_zero]
  | succ n ih =>
    have := ct_le zs (n + 1)
    have e : 2 ^ (n + 1) * zs.length = 2 * (2 ^ n * zs.length) := by rw [Nat.pow_succ]; simp [Nat.mul_comm, Nat.mul_left_comm]
    unfold K; rw [F_succ]; omega
theorem K_lt (zs : List Int) (n : Nat) (hn : n ≤ 15) (hl : zs.length ≤ 1024) : K zs n ≤ 33554432 := by
  have h := K_le zs n
  have h2 : 2 ^ n * zs.length ≤ 2 ^ 15 * 1024 := Nat.mul_le_mul (Nat.pow_le_pow_right (by decide) hn) hl
  have : (2 : Nat) ^ 15 * 1024 = 33554432 := by decide
  omega
/-- All that have a code, in parts of 2 to -15. -/
def kr (zs : List Int) : Nat := K zs 15
def st (zs : List Int) : Int := if kr zs < 32768 then -1 else if 32768 < kr zs then 1 else 0
/-- Lengths that may be. -/
def good (zs : List Int) : Prop := zs.length ≤ 1024 ∧ ∀ z ∈ zs, 0 ≤ z ∧ z ≤ 15
instance (zs : List Int) : Decidable (good zs) := by unfold good; infer_instance

/-- A symbol's code. -/
def code (zs : List Int) (i : Nat) : Nat := if 0 < zs.getD i 0 then F zs (zs.getD i 0).toNat + ct (zs.take i) (zs.getD i 0).toNat else 0
def codes (zs : List Int) : List Nat := (List.range zs.length).map (code zs)
theorem codes_length (zs : List Int) : (codes zs).length = zs.length := by simp [codes]
theorem codes_getD (zs : List Int) (i : Nat) (hi : i < zs.length) : (codes zs).getD i 0 = code zs i := by simp [codes, hi]

/-- The symbols of a length, in their order. -/
def places (zs : List Int) (n : Nat) : List Nat := (List.range zs.length).filter fun i => zs.getD i 0 == (n : Int)
theorem count_take_succ (zs : List Int) (i : Nat) (hi : i < zs.length) (z : Int) : (zs.take (i + 1)).count z = (zs.take i).count z + (if zs.getD i 0 == z then 1 else 0) := by
  have e : zs.getD i 0 = zs[i] := by simp [hi]
  rw [List.take_add_one, List.getElem?_eq_getElem hi, List.count_append, e, Option.toList_some, List.count_singleton]
theorem ct_take_succ (zs : List Int) (i : Nat) (hi : i < zs.length) (n : Nat) (hn : 0 < n) : ct (zs.take (i + 1)) n = ct (zs.take i) n + (if zs.getD i 0 = (n : Int) then 1 else 0) := by
  unfold ct
  rw [if_neg (by omega), if_neg (by omega), count_take_succ zs i hi]
  simp
/-- The symbols of a length among the first k. -/
def placesTo (zs : List Int) (n k : Nat) : List Nat := (List.range k).filter fun i => zs.getD i 0 == (n : Int)
theorem placesTo_all (zs : List Int) (n : Nat) : placesTo zs n zs.length = places zs n := rfl
theorem placesTo_succ (zs : List Int) (n k : Nat) : placesTo zs n (k + 1) = placesTo zs n k ++ (if zs.getD k 0 = (n : Int) then [k] else []) := by
  unfold placesTo
  rw [List.range_succ, List.filter_append]
  by_cases h : zs.getD k 0 = (n : Int) <;> simp_all
theorem placesTo_length (zs : List Int) (n k : Nat) (hn : 0 < n) (hk : k ≤ zs.length) : (placesTo zs n k).length = ct (zs.take k) n := by
  induction k with
  | zero => simp [placesTo, ct]
  | succ k ih =>
    rw [placesTo_succ, List.length_append, ih (by omega), ct_take_succ zs k (by omega) n hn]
    split <;> rfl
theorem places_length (zs : List Int) (n : Nat) (hn : 0 < n) : (places zs n).length = ct zs n := by
  rw [← placesTo_all, placesTo_length zs n _ hn (Nat.le_refl _), List.take_length]
/-- The symbol at a place among those of its length. -/
theorem placesTo_at (zs : List Int) (n k s : Nat) (hn : 0 < n) (hk : k ≤ zs.length) (j : Nat) (h : (placesTo zs n k)[j]? = some s) : s < k ∧ zs.getD s 0 = (n : Int) ∧ ct (zs.take s) n = j := by
  induction k with
  | zero => simp [placesTo] at h
  | succ k ih =>
    rw [placesTo_succ] at h
    have hl := placesTo_length zs n k hn (by omega)
    rcases Nat.lt_or_ge j (placesTo zs n k).length with hj | hj
    · rw [List.getElem?_append_left hj] at h
      have := ih (by omega) h
      exact ⟨by omega, this.2⟩
    · rw [List.getElem?_append_right hj] at h
      split at h
      · rename_i he
        rcases Nat.lt_or_ge (j - (placesTo zs n k).length) 1 with h1 | h1
        · have e0 : j - (placesTo zs n k).length = 0 := by omega
          rw [e0] at h
          simp at h
          subst h
          exact ⟨by omega, he, by omega⟩
        · rw [List.getElem?_eq_none (by simpa using h1)] at h; cases h
      · simp at h
theorem placesTo_of (zs : List Int) (n k s : Nat) (hn : 0 < n) (hk : k ≤ zs.length) (hs : s < k) (he : zs.getD s 0 = (n : Int)) : (placesTo zs n k)[ct (zs.take s) n]? = some s := by
  induction k with
  | zero => omega
  | succ k ih =>
    rw [placesTo_succ]
    rcases Nat.lt_or_ge s k with h | h
    · have := ih (by omega) h
      have hj := (List.getElem?_eq_some_iff.1 this).1
      rw [List.getElem?_append_left hj]; exact this
    · obtain rfl : s = k := by omega
      rw [List.getElem?_append_right (by rw [placesTo_length zs n s hn (by omega)]; omega), if_pos he, placesTo_length zs n s hn (by omega)]
      simp
/-- The symbol of a length whose code it is. -/
def sym (zs : List Int) (n c : Nat) : Option Nat := if F zs n ≤ c then (places zs n)[c - F zs n]? else none
theorem sym_some (zs : List Int) (n c s : Nat) (hn : 0 < n) : sym zs n c = some s ↔ s < zs.length ∧ zs.getD s 0 = (n : Int) ∧ code zs s = c := by
  unfold sym
  constructor
  · intro h
    split at h
    · rename_i hle
      have := placesTo_at zs n zs.length s hn (Nat.le_refl _) _ h
      refine ⟨this.1, this.2.1, ?_⟩
      unfold code
      rw [this.2.1, if_pos (by omega), Int.toNat_natCast, this.2.2]; omega
    · cases h
  · rintro ⟨h1, h2, h3⟩
    unfold code at h3
    rw [h2, if_pos (by omega), Int.toNat_natCast] at h3
    rw [if_pos (by omega)]
    have := placesTo_of zs n zs.length s hn (Nat.le_refl _) h1 h2
    rw [placesTo_all] at this
    rw [show c - F zs n = ct (zs.take s) n by omega]; exact this
theorem sym_none (zs : List Int) (n c : Nat) (hn : 0 < n) (h : F zs n ≤ c) : sym zs n c = none ↔ K zs n ≤ c := by
  unfold sym K
  rw [if_pos h, List.getElem?_eq_none_iff, places_length zs n hn]; omega
/-- A code is read, bit by bit, of so many bits at most. -/
def rd (zs : List Int) : Nat → Nat → Nat → List Bool → Nat × Int × Nat
  | 0, n, _, _ => (0, 20, n)
  | _ + 1, n, _, [] => (0, 4, n)
  | fuel + 1, n, c, b :: bs =>
    match sym zs (n + 1) (2 * c + b.toNat) with
    | some s => (s, 0, n + 1)
    | none => rd zs fuel (n + 1) (2 * c + b.toNat) bs
/-- The most bits that a book takes. -/
def deep (zs : List Int) : Nat := (zs.foldl max 1).toNat
/-- Are there no symbols, or just one, of length 1? -/
def lone (zs : List Int) : Bool := decide (zs.length - zs.count 0 ≤ 1) && decide (zs.length - zs.count 0 = zs.count 1)
def may (zs : List Int) : Int := if good zs then (if st zs = 0 ∨ lone zs = true then 0 else 20) else 1
end Hf
/-
  The plain mathematics of expanding: streams of blocks, as the program reads them.
-/
namespace Inf
open Hf

/-- The number of a row of bits, the lowest first. -/
def val : List Bool → Nat
  | [] => 0
  | b :: t => b.toNat + 2 * val t
theorem val_lt : ∀ r : List Bool, val r < 2 ^ r.length
  | [] => by simp [val]
  | b :: t => by
    have := val_lt t
    have hb : b.toNat < 2 := by cases b <;> decide
    rw [val, List.length_cons, Nat.pow_succ]; omega
theorem val_snoc (r : List Bool) (b : Bool) : val (r ++ [b]) = val r + b.toNat * 2 ^ r.length := by
  induction r with
  | nil => simp [val]
  | cons a t ih =>
    rw [List.cons_append, val, ih, val, List.length_cons, Nat.pow_succ, Nat.mul_add, Nat.mul_left_comm 2 b.toNat, Nat.mul_comm 2 (2 ^ t.length)]
    omega
/-- What goes wrong, or what is read and what is left. -/
abbrev Res (α : Type) := Except Int (α × List Bool)
def numb (n : Nat) (r : List Bool) : Res Nat := if n ≤ r.length then .ok (val (r.take n), r.drop n) else .error 4
def symb (zs : List Int) (r : List Bool) : Res Nat :=
  if (rd zs (deep zs) 0 0 r).2.1 = 0 then .ok ((rd zs (deep zs) 0 0 r).1, r.drop (rd zs (deep zs) 0 0 r).2.2) else .error (rd zs (deep zs) 0 0 r).2.1
def scal (g s : Nat) (r : List Bool) : Res Nat :=
  if s < g then .ok (s, r) else
  match numb (s / g - 1) r with
  | .ok (x, r) => .ok ((g + s % g) * 2 ^ (s / g - 1) + x, r)
  | .error e => .error e
def long (s : Nat) (r : List Bool) : Res Nat :=
  if 285 < s then .error 20 else if s = 285 then .ok (258, r) else
  match scal 4 (s - 257) r with
  | .ok (x, r) => .ok (3 + x, r)
  | .error e => .error e
def far (ds : List Int) (r : List Bool) : Res Nat :=
  match symb ds r with
  | .ok (s, r) => if 29 < s then .error 20 else
    match scal 2 s r with
    | .ok (x, r) => .ok (1 + x, r)
    | .error e => .error e
  | .error e => .error e
/-- Copied byte by byte. -/
def copy (out : List UInt8) (d : Nat) : Nat → List UInt8
  | 0 => out
  | n + 1 => copy (out ++ [out.getD (out.length - d) 0]) d n
theorem copy_length (d : Nat) : ∀ n (out : List UInt8), (copy out d n).length = out.length + n
  | 0, out => rfl
  | n + 1, out => by rw [copy, copy_length d n]; simp; omega
theorem copy_last (d : Nat) : ∀ n (out : List UInt8), copy out d (n + 1) = copy out d n ++ [(copy out d n).getD ((copy out d n).length - d) 0]
  | 0, out => rfl
  | n + 1, out => by rw [copy, copy_last d n]; rfl
def back (ds : List Int) (most n : Nat) (out : List UInt8) (r : List Bool) : Res (List UInt8) :=
  match far ds r with
  | .ok (d, r) => if out.length < d then .error 20 else if most - out.length < n then .error 22 else .ok (copy out d n, r)
  | .error e => .error e
/-- What stands in a block that has codes. -/
def body (zs ds : List Int) (most : Nat) : Nat → List UInt8 → List Bool → Res (List UInt8)
  | 0, _, _ => .error 0
  | f + 1, out, r =>
    match symb zs r with
    | .ok (s, r) =>
      if s < 256 then (if most - out.length < 1 then .error 22 else body zs ds most f (out ++ [UInt8.ofNat s]) r)
      else if s = 256 then .ok (out, r) else
      match long s r with
      | .ok (n, r) =>
        match back ds most n out r with
        | .ok (out, r) => body zs ds most f out r
        | .error e => .error e
      | .error e => .error e
    | .error e => .error e
/-- Bytes out of bits. -/
def byts : Nat → List Bool → List UInt8
  | 0, _ => []
  | n + 1, r => UInt8.ofNat (val (r.take 8)) :: byts n (r.drop 8)
theorem byts_length : ∀ n r, (byts n r).length = n
  | 0, _ => rfl
  | n + 1, r => by rw [byts, List.length_cons, byts_length]
theorem byts_add : ∀ m n r, byts (m + n) r = byts m r ++ byts n (r.drop (8 * m))
  | 0, n, r => by simp [byts]
  | m + 1, n, r => by
    rw [show m + 1 + n = (m + n) + 1 by omega, byts, byts, byts_add m n, List.drop_drop, List.cons_append, show 8 + 8 * m = 8 * (m + 1) by omega]
def take (most n : Nat) (out : List UInt8) (r : List Bool) : Res (List UInt8) :=
  if most - out.length < min n (r.length / 8) then .error 22 else if r.length / 8 < n then .error 4 else .ok (out ++ byts n r, r.drop (8 * n))
def stored (most : Nat) (out : List UInt8) (r : List Bool) : Res (List UInt8) :=
  match numb 16 (r.drop (r.length % 8)) with
  | .ok (n, r) =>
    match numb 16 r with
    | .ok (m, r) => if m ≠ 65535 - n then .error 20 else take most n out r
    | .error e => .error e
  | .error e => .error e
/-- A book: what huff.New tells of lengths. -/
def book (zs : List Int) : Except Int Unit := if may zs = 0 then .ok () else .error (may zs)
def fixS : List Int := List.replicate 144 8 ++ List.replicate 112 9 ++ List.replicate 24 7 ++ List.replicate 8 8
def fixD : List Int := List.replicate 32 5
def order : List Nat := [16, 17, 18, 0, 8, 7, 9, 6, 10, 5, 11, 4, 12, 3, 13, 2, 14, 1, 15]
/-- The lengths of the signs' own codes: so many of them stand here, the first k are read. -/
def teller : Nat → List Int → Nat → List Bool → Res (List Int)
  | 0, lens, _, r => .ok (lens, r)
  | n + 1, lens, k, r =>
    match numb 3 r with
    | .ok (x, r) => teller n (lens.set (order.getD k 0) (x : Int)) (k + 1) r
    | .error e => .error e
/-- The next length, and how often it stands. -/
def run (zs : List Int) (ahead : List Int) (r : List Bool) : Res (Int × Nat) :=
  match symb zs r with
  | .ok (s, r) =>
    if s = 16 then
      match numb 2 r with
      | .ok (x, r) => if ahead.length = 0 then .error 20 else .ok ((ahead.getD (ahead.length - 1) 0, 3 + x), r)
      | .error e => .error e
    else if s = 17 then
      match numb 3 r with
      | .ok (x, r) => .ok ((0, 3 + x), r)
      | .error e => .error e
    else if s = 18 then
      match numb 7 r with
      | .ok (x, r) => .ok ((0, 11 + x), r)
      | .error e => .error e
    else .ok (((s : Int), 1), r)
  | .error e => .error e
/-- So many lengths. -/
def lens (zs : List Int) (many : Nat) : Nat → List Int → List Bool → Res (List Int)
  | 0, _, _ => .error 0
  | f + 1, ahead, r =>
    if ahead.length < many then
      match run zs ahead r with
      | .ok ((z, t), r) => lens zs many f (ahead ++ List.replicate t z) r
      | .error e => .error e
    else if many < ahead.length then .error 20 else .ok (ahead, r)
/-- The books of a dynamic block. -/
def heads (r : List Bool) : Res (List Int × List Int) :=
  match numb 5 r with
  | .ok (l, r) =>
    match numb 5 r with
    | .ok (d, r) =>
      match numb 4 r with
      | .ok (c, r) =>
        if 286 < 257 + l ∨ 30 < 1 + d then .error 20 else
        match teller (4 + c) (List.replicate 19 0) 0 r with
        | .ok (zs, r) =>
          match book zs with
          | .ok _ =>
            match lens zs (257 + l + (1 + d)) (257 + l + (1 + d) + 1) [] r with
            | .ok (all, r) =>
              if all.getD 256 0 = 0 then .error 20 else
              match book (all.take (257 + l)) with
              | .ok _ =>
                match book (all.drop (257 + l)) with
                | .ok _ => .ok ((all.take (257 + l), all.drop (257 + l)), r)
                | .error e => .error e
              | .error e => .error e
            | .error e => .error e
          | .error e => .error e
        | .error e => .error e
      | .error e => .error e
    | .error e => .error e
  | .error e => .error e
structure Blk where
  kind : Nat
  last : Bool
  from_ : Nat
  to : Nat
deriving DecidableEq
/-- A block. -/
def block (most : Nat) (out : List UInt8) (r : List Bool) : Res (Blk × List UInt8) :=
  match numb 1 r with
  | .ok (l, r) =>
    match numb 2 r with
    | .ok (k, r) =>
      match (if k = 0 then stored most out r else if k = 1 then body fixS fixD most (r.length + 1) out r else if k = 2 then
          (match heads r with
          | .ok ((zs, ds), r) => body zs ds most (r.length + 1) out r
          | .error e => .error e)
        else (.error 20 : Res (List UInt8))) with
      | .ok (out2, r) => .ok (({ kind := k, last := decide (l = 1), from_ := out.length, to := out2.length }, out2), r)
      | .error e => .error e
    | .error e => .error e
  | .error e => .error e
def blocks (most : Nat) : Nat → List Blk → List UInt8 → List Bool → Res (List Blk × List UInt8)
  | 0, _, _, _ => .error 0
  | f + 1, ks, out, r =>
    match block most out r with
    | .ok ((k, out), r) => if k.last then .ok ((ks ++ [k], out), r) else blocks most f (ks ++ [k]) out r
    | .error e => .error e
/-- The bits of bytes. -/
def bit8 (x : UInt8) : List Bool := (List.range 8).map fun k => x.toNat.testBit k
def bits (b : List UInt8) : List Bool := b.flatMap bit8
def all (b : List UInt8) (most : Nat) : Res (List Blk × List UInt8) := blocks most (8 * b.length + 1) [] [] (bits b)
end Inf
