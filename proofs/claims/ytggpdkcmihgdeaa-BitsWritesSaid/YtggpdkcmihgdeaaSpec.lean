/-
  The plain mathematics of rows of bits: numbers, bytes, packing.
-/
import Derived.Laws.BitsAllLaws
import Derived.Laws.Rows
import Derived.Attr
namespace Bt
open Go

/-- The integer that a byte is. -/
def bi (b : UInt8) : Int := (b.toNat : Int)
theorem bi_nonneg (b : UInt8) : 0 ≤ bi b := by unfold bi; omega
theorem bi_lt (b : UInt8) : bi b < 256 := by unfold bi; have := b.toNat_lt; omega
theorem bi_inj {a b : UInt8} (h : bi a = bi b) : a = b := by
  unfold bi at h; exact UInt8.toNat_inj.1 (by omega)
theorem bi_ofNat (x : Nat) : bi (UInt8.ofNat x) = ((x % 256 : Nat) : Int) := by
  unfold bi; simp
/-- Bytes as cells. -/
def bcells (l : List UInt8) : Array Value := (l.map fun x => Value.int .u8 (bi x)).toArray
theorem bcells_at (l : List UInt8) (i : Nat) (h : i < l.length) : (bcells l)[i]? = some (.int .u8 (bi (l.getD i 0))) := by
  simp [bcells, h]
theorem bcells_size (l : List UInt8) : (bcells l).size = l.length := by simp [bcells]
theorem bcells_set (l : List UInt8) (i : Nat) (x : UInt8) : (bcells l).setIfInBounds i (.int .u8 (bi x)) = bcells (l.set i x) := by
  unfold bcells; simp [List.map_set]

/-- The number that bits are, the lowest first. -/
def num : List Bool → Nat
  | [] => 0
  | b :: t => b.toNat + 2 * num t
theorem num_lt : ∀ l : List Bool, num l < 2 ^ l.length
  | [] => by simp [num]
  | b :: t => by
    have := num_lt t
    rw [num, List.length_cons, Nat.pow_succ]
    cases b <;> simp <;> omega
theorem num_testBit : ∀ (l : List Bool) (i : Nat), (num l).testBit i = l.getD i false
  | [], i => by simp [num]
  | b :: t, 0 => by
    rw [num, Nat.testBit_zero]
    cases b <;> simp <;> omega
  | b :: t, i + 1 => by
    rw [num, Nat.testBit_succ]
    have : (b.toNat + 2 * num t) / 2 = num t := by cases b <;> simp <;> omega
    rw [this, num_testBit t i]
    simp
theorem num_append (l m : List Bool) : num (l ++ m) = num l + 2 ^ l.length * num m := by
  induction l with
  | nil => simp [num]
  | cons b t ih =>
    simp only [List.cons_append, num, ih, List.length_cons, Nat.pow_succ]
    rw [Nat.mul_add, Nat.add_assoc, Nat.mul_comm (2 ^ t.length) 2, Nat.mul_assoc]
theorem num_snoc (l : List Bool) (b : Bool) : num (l ++ [b]) = num l ||| b.toNat <<< l.length := by
  rw [num_append]
  have h := num_lt l
  have e : num [b] = b.toNat := by cases b <;> rfl
  rw [e, Nat.shiftLeft_eq, Nat.or_comm, Nat.mul_comm b.toNat, ← Nat.two_pow_add_eq_or_of_lt h, Nat.add_comm]
theorem num_false (n : Nat) : num (List.replicate n false) = 0 := by
  induction n with
  | zero => rfl
  | succ n ih => simp [List.replicate_succ, num, ih]
/-- A number's lowest bits. -/
def bitsN (n many : Nat) : List Bool := (List.range many).map n.testBit
theorem bitsN_length (n k : Nat) : (bitsN n k).length = k := by simp [bitsN]
theorem bitsN_getD (n k i : Nat) : (bitsN n k).getD i false = (decide (i < k) && n.testBit i) := by
  by_cases h : i < k <;> simp [bitsN, h]
theorem bitsN_succ (n k : Nat) : bitsN n (k + 1) = bitsN n k ++ [n.testBit k] := by
  simp [bitsN, List.range_succ]
theorem num_bitsN (n k : Nat) : num (bitsN n k) = n % 2 ^ k := by
  apply Nat.eq_of_testBit_eq
  intro i
  rw [num_testBit, bitsN_getD, Nat.testBit_mod_two_pow]
theorem num_bitsN_of_lt {n k : Nat} (h : n < 2 ^ k) : num (bitsN n k) = n := by
  rw [num_bitsN, Nat.mod_eq_of_lt h]
theorem bitsN_mod (n k : Nat) : bitsN (n % 2 ^ k) k = bitsN n k := by
  unfold bitsN
  refine List.map_congr_left fun i hi => ?_
  rw [Nat.testBit_mod_two_pow, decide_eq_true (List.mem_range.1 hi), Bool.true_and]
theorem ext_getD {α : Type} (d : α) {a b : List α} (hl : a.length = b.length) (h : ∀ i, i < a.length → a.getD i d = b.getD i d) : a = b := by
  apply List.ext_getElem hl
  intro i h1 h2
  have := h i h1
  simpa [h1, h2] using this
theorem bitsN_num (l : List Bool) : bitsN (num l) l.length = l := by
  apply ext_getD false (bitsN_length _ _)
  intro i hi
  rw [bitsN_length] at hi
  rw [bitsN_getD, num_testBit, decide_eq_true hi, Bool.true_and]
/-- A number the other way round. -/
def rev (n many : Nat) : Nat := num (bitsN n many).reverse
theorem rev_lt (n k : Nat) : rev n k < 2 ^ k := by
  have := num_lt (bitsN n k).reverse
  rwa [List.length_reverse, bitsN_length] at this
theorem bitsN_rev (n k : Nat) : bitsN (rev n k) k = (bitsN n k).reverse := by
  have := bitsN_num (bitsN n k).reverse
  rwa [List.length_reverse, bitsN_length] at this
theorem rev_rev (n k : Nat) : rev (rev n k) k = n % 2 ^ k := by
  rw [rev, bitsN_rev, List.reverse_reverse, num_bitsN]
theorem rev_succ (n k : Nat) : rev n (k + 1) = rev n k * 2 ||| (n.testBit k).toNat := by
  unfold rev
  rw [bitsN_succ, List.reverse_append, List.reverse_singleton, List.singleton_append, num]
  generalize num (bitsN n k).reverse = x
  cases n.testBit k
  · simp [Nat.mul_comm]
  · have h := Nat.two_pow_add_eq_or_of_lt (i := 1) (b := 1) (by decide) x
    simp only [Nat.pow_one] at h
    rw [Nat.mul_comm x 2]
    show 1 + 2 * x = 2 * x ||| 1
    rw [← h]; omega
theorem bit_at (n k : Nat) : n / 2 ^ k % 2 = (n.testBit k).toNat := by
  rw [Nat.testBit_eq_decide_div_mod_eq]
  have := Nat.mod_two_eq_zero_or_one (n / 2 ^ k)
  rcases this with h | h <;> simp [h]
theorem and_one (n : Nat) : n &&& 1 = n % 2 := Nat.and_one_is_mod n

/-- A byte, by its bits. -/
theorem byte_ext {x y : UInt8} (h : ∀ j, j < 8 → x.toNat.testBit j = y.toNat.testBit j) : x = y := by
  apply UInt8.toNat_inj.1
  apply Nat.eq_of_testBit_eq
  intro j
  by_cases hj : j < 8
  · exact h j hj
  · have h1 : x.toNat < 2 ^ j := Nat.lt_of_lt_of_le x.toNat_lt (Nat.pow_le_pow_right (by decide) (show 8 ≤ j by omega))
    have h2 : y.toNat < 2 ^ j := Nat.lt_of_lt_of_le y.toNat_lt (Nat.pow_le_pow_right (by decide) (show 8 ≤ j by omega))
    rw [Nat.testBit_lt_two_pow h1, Nat.testBit_lt_two_pow h2]
def byteAt (L : List Bool) (k : Nat) : UInt8 := UInt8.ofNat (num ((L.drop (8 * k)).take 8))
theorem byteAt_bit (L : List Bool) (k j : Nat) (hj : j < 8) : (byteAt L k).toNat.testBit j = L.getD (8 * k + j) false := by
  unfold byteAt
  have h := num_lt ((L.drop (8 * k)).take 8)
  have hl : ((L.drop (8 * k)).take 8).length ≤ 8 := by simp; omega
  have h8 : num ((L.drop (8 * k)).take 8) < 256 := Nat.lt_of_lt_of_le h (by
    have := Nat.pow_le_pow_right (show 0 < 2 by decide) hl
    simpa using this)
  rw [UInt8.toNat_ofNat', Nat.mod_eq_of_lt h8, num_testBit]
  simp [hj]
/-- The bytes of bits. -/
def pack (L : List Bool) : List UInt8 := (List.range ((L.length + 7) / 8)).map (byteAt L)
theorem pack_length (L : List Bool) : (pack L).length = (L.length + 7) / 8 := by simp [pack]
theorem pack_getD (L : List Bool) (k : Nat) (hk : k < (L.length + 7) / 8) : (pack L).getD k 0 = byteAt L k := by
  simp [pack, hk]
theorem pack_bit (L : List Bool) (k j : Nat) (hj : j < 8) : ((pack L).getD k 0).toNat.testBit j = L.getD (8 * k + j) false := by
  by_cases hk : k < (L.length + 7) / 8
  · rw [pack_getD L k hk, byteAt_bit L k j hj]
  · have h1 : (pack L).getD k 0 = 0 := by
      rw [List.getD_eq_getElem?_getD, List.getElem?_eq_none (by rw [pack_length]; omega)]; rfl
    have h2 : L.getD (8 * k + j) false = false := by
      rw [List.getD_eq_getElem?_getD, List.getElem?_eq_none (by omega)]; rfl
    rw [h1, h2]; simp
theorem bytes_ext {a b : List UInt8} (hl : a.length = b.length) (h : ∀ k, k < a.length → ∀ j, j < 8 → (a.getD k 0).toNat.testBit j = (b.getD k 0).toNat.testBit j) : a = b :=
  ext_getD 0 hl fun k hk => byte_ext (h k hk)
theorem pack_nil : pack [] = [] := rfl
/-- One bit more: the row behind the new byte, if there is one. -/
def room (L : List Bool) : List UInt8 := if L.length % 8 = 0 then pack L ++ [0] else pack L
theorem room_length (L : List Bool) : (room L).length = L.length / 8 + 1 := by
  unfold room; split <;> simp [pack_length] <;> omega
theorem room_bit (L : List Bool) (k j : Nat) (hj : j < 8) : ((room L).getD k 0).toNat.testBit j = L.getD (8 * k + j) false := by
  unfold room
  split
  · rename_i h
    by_cases hk : k < (L.length + 7) / 8
    · rw [← pack_bit L k j hj]
      congr 2
      rw [List.getD_eq_getElem?_getD, List.getElem?_append_left (by rw [pack_length]; exact hk), ← List.getD_eq_getElem?_getD]
    · have h2 : L.getD (8 * k + j) false = false := by
        rw [List.getD_eq_getElem?_getD, List.getElem?_eq_none (by omega)]; rfl
      have h1 : (pack L ++ [0]).getD k 0 = 0 := by
        rw [List.getD_eq_getElem?_getD, List.getElem?_append_right (by rw [pack_length]; omega)]
        cases hx : k - (pack L).length <;> simp
      rw [h1, h2]; simp
  · exact pack_bit L k j hj
theorem shl_byte_bit (b : Bool) (p j : Nat) : (b.toNat <<< p).testBit j = (decide (j = p) && b) := by
  rw [Nat.testBit_shiftLeft]
  by_cases h : j = p
  · subst h; cases b <;> simp
  · by_cases hp : p ≤ j
    · have : j - p ≠ 0 := by omega
      cases b
      · simp [h]
      · have h1 : Nat.testBit 1 (j - p) = false := Nat.testBit_lt_two_pow (Nat.one_lt_two_pow this)
        simp [h, h1]
    · simp [h, hp]
theorem pack_snoc (L : List Bool) (b : Bool) : pack (L ++ [b]) = (room L).set (L.length / 8) (UInt8.ofNat (((room L).getD (L.length / 8) 0).toNat ||| b.toNat <<< (L.length % 8))) := by
  apply bytes_ext
  · rw [pack_length, List.length_set, room_length]; simp; omega
  intro k hk j hj
  rw [pack_length] at hk
  simp only [List.length_append, List.length_singleton] at hk
  rw [pack_bit _ _ _ hj]
  by_cases hkk : k = L.length / 8
  · subst hkk
    rw [List.getD_eq_getElem?_getD (l := (room L).set _ _), List.getElem?_set_self (by rw [room_length]; omega), Option.getD_some]
    have hlt : ((room L).getD (L.length / 8) 0).toNat ||| b.toNat <<< (L.length % 8) < 256 := by
      refine Nat.or_lt_two_pow (n := 8) (UInt8.toNat_lt _) ?_
      rw [Nat.shiftLeft_eq]
      have : 2 ^ (L.length % 8) ≤ 2 ^ 7 := Nat.pow_le_pow_right (by decide) (by omega)
      cases b <;> simp <;> omega
    rw [UInt8.toNat_ofNat', Nat.mod_eq_of_lt (by simpa using hlt), Nat.testBit_or, room_bit _ _ _ hj, shl_byte_bit]
    by_cases hjj : j = L.length % 8
    · have e : 8 * (L.length / 8) + j = L.length := by omega
      rw [e]
      simp [hjj]
    · simp only [hjj, decide_false, Bool.false_and, Bool.or_false]
      by_cases hl : 8 * (L.length / 8) + j < L.length
      · rw [List.getD_eq_getElem?_getD, List.getElem?_append_left hl, ← List.getD_eq_getElem?_getD]
      · rw [List.getD_eq_getElem?_getD, List.getElem?_eq_none (by simp; omega), List.getD_eq_getElem?_getD, List.getElem?_eq_none (by omega)]
  · rw [List.getD_eq_getElem?_getD (l := (room L).set _ _), List.getElem?_set_ne (by omega), ← List.getD_eq_getElem?_getD, room_bit _ _ _ hj]
    have hl : 8 * k + j < L.length := by omega
    rw [List.getD_eq_getElem?_getD, List.getElem?_append_left hl, ← List.getD_eq_getElem?_getD]
/-- Bits of 0 to the next whole byte. -/
def fill (L : List Bool) : List Bool := L ++ List.replicate ((L.length + 7) / 8 * 8 - L.length) false
theorem fill_length (L : List Bool) : (fill L).length = (L.length + 7) / 8 * 8 := by simp [fill]; omega
theorem getD_append_false (L : List Bool) (n i : Nat) : (L ++ List.replicate n false).getD i false = L.getD i false := by
  by_cases h : i < L.length
  · rw [List.getD_eq_getElem?_getD, List.getElem?_append_left h, ← List.getD_eq_getElem?_getD]
  · rw [List.getD_eq_getElem?_getD, List.getElem?_append_right (by omega), List.getElem?_replicate, List.getD_eq_getElem?_getD, List.getElem?_eq_none (l := L) (by omega)]
    split <;> rfl
theorem fill_getD (L : List Bool) (i : Nat) : (fill L).getD i false = L.getD i false := getD_append_false _ _ _
theorem pack_fill (L : List Bool) : pack (fill L) = pack L := by
  apply bytes_ext
  · rw [pack_length, pack_length, fill_length]; omega
  intro k _ j hj
  rw [pack_bit _ _ _ hj, pack_bit _ _ _ hj, fill_getD]
/-- The bits of bytes. -/
def bitsOf (bs : List UInt8) : List Bool := (List.range (8 * bs.length)).map fun i => (bs.getD (i / 8) 0).toNat.testBit (i % 8)
theorem bitsOf_length (bs : List UInt8) : (bitsOf bs).length = 8 * bs.length := by simp [bitsOf]
theorem bitsOf_getD (bs : List UInt8) (i : Nat) : (bitsOf bs).getD i false = (bs.getD (i / 8) 0).toNat.testBit (i % 8) := by
  by_cases h : i < 8 * bs.length
  · simp [bitsOf, h]
  · rw [List.getD_eq_getElem?_getD, List.getElem?_eq_none (by rw [bitsOf_length]; omega), List.getD_eq_getElem?_getD, List.getElem?_eq_none (by omega)]
    simp
theorem bitsOf_pack (L : List Bool) : bitsOf (pack L) = fill L := by
  apply ext_getD false
  · rw [bitsOf_length, pack_length, fill_length]; omega
  intro i _
  rw [bitsOf_getD, pack_bit _ _ _ (by omega), fill_getD]
  congr 1; omega
theorem pack_bitsOf (bs : List UInt8) : pack (bitsOf bs) = bs := by
  apply bytes_ext
  · rw [pack_length, bitsOf_length]; omega
  intro k _ j hj
  rw [pack_bit _ _ _ hj, bitsOf_getD]
  have h1 : (8 * k + j) / 8 = k := by omega
  have h2 : (8 * k + j) % 8 = j := by omega
  rw [h1, h2]
theorem pack_append_bytes (L : List Bool) (bs : List UInt8) (h : L.length % 8 = 0) : pack (L ++ bitsOf bs) = pack L ++ bs := by
  apply bytes_ext
  · rw [pack_length, List.length_append, List.length_append, bitsOf_length, pack_length]; omega
  intro k hk j hj
  rw [pack_bit _ _ _ hj]
  by_cases hl : 8 * k + j < L.length
  · rw [List.getD_eq_getElem?_getD, List.getElem?_append_left hl, ← List.getD_eq_getElem?_getD, List.getD_eq_getElem?_getD (l := pack L ++ bs), List.getElem?_append_left (by rw [pack_length]; omega), ← List.getD_eq_getElem?_getD, pack_bit _ _ _ hj]
  · rw [List.getD_eq_getElem?_getD, List.getElem?_append_right (by omega), ← List.getD_eq_getElem?_getD, List.getD_eq_getElem?_getD (l := pack L ++ bs), List.getElem?_append_right (by rw [pack_length]; omega), ← List.getD_eq_getElem?_getD, bitsOf_getD, pack_length]
    have h1 : (8 * k + j - L.length) / 8 = k - (L.length + 7) / 8 := by omega
    have h2 : (8 * k + j - L.length) % 8 = j := by omega
    rw [h1, h2]
/-- Bits from a place on. -/
def seg (bs : List UInt8) (p many : Nat) : List Bool := (List.range many).map fun k => (bs.getD ((p + k) / 8) 0).toNat.testBit ((p + k) % 8)
theorem seg_length (bs : List UInt8) (p k : Nat) : (seg bs p k).length = k := by simp [seg]
theorem seg_succ (bs : List UInt8) (p k : Nat) : seg bs p (k + 1) = seg bs p k ++ [(bs.getD ((p + k) / 8) 0).toNat.testBit ((p + k) % 8)] := by simp [seg, List.range_succ]
theorem seg_getD (bs : List UInt8) (p k i : Nat) (hi : i < k) : (seg bs p k).getD i false = (bs.getD ((p + i) / 8) 0).toNat.testBit ((p + i) % 8) := by simp [seg, hi]
theorem seg_eq (bs : List UInt8) (p k : Nat) (h : p + k ≤ 8 * bs.length) : seg bs p k = ((bitsOf bs).drop p).take k := by
  apply ext_getD false
  · rw [seg_length, List.length_take, List.length_drop, bitsOf_length]; omega
  intro i hi
  rw [seg_length] at hi
  rw [seg_getD _ _ _ _ hi, List.getD_eq_getElem?_getD (l := (List.drop p (bitsOf bs)).take k), List.getElem?_take, if_pos hi, List.getElem?_drop, ← List.getD_eq_getElem?_getD, bitsOf_getD]
end Bt
