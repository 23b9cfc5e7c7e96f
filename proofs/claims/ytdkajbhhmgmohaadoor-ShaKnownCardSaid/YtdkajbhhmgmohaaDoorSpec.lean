/-
  The plain mathematics of SHA-256 (FIPS 180-4) on 32-bit words, in Lean; how the walk's integers stand for words and bytes.
-/
import Derived.Laws.BitsAllLaws
import Derived.Laws.Rows
import Derived.Attr
namespace Sha
open Go

/-- A word of 32 bits. -/
abbrev W := BitVec 32

/-- The integer that a word is in Go. Plain, so that no simp set opens it. -/
def iv (b : W) : Int := (b.toNat : Int)
theorem iv_nonneg (b : W) : 0 ≤ iv b := by unfold iv; omega
theorem iv_lt (b : W) : iv b < 4294967296 := by unfold iv; have := b.isLt; omega
theorem iv_inj {a b : W} (h : iv a = iv b) : a = b := by
  unfold iv at h; exact BitVec.eq_of_toNat_eq (by omega)
theorem ofInt_iv (b : W) : BitVec.ofInt 32 (iv b) = b := by
  unfold iv; apply BitVec.eq_of_toNat_eq; rw [ofInt_u32 _ b.isLt]
/-- The word that an integer is. -/
def wd (x : Int) : W := BitVec.ofInt 32 x
theorem iv_wd (x : Int) (h0 : 0 ≤ x) (h1 : x < 4294967296) : iv (wd x) = x := by
  obtain ⟨n, rfl⟩ := Int.eq_ofNat_of_zero_le h0
  unfold iv wd; rw [ofInt_u32 _ (by omega)]

/-- The integer that a byte is. -/
def bi (b : UInt8) : Int := (b.toNat : Int)
theorem bi_nonneg (b : UInt8) : 0 ≤ bi b := by unfold bi; omega
theorem bi_lt (b : UInt8) : bi b < 256 := by unfold bi; have := b.toNat_lt; omega
theorem bi_inj {a b : UInt8} (h : bi a = bi b) : a = b := by
  unfold bi at h; exact UInt8.toNat_inj.1 (by omega)

theorem u32_xor_iv (a b : W) : bits .xor .u32 (iv a) (iv b) = iv (a ^^^ b) := by
  unfold iv; rw [u32_xor_nat _ _ a.isLt b.isLt, BitVec.toNat_xor]
theorem u32_and_iv (a b : W) : bits .and .u32 (iv a) (iv b) = iv (a &&& b) := by
  unfold iv; rw [u32_and_nat _ _ a.isLt b.isLt, BitVec.toNat_and]
theorem u32_or_iv (a b : W) : bits .or .u32 (iv a) (iv b) = iv (a ||| b) := by
  unfold iv; rw [u32_or_nat _ _ a.isLt b.isLt, BitVec.toNat_or]
theorem add_iv (a b : W) : (iv a + iv b) % 4294967296 = iv (a + b) := by
  unfold iv; rw [BitVec.toNat_add]; omega
theorem wrap_add_iv (a b : W) : IntKind.u32.wrap (iv a + iv b) = iv (a + b) := by
  rw [IntKind.wrap_u32', add_iv]
theorem shr_iv (a : W) (k : Nat) : iv a / 2 ^ k = iv (a >>> k) := by
  unfold iv; rw [BitVec.toNat_ushiftRight, Nat.shiftRight_eq_div_pow]; norm_cast
theorem shl_iv (a : W) (k : Nat) : iv a * 2 ^ k % 4294967296 = iv (a <<< k) := by
  unfold iv; rw [BitVec.toNat_shiftLeft, Nat.shiftLeft_eq, show (2 : Nat) ^ 32 = 4294967296 from by decide, Int.natCast_emod, Int.natCast_mul, Int.natCast_pow]; rfl
theorem not_iv (a : W) : (4294967295 : Int) - iv a = iv (~~~a) := by
  unfold iv; rw [BitVec.toNat_not]; have := a.isLt; omega

theorem u32_not_iv (a : W) : bits .xor .u32 (if IntKind.u32.signed = true then -1 else IntKind.u32.max) (iv a) = iv (~~~a) := by
  show bits .xor .u32 (if false = true then -1 else 4294967295) (iv a) = _
  rw [if_neg (by decide), show (4294967295 : Int) = iv (BitVec.allOnes 32) from rfl, u32_xor_iv, BitVec.allOnes_xor]

def rotr (x : W) (k : Nat) : W := x >>> k ||| x <<< (32 - k)
theorem rotr_iv (x : W) (k : Nat) : bits .or .u32 (iv x / 2 ^ k) (iv x * 2 ^ (32 - k) % 4294967296) = iv (rotr x k) := by
  rw [shr_iv, shl_iv, u32_or_iv]; rfl
def bS0 (x : W) : W := rotr x 2 ^^^ rotr x 13 ^^^ rotr x 22
def bS1 (x : W) : W := rotr x 6 ^^^ rotr x 11 ^^^ rotr x 25
def sS0 (x : W) : W := rotr x 7 ^^^ rotr x 18 ^^^ x >>> 3
def sS1 (x : W) : W := rotr x 17 ^^^ rotr x 19 ^^^ x >>> 10

/-- Four bytes as a word, the highest first. -/
def word4 (a b c d : UInt8) : W := (BitVec.ofNat 32 a.toNat) <<< 24 ||| (BitVec.ofNat 32 b.toNat) <<< 16 ||| (BitVec.ofNat 32 c.toNat) <<< 8 ||| BitVec.ofNat 32 d.toNat
theorem iv_byte (a : UInt8) : bi a = iv (BitVec.ofNat 32 a.toNat) := by
  unfold iv bi; rw [BitVec.toNat_ofNat]; have := a.toNat_lt; omega

/-- The schedule, as it is filled: behind k steps its first k words stand. -/
def schedStep (m : Nat → W) (l : List W) (k : Nat) : List W :=
  l.set k (if k < 16 then m k else sS1 (l.getD (k - 2) 0#32) + l.getD (k - 7) 0#32 + sS0 (l.getD (k - 15) 0#32) + l.getD (k - 16) 0#32)
def schedL (m : Nat → W) : Nat → List W
  | 0 => List.replicate 64 0#32
  | k + 1 => schedStep m (schedL m k) k
theorem schedL_length (m : Nat → W) (k : Nat) : (schedL m k).length = 64 := by
  induction k with
  | zero => rfl
  | succ k ih => simp [schedL, schedStep, ih]
/-- The words of a block of 64 bytes. -/
def blockWord (bs : List UInt8) (k : Nat) : W := word4 (bs.getD (4 * k) 0) (bs.getD (4 * k + 1) 0) (bs.getD (4 * k + 2) 0) (bs.getD (4 * k + 3) 0)
def sched (bs : List UInt8) : List W := schedL (blockWord bs) 64

/-- The cells of words, and of bytes. -/
def wcells (l : List W) : Array Value := (l.map fun x => Value.int .u32 (iv x)).toArray
def bcells (l : List UInt8) : Array Value := (l.map fun x => Value.int .u8 (bi x)).toArray
theorem wcells_size (l : List W) : (wcells l).size = l.length := by simp [wcells]
theorem bcells_size (l : List UInt8) : (bcells l).size = l.length := by simp [bcells]
theorem wcells_at (l : List W) (i : Nat) (h : i < l.length) : (wcells l)[i]? = some (.int .u32 (iv (l.getD i 0#32))) := by
  simp [wcells, h]
theorem bcells_at (l : List UInt8) (i : Nat) (h : i < l.length) : (bcells l)[i]? = some (.int .u8 (bi (l.getD i 0))) := by
  simp [bcells, h]
theorem wcells_set (l : List W) (i : Nat) (x : W) : (wcells l).setIfInBounds i (.int .u32 (iv x)) = wcells (l.set i x) := by
  simp [wcells, List.map_set]
theorem bcells_set (l : List UInt8) (i : Nat) (x : UInt8) : (bcells l).setIfInBounds i (.int .u8 (bi x)) = bcells (l.set i x) := by
  simp [bcells, List.map_set]
theorem wcells_one (l : List W) : (wcells l).all (·.oneCell') = true := by
  simp [wcells, Value.oneCell']
theorem bcells_one (l : List UInt8) : (bcells l).all (·.oneCell') = true := by
  simp [bcells, Value.oneCell']

/-- The eight words of a hash. -/
structure St where
  a : W
  b : W
  c : W
  d : W
  e : W
  f : W
  g : W
  h : W
def rnd (s : St) (kk ww : W) : St :=
  let t1 := s.h + bS1 s.e + ((s.e &&& s.f) ^^^ (~~~s.e &&& s.g)) + kk + ww
  let t2 := bS0 s.a + ((s.a &&& s.b) ^^^ (s.a &&& s.c) ^^^ (s.b &&& s.c))
  ⟨t1 + t2, s.a, s.b, s.c, s.d + t1, s.e, s.f, s.g⟩
def rnds (kl wl : List W) (s : St) : Nat → St
  | 0 => s
  | k + 1 => rnd (rnds kl wl s k) (kl.getD k 0#32) (wl.getD k 0#32)
def St.plus (s t : St) : St := ⟨s.a + t.a, s.b + t.b, s.c + t.c, s.d + t.d, s.e + t.e, s.f + t.f, s.g + t.g, s.h + t.h⟩
/-- K0 to K63, and H0 to H7. -/
def kl : List W := [0x428a2f98, 0x71374491, 0xb5c0fbcf, 0xe9b5dba5, 0x3956c25b, 0x59f111f1, 0x923f82a4, 0xab1c5ed5, 0xd807aa98, 0x12835b01, 0x243185be, 0x550c7dc3, 0x72be5d74, 0x80deb1fe, 0x9bdc06a7, 0xc19bf174, 0xe49b69c1, 0xefbe4786, 0x0fc19dc6, 0x240ca1cc, 0x2de92c6f, 0x4a7484aa, 0x5cb0a9dc, 0x76f988da, 0x983e5152, 0xa831c66d, 0xb00327c8, 0xbf597fc7, 0xc6e00bf3, 0xd5a79147, 0x06ca6351, 0x14292967, 0x27b70a85, 0x2e1b2138, 0x4d2c6dfc, 0x53380d13, 0x650a7354, 0x766a0abb, 0x81c2c92e, 0x92722c85, 0xa2bfe8a1, 0xa81a664b, 0xc24b8b70, 0xc76c51a3, 0xd192e819, 0xd6990624, 0xf40e3585, 0x106aa070, 0x19a4c116, 0x1e376c08, 0x2748774c, 0x34b0bcb5, 0x391c0cb3, 0x4ed8aa4a, 0x5b9cca4f, 0x682e6ff3, 0x748f82ee, 0x78a5636f, 0x84c87814, 0x8cc70208, 0x90befffa, 0xa4506ceb, 0xbef9a3f7, 0xc67178f2]
def h0 : St := ⟨0x6a09e667, 0xbb67ae85, 0x3c6ef372, 0xa54ff53a, 0x510e527f, 0x9b05688c, 0x1f83d9ab, 0x5be0cd19⟩
def compress (s : St) (bs : List UInt8) : St := s.plus (rnds kl (sched bs) s 64)

/-- A State's cells. -/
def stc (mk : Bool) (s : St) (rest : List UInt8) (n : Nat) : Array Value :=
  #[.bool mk, .int .u32 (iv s.a), .int .u32 (iv s.b), .int .u32 (iv s.c), .int .u32 (iv s.d), .int .u32 (iv s.e), .int .u32 (iv s.f), .int .u32 (iv s.g), .int .u32 (iv s.h)] ++ bcells rest ++ #[.int .u64 n]
theorem stc_size (mk : Bool) (s : St) (rest : List UInt8) (n : Nat) : (stc mk s rest n).size = rest.length + 10 := by
  simp [stc, bcells_size]; omega
theorem stc_low (mk : Bool) (s : St) (rest : List UInt8) (n i : Nat) (hi : i < 9) : (stc mk s rest n)[i]? = (#[Value.bool mk, .int .u32 (iv s.a), .int .u32 (iv s.b), .int .u32 (iv s.c), .int .u32 (iv s.d), .int .u32 (iv s.e), .int .u32 (iv s.f), .int .u32 (iv s.g), .int .u32 (iv s.h)] : Array Value)[i]? := by
  unfold stc
  rw [Array.append_assoc, Array.getElem?_append_left (by simpa using hi)]
theorem stc_rest (mk : Bool) (s : St) (rest : List UInt8) (n i : Nat) (hi : i < rest.length) : (stc mk s rest n)[9 + i]? = some (.int .u8 (bi (rest.getD i 0))) := by
  unfold stc
  rw [Array.append_assoc, Array.getElem?_append_right (by simp), Array.getElem?_append_left (by simp [bcells_size]; omega)]
  simp only [List.size_toArray, List.length_cons, List.length_nil]
  rw [show 9 + i - (0 + 1 + 1 + 1 + 1 + 1 + 1 + 1 + 1 + 1) = i by omega, bcells_at _ _ hi]
theorem stc_count (mk : Bool) (s : St) (rest : List UInt8) (n : Nat) (hr : rest.length = 64) : (stc mk s rest n)[73]? = some (.int .u64 n) := by
  unfold stc
  rw [Array.getElem?_append_right (by simp [bcells_size, hr])]
  simp [bcells_size, hr]
end Sha
