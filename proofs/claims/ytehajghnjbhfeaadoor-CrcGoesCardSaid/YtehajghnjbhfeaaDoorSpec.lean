/-
  The plain mathematics of CRC-32 on 32-bit words; how the walk's integers stand for words and bytes.
-/
import Derived.Laws.BitsAllLaws
import Derived.Laws.Rows
import Derived.Attr
namespace Crc
open Go

/-- A word of 32 bits. -/
abbrev W := BitVec 32

/-- The integer that a word is in Go. Plain, so that no simp set opens it. -/
def iv (b : W) : Int := (b.toNat : Int)
theorem iv_nonneg (b : W) : 0 ≤ iv b := by unfold iv; omega
theorem iv_lt (b : W) : iv b < 4294967296 := by unfold iv; have := b.isLt; omega
theorem iv_inj {a b : W} (h : iv a = iv b) : a = b := by
  unfold iv at h; exact BitVec.eq_of_toNat_eq (by omega)
/-- The word that an integer is. -/
def wd (x : Int) : W := BitVec.ofInt 32 x
theorem wd_iv (b : W) : wd (iv b) = b := by
  unfold iv wd; apply BitVec.eq_of_toNat_eq; rw [ofInt_u32 _ b.isLt]
theorem iv_wd (x : Int) (h0 : 0 ≤ x) (h1 : x < 4294967296) : iv (wd x) = x := by
  obtain ⟨n, rfl⟩ := Int.eq_ofNat_of_zero_le h0
  unfold iv wd; rw [ofInt_u32 _ (by omega)]

/-- The integer that a byte is. -/
def bi (b : UInt8) : Int := (b.toNat : Int)
theorem bi_nonneg (b : UInt8) : 0 ≤ bi b := by unfold bi; omega
theorem bi_lt (b : UInt8) : bi b < 256 := by unfold bi; have := b.toNat_lt; omega
theorem bi_inj {a b : UInt8} (h : bi a = bi b) : a = b := by
  unfold bi at h; exact UInt8.toNat_inj.1 (by omega)
theorem bi_ofNat (x : Nat) : bi (UInt8.ofNat x) = ((x % 256 : Nat) : Int) := by
  unfold bi; simp

theorem u32_xor_iv (a b : W) : bits .xor .u32 (iv a) (iv b) = iv (a ^^^ b) := by
  unfold iv; rw [u32_xor_nat _ _ a.isLt b.isLt, BitVec.toNat_xor]
theorem u32_and_iv (a b : W) : bits .and .u32 (iv a) (iv b) = iv (a &&& b) := by
  unfold iv; rw [u32_and_nat _ _ a.isLt b.isLt, BitVec.toNat_and]
theorem u32_or_iv (a b : W) : bits .or .u32 (iv a) (iv b) = iv (a ||| b) := by
  unfold iv; rw [u32_or_nat _ _ a.isLt b.isLt, BitVec.toNat_or]
theorem shr_iv (a : W) (k : Nat) : iv a / 2 ^ k = iv (a >>> k) := by
  unfold iv; rw [BitVec.toNat_ushiftRight, Nat.shiftRight_eq_div_pow]; norm_cast
theorem shl_iv (a : W) (k : Nat) : iv a * 2 ^ k % 4294967296 = iv (a <<< k) := by
  unfold iv; rw [BitVec.toNat_shiftLeft, Nat.shiftLeft_eq, show (2 : Nat) ^ 32 = 4294967296 from by decide, Int.natCast_emod, Int.natCast_mul, Int.natCast_pow]; rfl
theorem not_iv (a : W) : (4294967295 : Int) - iv a = iv (~~~a) := by
  unfold iv; rw [BitVec.toNat_not]; have := a.isLt; omega
theorem u32_not_iv (a : W) : bits .xor .u32 (if IntKind.u32.signed = true then -1 else IntKind.u32.max) (iv a) = iv (~~~a) := by
  show bits .xor .u32 (if false = true then -1 else 4294967295) (iv a) = _
  rw [if_neg (by decide), show (4294967295 : Int) = iv (BitVec.allOnes 32) from rfl, u32_xor_iv, BitVec.allOnes_xor]

/-- A byte as a word. -/
def bw (c : UInt8) : W := BitVec.ofNat 32 c.toNat
theorem iv_byte (a : UInt8) : bi a = iv (bw a) := by
  unfold iv bi bw; rw [BitVec.toNat_ofNat]; have := a.toNat_lt; omega
theorem bw_high (c : UInt8) (i : Nat) (hi : 8 ≤ i) : (bw c).getLsbD i = false := by
  unfold bw
  rw [BitVec.getLsbD_ofNat, Nat.testBit_lt_two_pow]
  · simp
  · have := c.toNat_lt
    exact Nat.lt_of_lt_of_le (m := 2 ^ 8) this (Nat.pow_le_pow_right (by decide) hi)

def poly : W := 0xedb88320#32
/-- A step of the register. -/
def step1 (x : W) : W := x >>> 1 ^^^ (if x.getLsbD 0 then poly else 0#32)
def steps : Nat → W → W
  | 0, x => x
  | n + 1, x => steps n (step1 x)
theorem xor_shr (a b : W) (k : Nat) : (a ^^^ b) >>> k = a >>> k ^^^ b >>> k := by
  apply BitVec.eq_of_getLsbD_eq; intro i _; simp
theorem step1_xor (a b : W) : step1 (a ^^^ b) = step1 a ^^^ step1 b := by
  unfold step1
  rw [xor_shr, BitVec.getLsbD_xor]
  apply BitVec.eq_of_getLsbD_eq
  intro i _
  cases a.getLsbD 0 <;> cases b.getLsbD 0 <;> simp [BitVec.getLsbD_xor] <;>
    cases a.getLsbD (1 + i) <;> cases b.getLsbD (1 + i) <;> cases poly.getLsbD i <;> rfl
theorem steps_xor (n : Nat) (a b : W) : steps n (a ^^^ b) = steps n a ^^^ steps n b := by
  induction n generalizing a b with
  | zero => rfl
  | succ n ih => simp only [steps, step1_xor, ih]
theorem steps_add (m n : Nat) (x : W) : steps (m + n) x = steps n (steps m x) := by
  induction m generalizing x with
  | zero => simp [steps]
  | succ m ih => rw [Nat.add_right_comm]; simp only [steps]; exact ih _
theorem steps_succ (n : Nat) (x : W) : steps (n + 1) x = step1 (steps n x) := steps_add n 1 x
theorem step1_even (z : W) (h : z.getLsbD 0 = false) : step1 z = z >>> 1 := by
  unfold step1; rw [h]; simp
theorem steps_low (n : Nat) (z : W) (h : ∀ i, i < n → z.getLsbD i = false) : steps n z = z >>> n := by
  induction n generalizing z with
  | zero => simp [steps]
  | succ n ih =>
    simp only [steps]
    rw [step1_even z (h 0 (by omega)), ih]
    · rw [← BitVec.shiftRight_add, Nat.add_comm]
    · intro i hi
      rw [BitVec.getLsbD_ushiftRight]; exact h _ (by omega)

/-- The table. -/
def tab : List W := [0x00000000, 0x1db71064, 0x3b6e20c8, 0x26d930ac, 0x76dc4190, 0x6b6b51f4, 0x4db26158, 0x5005713c, 0xedb88320, 0xf00f9344, 0xd6d6a3e8, 0xcb61b38c, 0x9b64c2b0, 0x86d3d2d4, 0xa00ae278, 0xbdbdf21c]
def nib (x : W) : Nat := (x &&& 15#32).toNat
theorem nib_lt (x : W) : nib x < 16 := by
  unfold nib; rw [BitVec.toNat_and]
  exact Nat.lt_of_le_of_lt Nat.and_le_right (by decide)
theorem tab_ok : ∀ k : Fin 16, steps 4 (BitVec.ofNat 32 k.val) = tab.getD k.val 0#32 := by decide +kernel
theorem parts (x : W) : x = (x &&& 0xfffffff0#32) ^^^ (x &&& 15#32) := by
  apply BitVec.eq_of_getLsbD_eq
  intro i hi
  have key : ∀ k : Fin 32, (0xfffffff0#32).getLsbD k.val = !(15#32).getLsbD k.val := by decide
  have := key ⟨i, hi⟩
  simp only at this
  simp only [BitVec.getLsbD_xor, BitVec.getLsbD_and, this]
  cases x.getLsbD i <;> cases (15#32).getLsbD i <;> rfl
theorem four (x : W) : x >>> 4 ^^^ tab.getD (nib x) 0#32 = steps 4 x := by
  have h1 : steps 4 (x &&& 15#32) = tab.getD (nib x) 0#32 := by
    have := tab_ok ⟨nib x, nib_lt x⟩
    simp only at this
    rw [← this]
    congr 1
    unfold nib
    simp
  have h2 : steps 4 (x &&& 0xfffffff0#32) = x >>> 4 := by
    rw [steps_low]
    · apply BitVec.eq_of_getLsbD_eq
      intro i hi
      have key : ∀ k : Fin 32, 4 + k.val < 32 → (0xfffffff0#32).getLsbD (4 + k.val) = true := by decide
      simp only [BitVec.getLsbD_ushiftRight, BitVec.getLsbD_and]
      by_cases h : 4 + i < 32
      · rw [key ⟨i, hi⟩ h, Bool.and_true]
      · rw [BitVec.getLsbD_of_ge _ _ (by omega)]; rfl
    · intro i hi
      have key : ∀ k : Fin 4, (0xfffffff0#32).getLsbD k.val = false := by decide
      have := key ⟨i, hi⟩
      simp only at this
      rw [BitVec.getLsbD_and, this, Bool.and_false]
  conv => rhs; rw [parts x, steps_xor, h1, h2]

def byteStep (x : W) (c : UInt8) : W := steps 8 (x ^^^ bw c)
/-- The register behind bytes. -/
def reg (x : W) (bs : List UInt8) : W := bs.foldl byteStep x
/-- A row's sum, with a row behind it. -/
def on (s : W) (bs : List UInt8) : W := ~~~(reg (~~~s) bs)
def crcL (bs : List UInt8) : W := on 0#32 bs
theorem reg_append (x : W) (a b : List UInt8) : reg x (a ++ b) = reg (reg x a) b := by simp [reg]
theorem reg_snoc (x : W) (a : List UInt8) (c : UInt8) : reg x (a ++ [c]) = byteStep (reg x a) c := by simp [reg]
theorem on_append (s : W) (a b : List UInt8) : on s (a ++ b) = on (on s a) b := by
  unfold on; rw [BitVec.not_not, reg_append]
theorem on_nil (s : W) : on s [] = s := by unfold on reg; simp
theorem two4 (x : W) (c : UInt8) : steps 4 (steps 4 (x ^^^ bw c)) = byteStep x c := (steps_add 4 4 _).symm

/-- Three rows. -/
theorem bw_xor (a b : UInt8) : bw (a ^^^ b) = bw a ^^^ bw b := by
  unfold bw
  apply BitVec.eq_of_toNat_eq
  rw [BitVec.toNat_xor, UInt8.toNat_xor]
  have ha := a.toNat_lt
  have hb := b.toNat_lt
  have hx : a.toNat ^^^ b.toNat < 2 ^ 8 := Nat.xor_lt_two_pow ha hb
  simp only [BitVec.toNat_ofNat]
  rw [Nat.mod_eq_of_lt (by omega), Nat.mod_eq_of_lt (by omega), Nat.mod_eq_of_lt (by omega)]
theorem byteStep_xor (x y : W) (a b : UInt8) : byteStep (x ^^^ y) (a ^^^ b) = byteStep x a ^^^ byteStep y b := by
  unfold byteStep
  rw [bw_xor, ← steps_xor]
  congr 1
  ac_rfl
def xor3 (a b c : List UInt8) (i : Nat) : UInt8 := a.getD i 0 ^^^ b.getD i 0 ^^^ c.getD i 0
theorem reg_take_succ (x : W) (l : List UInt8) (k : Nat) (hk : k < l.length) : reg x (l.take (k + 1)) = byteStep (reg x (l.take k)) (l.getD k 0) := by
  rw [List.take_succ_eq_append_getElem hk, reg_snoc]; simp [hk]
theorem reg_three (n : Nat) (a b c d : List UInt8) (ha : a.length = n) (hb : b.length = n) (hc : c.length = n) (hd : d.length = n)
    (h : ∀ i, i < n → d.getD i 0 = a.getD i 0 ^^^ b.getD i 0 ^^^ c.getD i 0) (x y z : W) (k : Nat) (hk : k ≤ n) :
    reg (x ^^^ y ^^^ z) (d.take k) = reg x (a.take k) ^^^ reg y (b.take k) ^^^ reg z (c.take k) := by
  induction k with
  | zero => simp [reg]
  | succ k ih =>
    rw [reg_take_succ _ _ _ (by omega), reg_take_succ _ _ _ (by omega), reg_take_succ _ _ _ (by omega), reg_take_succ _ _ _ (by omega), h k (by omega), ih (by omega), byteStep_xor, byteStep_xor]
theorem not_xor3 (a b c : W) : ~~~(a ^^^ b ^^^ c) = ~~~a ^^^ ~~~b ^^^ ~~~c := by
  apply BitVec.eq_of_getLsbD_eq
  intro i hi
  simp [hi]
theorem crc_three (n : Nat) (a b c d : List UInt8) (ha : a.length = n) (hb : b.length = n) (hc : c.length = n) (hd : d.length = n)
    (h : ∀ i, i < n → d.getD i 0 = a.getD i 0 ^^^ b.getD i 0 ^^^ c.getD i 0) : crcL d = crcL a ^^^ crcL b ^^^ crcL c := by
  have := reg_three n a b c d ha hb hc hd h (~~~0#32) (~~~0#32) (~~~0#32) n (Nat.le_refl _)
  rw [List.take_of_length_le (by omega), List.take_of_length_le (by omega), List.take_of_length_le (by omega), List.take_of_length_le (by omega), ← not_xor3] at this
  unfold crcL on
  rw [← not_xor3, ← this]
  rfl

/-- A step taken back. -/
def back1 (y : W) : W := if y.getLsbD 31 then (y ^^^ poly) <<< 1 ||| 1#32 else y <<< 1
theorem back_step (x : W) : back1 (step1 x) = x := by
  have hp : poly.getLsbD 31 = true := by decide
  unfold back1 step1
  by_cases h : x.getLsbD 0
  · have h1 : (x >>> 1 ^^^ poly).getLsbD 31 = true := by
      rw [BitVec.getLsbD_xor, BitVec.getLsbD_ushiftRight, BitVec.getLsbD_of_ge _ _ (by decide), hp]; rfl
    simp only [h, if_true, h1]
    rw [BitVec.xor_assoc, BitVec.xor_self, BitVec.xor_zero]
    apply BitVec.eq_of_getLsbD_eq
    intro i hi
    rw [BitVec.getLsbD_or, BitVec.getLsbD_shiftLeft, BitVec.getLsbD_ushiftRight]
    rcases i with _ | i
    · simp [h]
    · have : (1#32).getLsbD (i + 1) = false := by
        have key : ∀ k : Fin 31, (1#32).getLsbD (k.val + 1) = false := by decide
        exact key ⟨i, by omega⟩
      rw [this]
      simp [hi, Nat.add_comm]
  · have h' : x.getLsbD 0 = false := by simpa using h
    have h1 : (x >>> 1 ^^^ 0#32).getLsbD 31 = false := by
      rw [BitVec.getLsbD_xor, BitVec.getLsbD_ushiftRight, BitVec.getLsbD_of_ge _ _ (by decide)]; rfl
    simp only [h', Bool.false_eq_true, if_false, h1]
    apply BitVec.eq_of_getLsbD_eq
    intro i hi
    rw [BitVec.getLsbD_shiftLeft, BitVec.getLsbD_xor, BitVec.getLsbD_ushiftRight]
    rcases i with _ | i
    · rw [h']; rfl
    · simp [hi, Nat.add_comm]
theorem step1_inj {a b : W} (h : step1 a = step1 b) : a = b := by rw [← back_step a, h, back_step]
theorem steps_inj (n : Nat) {a b : W} (h : steps n a = steps n b) : a = b := by
  induction n generalizing a b with
  | zero => exact h
  | succ n ih => exact step1_inj (ih h)
theorem step_back (y : W) : step1 (back1 y) = y := by
  have hp : poly.getLsbD 31 = true := by decide
  unfold back1
  by_cases h : y.getLsbD 31
  · simp only [h, if_true]
    unfold step1
    have h0 : ((y ^^^ poly) <<< 1 ||| 1#32).getLsbD 0 = true := by
      rw [BitVec.getLsbD_or]; simp
    rw [h0, if_pos rfl]
    apply BitVec.eq_of_getLsbD_eq
    intro i hi
    rw [BitVec.getLsbD_xor, BitVec.getLsbD_ushiftRight, BitVec.getLsbD_or, BitVec.getLsbD_shiftLeft]
    have h1 : (1#32).getLsbD (1 + i) = false := by
      have key : ∀ k : Fin 32, (1#32).getLsbD (1 + k.val) = false := by decide
      exact key ⟨i, hi⟩
    rw [h1]
    by_cases hi' : i = 31
    · subst hi'; rw [h, hp]; rfl
    · have : 1 + i < 32 := by omega
      simp [this, BitVec.getLsbD_xor]
  · have h' : y.getLsbD 31 = false := by simpa using h
    simp only [h', Bool.false_eq_true, if_false]
    rw [step1_even _ (by simp)]
    apply BitVec.eq_of_getLsbD_eq
    intro i hi
    rw [BitVec.getLsbD_ushiftRight, BitVec.getLsbD_shiftLeft]
    by_cases hi' : i = 31
    · subst hi'; rw [h']; rfl
    · have : 1 + i < 32 := by omega
      simp [this]
def backs : Nat → W → W
  | 0, y => y
  | n + 1, y => back1 (backs n y)
theorem steps_backs (n : Nat) (y : W) : steps n (backs n y) = y := by
  induction n generalizing y with
  | zero => rfl
  | succ n ih => simp only [steps, backs, step_back, ih]
theorem byteStep_inj {x y : W} {c : UInt8} (h : byteStep x c = byteStep y c) : x = y := by
  have := steps_inj 8 h
  have e : (x ^^^ bw c) ^^^ bw c = (y ^^^ bw c) ^^^ bw c := by rw [this]
  rwa [BitVec.xor_assoc, BitVec.xor_assoc, BitVec.xor_self, BitVec.xor_zero, BitVec.xor_zero] at e
theorem reg_inj {x y : W} (bs : List UInt8) (h : reg x bs = reg y bs) : x = y := by
  induction bs generalizing x y with
  | nil => exact h
  | cons c t ih => exact byteStep_inj (ih h)

/-- Four bytes as a word, the lowest first. -/
def le4 (a b c d : UInt8) : W := bw a ^^^ bw b <<< 8 ^^^ bw c <<< 16 ^^^ bw d <<< 24
theorem steps_shl (n : Nat) (c : UInt8) (h : n ≤ 24) : steps n (bw c <<< n) = bw c := by
  rw [steps_low]
  · apply BitVec.eq_of_getLsbD_eq
    intro i hi
    rw [BitVec.getLsbD_ushiftRight, BitVec.getLsbD_shiftLeft]
    by_cases h8 : i < 8
    · simp; omega
    · rw [bw_high c i (by omega)]; simp; intro _; exact bw_high c i (by omega)
  · intro i hi
    rw [BitVec.getLsbD_shiftLeft]; simp [hi]
theorem reg4 (x : W) (a b c d : UInt8) : reg x [a, b, c, d] = steps 32 (x ^^^ le4 a b c d) := by
  have e1 : ∀ (y : W) (k : Nat) (hk : k ≤ 24) (c : UInt8), steps k y ^^^ bw c = steps k (y ^^^ bw c <<< k) := fun y k hk c => by
    rw [steps_xor, steps_shl k c hk]
  show byteStep (byteStep (byteStep (byteStep x a) b) c) d = _
  unfold byteStep
  have e8 : ∀ (y : W) (c : UInt8), steps 8 (steps 8 y ^^^ bw c) = steps 16 (y ^^^ bw c <<< 8) := fun y c => by
    rw [e1 _ 8 (by decide), ← steps_add]
  have e16 : ∀ (y : W) (c : UInt8), steps 8 (steps 16 y ^^^ bw c) = steps 24 (y ^^^ bw c <<< 16) := fun y c => by
    rw [e1 _ 16 (by decide), ← steps_add]
  have e24 : ∀ (y : W) (c : UInt8), steps 8 (steps 24 y ^^^ bw c) = steps 32 (y ^^^ bw c <<< 24) := fun y c => by
    rw [e1 _ 24 (by decide), ← steps_add]
  rw [e8 (x ^^^ bw a) b, e16, e24]
  unfold le4
  simp only [BitVec.xor_assoc]
theorem le4_byte (a b c d : UInt8) (i : Nat) (hi : i < 8) : (le4 a b c d).getLsbD i = (bw a).getLsbD i ∧ (le4 a b c d).getLsbD (8 + i) = (bw b).getLsbD i ∧ (le4 a b c d).getLsbD (16 + i) = (bw c).getLsbD i ∧ (le4 a b c d).getLsbD (24 + i) = (bw d).getLsbD i := by
  unfold le4
  simp only [BitVec.getLsbD_xor, BitVec.getLsbD_shiftLeft]
  refine ⟨?_, ?_, ?_, ?_⟩
  · simp [show i < 16 by omega, show i < 24 by omega, hi]
  · rw [bw_high a (8 + i) (by omega)]
    simp [show 8 + i < 32 by omega, show 8 + i < 16 by omega, show 8 + i < 24 by omega]
  · rw [bw_high a (16 + i) (by omega), bw_high b (16 + i - 8) (by omega)]
    simp [show 16 + i < 32 by omega, show 16 + i < 24 by omega]
  · rw [bw_high a (24 + i) (by omega), bw_high b (24 + i - 8) (by omega), bw_high c (24 + i - 16) (by omega)]
    simp [show 24 + i < 32 by omega]
theorem bw_ext {a b : UInt8} (h : ∀ i, i < 8 → (bw a).getLsbD i = (bw b).getLsbD i) : a = b := by
  have : bw a = bw b := by
    apply BitVec.eq_of_getLsbD_eq
    intro i _
    by_cases h8 : i < 8
    · exact h i h8
    · rw [bw_high a i (by omega), bw_high b i (by omega)]
  apply bi_inj
  rw [iv_byte, iv_byte, this]
theorem le4_inj {a b c d a' b' c' d' : UInt8} (h : le4 a b c d = le4 a' b' c' d') : a = a' ∧ b = b' ∧ c = c' ∧ d = d' := by
  refine ⟨bw_ext fun i hi => ?_, bw_ext fun i hi => ?_, bw_ext fun i hi => ?_, bw_ext fun i hi => ?_⟩ <;>
    have h1 := le4_byte a b c d i hi <;> have h2 := le4_byte a' b' c' d' i hi <;> rw [h] at h1
  · exact h1.1.symm.trans h2.1
  · exact h1.2.1.symm.trans h2.2.1
  · exact h1.2.2.1.symm.trans h2.2.2.1
  · exact h1.2.2.2.symm.trans h2.2.2.2
/-- A byte of a word. -/
def byteOf (x : W) (k : Nat) : UInt8 := UInt8.ofNat (x >>> k).toNat
theorem bw_byteOf (x : W) (k i : Nat) (hi : i < 8) : (bw (byteOf x k)).getLsbD i = x.getLsbD (k + i) := by
  unfold bw byteOf
  rw [BitVec.getLsbD_ofNat, UInt8.toNat_ofNat', ← BitVec.getLsbD_ushiftRight]
  rw [show (2 : Nat) ^ 8 = 2 ^ 8 from rfl, Nat.testBit_mod_two_pow]
  simp [hi, show i < 32 by omega, BitVec.getLsbD, BitVec.toNat_ushiftRight]
theorem le4_bytes (x : W) : le4 (byteOf x 0) (byteOf x 8) (byteOf x 16) (byteOf x 24) = x := by
  apply BitVec.eq_of_getLsbD_eq
  intro i hi
  by_cases h1 : i < 8
  · rw [(le4_byte _ _ _ _ i h1).1, bw_byteOf _ _ _ h1, Nat.zero_add]
  by_cases h2 : i < 16
  · obtain ⟨j, rfl⟩ : ∃ j, i = 8 + j := ⟨i - 8, by omega⟩
    rw [(le4_byte _ _ _ _ j (by omega)).2.1, bw_byteOf _ _ _ (by omega)]
  by_cases h3 : i < 24
  · obtain ⟨j, rfl⟩ : ∃ j, i = 16 + j := ⟨i - 16, by omega⟩
    rw [(le4_byte _ _ _ _ j (by omega)).2.2.1, bw_byteOf _ _ _ (by omega)]
  · obtain ⟨j, rfl⟩ : ∃ j, i = 24 + j := ⟨i - 24, by omega⟩
    rw [(le4_byte _ _ _ _ j (by omega)).2.2.2, bw_byteOf _ _ _ (by omega)]
/-- The four bytes that bring a sum to another one. -/
def tailW (s t : W) : W := ~~~s ^^^ backs 32 (~~~t)
def tailL (s t : W) : List UInt8 := [byteOf (tailW s t) 0, byteOf (tailW s t) 8, byteOf (tailW s t) 16, byteOf (tailW s t) 24]
theorem on_tail (s t : W) : on s (tailL s t) = t := by
  unfold on tailL
  rw [reg4, le4_bytes]
  unfold tailW
  rw [← BitVec.xor_assoc, BitVec.xor_self, BitVec.zero_xor, steps_backs, BitVec.not_not]
theorem on_four (s : W) (a b c d a' b' c' d' : UInt8) : on s [a, b, c, d] = on s [a', b', c', d'] ↔ a = a' ∧ b = b' ∧ c = c' ∧ d = d' := by
  constructor
  · intro h
    unfold on at h
    have h' := congrArg (fun z => ~~~z) h
    simp only [BitVec.not_not, reg4] at h'
    have h2 := steps_inj 32 h'
    apply le4_inj
    have e := congrArg (fun z => ~~~s ^^^ z) h2
    simpa only [← BitVec.xor_assoc, BitVec.xor_self, BitVec.zero_xor] using e
  · rintro ⟨rfl, rfl, rfl, rfl⟩; rfl
theorem on_inj {s t : W} (bs : List UInt8) (h : on s bs = on t bs) : s = t := by
  unfold on at h
  have h' := congrArg (fun z => ~~~z) h
  simp only [BitVec.not_not] at h'
  have := reg_inj bs h'
  have e := congrArg (fun z => ~~~z) this
  simpa using e

/-- Products of registers, and what zeros multiply by. -/
def prodTo : Nat → W → W → W → W
  | 0, s, _, _ => s
  | n + 1, s, a, b => if a = 0#32 then s else prodTo n (if a.getLsbD 31 then s ^^^ b else s) (a <<< 1) (step1 b)
def prod (a b : W) : W := prodTo 33 0#32 a b
def tz : Nat → W → Nat
  | 0, _ => 0
  | n + 1, x => if x = 0#32 then 0 else 1 + tz n (x <<< 1)
theorem shl_add (x : W) (a b : Nat) : x <<< a <<< b = x <<< (a + b) := by rw [BitVec.shiftLeft_add]
theorem tz_more (n : Nat) (x : W) (h : x <<< n = 0#32) : tz (n + 1) x = tz n x := by
  induction n generalizing x with
  | zero =>
    have : x = 0#32 := by simpa using h
    simp [tz, this]
  | succ n ih =>
    by_cases hx : x = 0#32
    · simp [tz, hx]
    · have e : ∀ m, tz (m + 1) x = 1 + tz m (x <<< 1) := fun m => by rw [tz, if_neg hx]
      rw [e, e, ih _ (by rw [shl_add, Nat.add_comm]; exact h)]
theorem prodTo_more (n : Nat) (s x b : W) (h : x <<< n = 0#32) : prodTo (n + 1) s x b = prodTo n s x b := by
  induction n generalizing s x b with
  | zero =>
    have : x = 0#32 := by simpa using h
    simp [prodTo, this]
  | succ n ih =>
    by_cases hx : x = 0#32
    · simp [prodTo, hx]
    · have e : ∀ m, prodTo (m + 1) s x b = prodTo m (if x.getLsbD 31 then s ^^^ b else s) (x <<< 1) (step1 b) := fun m => by rw [prodTo, if_neg hx]
      rw [e, e, ih _ _ _ (by rw [shl_add, Nat.add_comm]; exact h)]
theorem shl32 (x : W) (n : Nat) (h : 32 ≤ n) : x <<< n = 0#32 := by
  apply BitVec.eq_of_getLsbD_eq
  intro i hi
  rw [BitVec.getLsbD_shiftLeft]; simp; omega
theorem tz_step (x : W) (h : x ≠ 0#32) : tz 33 (x <<< 1) < tz 33 x := by
  have e : tz 33 x = 1 + tz 32 (x <<< 1) := by rw [tz, if_neg h]
  rw [e, tz_more 32 _ (shl32 _ _ (by omega))]; omega
theorem prodTo_step (s x b : W) (h : x ≠ 0#32) : prodTo 33 s x b = prodTo 33 (if x.getLsbD 31 then s ^^^ b else s) (x <<< 1) (step1 b) := by
  have e : prodTo 33 s x b = prodTo 32 (if x.getLsbD 31 then s ^^^ b else s) (x <<< 1) (step1 b) := by rw [prodTo, if_neg h]
  rw [e, prodTo_more 32 _ _ _ (shl32 _ _ (by omega))]
theorem prodTo_zero (s b : W) : prodTo 33 s 0#32 b = s := by rw [prodTo, if_pos rfl]
def zbTo : Nat → Nat → W → W → W
  | 0, _, f, _ => f
  | k + 1, n, f, p => if n = 0 then f else zbTo k (n / 2) (if n % 2 = 1 then prod f p else f) (prod p p)
theorem zbTo_more (k n : Nat) (f p : W) (h : n ≤ k) : zbTo (k + 1) n f p = zbTo k n f p := by
  induction k generalizing n f p with
  | zero => obtain rfl : n = 0 := by omega
            rfl
  | succ k ih =>
    by_cases hn : n = 0
    · simp [zbTo, hn]
    · have e : ∀ m, zbTo (m + 1) n f p = zbTo m (n / 2) (if n % 2 = 1 then prod f p else f) (prod p p) := fun m => by rw [zbTo, if_neg hn]
      rw [e, e, ih _ _ _ (by omega)]
def zb (n : Nat) (f p : W) : W := zbTo n n f p
theorem zbTo_eq (k n : Nat) (f p : W) (h : n ≤ k) : zbTo k n f p = zb n f p := by
  induction k with
  | zero => obtain rfl : n = 0 := by omega
            rfl
  | succ k ih =>
    by_cases hn : n = k + 1
    · subst hn; rfl
    · rw [zbTo_more _ _ _ _ (by omega), ih (by omega)]
theorem zb_zero (f p : W) : zb 0 f p = f := rfl
theorem zb_step (n : Nat) (f p : W) (h : 0 < n) : zb n f p = zb (n / 2) (if n % 2 = 1 then prod f p else f) (prod p p) := by
  obtain ⟨m, rfl⟩ : ∃ m, n = m + 1 := ⟨n - 1, by omega⟩
  rw [zb, zbTo, if_neg (by omega), zbTo_eq _ _ _ _ (by omega)]
def zerosL (s : W) (n : Nat) : W := ~~~(prod (~~~s) (zb n 0x80000000#32 0x00800000#32))
theorem ex0 : crcL [] = 0#32 := by decide +kernel
theorem ex1 : crcL [97] = 0xe8b7be43#32 := by decide +kernel
theorem ex2 : crcL [49, 50, 51, 52, 53, 54, 55, 56, 57] = 0xcbf43926#32 := by decide +kernel
theorem ex3 : zerosL 0#32 4 = 0x2144df1c#32 := by decide +kernel
/-- The cells of words, and of bytes. -/
def wcells (l : List W) : Array Value := (l.map fun x => Value.int .u32 (iv x)).toArray
def bcells (l : List UInt8) : Array Value := (l.map fun x => Value.int .u8 (bi x)).toArray
theorem wcells_size (l : List W) : (wcells l).size = l.length := by simp [wcells]
theorem bcells_size (l : List UInt8) : (bcells l).size = l.length := by simp [bcells]
theorem wcells_at (l : List W) (i : Nat) (h : i < l.length) : (wcells l)[i]? = some (.int .u32 (iv (l.getD i 0#32))) := by
  simp [wcells, h]
theorem bcells_at (l : List UInt8) (i : Nat) (h : i < l.length) : (bcells l)[i]? = some (.int .u8 (bi (l.getD i 0))) := by
  simp [bcells, h]
theorem bcells_set (l : List UInt8) (i : Nat) (x : UInt8) : (bcells l).setIfInBounds i (.int .u8 (bi x)) = bcells (l.set i x) := by
  simp [bcells, List.map_set]
theorem bcells_one (l : List UInt8) : (bcells l).all (·.oneCell') = true := by
  simp [bcells, Value.oneCell']
end Crc
