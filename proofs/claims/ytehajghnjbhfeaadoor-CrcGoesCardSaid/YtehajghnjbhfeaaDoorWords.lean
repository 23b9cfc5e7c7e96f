/-
  Contracts of the small functions of package crc: step, behind, product, zeroBytes, Zeros.
-/
import Derived.Test.YtehajghnjbhfeaaDoorRows
import Derived.Test.YtehajghnjbhfeaaDoorSpec
import Derived.WalkKit
import Derived.WalkSpells
import Derived.WalkLawsBesides
import Derived.Deep.QuietTactic
import Derived.BigQuiet
import Derived.StillTailTactics
import Derived.Laws.CopyOwn
import Derived.Lib.Hide
import Derived.Outline
import Derived.Lib.RabinKarpLaws
namespace Go.Proofs.YtehajghnjbhfeaaDoor
open Go.RowKit Crc
attribute [go_sem] u32_xor_iv u32_and_iv u32_or_iv u32_not_iv
theorem ret_int {k : IntKind} {a b : Int} (h : a = b) : Ending.returned (.int k a) = .returned (.int k b) := by rw [h]
theorem lowbit (x : W) : bits .and .u32 (iv x) 1 = if x.getLsbD 0 then 1 else 0 := by
  rw [show (1 : Int) = iv 1#32 from rfl, u32_and_iv]
  have : x &&& 1#32 = if x.getLsbD 0 then 1#32 else 0#32 := by
    apply BitVec.eq_of_getLsbD_eq
    intro i hi
    have key : ∀ k : Fin 32, (1#32).getLsbD k.val = decide (k.val = 0) := by decide
    have := key ⟨i, hi⟩
    simp only at this
    rw [BitVec.getLsbD_and, this]
    by_cases h0 : i = 0
    · subst h0; cases x.getLsbD 0 <;> rfl
    · simp only [h0, decide_false, Bool.and_false]
      split
      · rw [this]; simp [h0]
      · simp
  rw [this]
  split <;> rfl
theorem step1_pos (x : W) (h : x.getLsbD 0 = true) : step1 x = x >>> 1 ^^^ poly := by unfold step1; rw [h]; rfl
theorem shr1 (x : W) : iv x / (2 : Int) = iv (x >>> (1 : Nat)) := shr_iv x 1
theorem shr4 (x : W) : iv x / (16 : Int) = iv (x >>> (4 : Nat)) := shr_iv x 4
theorem xpoly (x : W) : bits .xor .u32 (iv x) 3988292384 = iv (x ^^^ poly) := u32_xor_iv x poly
set_option maxHeartbeats 400000 in
theorem step_iv (x : W) (w : World) :
    Calls Tryd.prog 23 #[.int .u32 (iv x)] w fun e w' => e = .returned (.int .u32 (iv (step1 x))) ∧ w = w' := by
  have hl := lowbit x
  have h0 := iv_nonneg x
  have h1 := iv_lt x
  cases hb : x.getLsbD 0 with
  | true =>
    rw [hb] at hl
    have HE := Lib.hid (step1_pos x hb)
    clear hb
    go_enter Tryd.func23, Tryd.ntmps23
    go_wp2
    go_ret
    exact ⟨ret_int (by rw [HE.out, ← xpoly, ← shr1]), rfl⟩
  | false =>
    rw [hb] at hl
    have HE := Lib.hid (step1_even x hb)
    clear hb
    go_enter Tryd.func23, Tryd.ntmps23
    go_wp2
    go_ret
    exact ⟨ret_int (by rw [HE.out, ← shr1]), rfl⟩
/-- The table where the program keeps it. -/
def TAt (w : World) : Prop := ∀ i, i < 16 → w.cell? ⟨0, i, none⟩ = some (.int .u32 (iv (tab.getD i 0#32)))
/-- Bytes that stand in memory from an address on. -/
def BytesAt (w : World) (g o : Nat) (bs : List UInt8) : Prop := ∀ i, i < bs.length → w.cell? ⟨g, o + i, none⟩ = some (.int .u8 (bi (bs.getD i 0)))
/-- A slice value reads as these bytes. -/
def SlW (w : World) (v : Value) (bs : List UInt8) : Prop :=
  (∃ g o cap, v = .slice (some ⟨g, o, none⟩) bs.length cap ∧ bs.length ≤ cap ∧ BytesAt w g o bs) ∨ (∃ p, v = .slice p 0 0 ∧ bs = [])
theorem nib_iv (x : W) : bits .and .u32 (iv x) 15 = ((nib x : Nat) : Int) := u32_and_iv x 15#32
set_option maxRecDepth 100000 in
set_option maxHeartbeats 400000 in
theorem behind_walk (w : World) (x : W) (v : Value) (bs : List UInt8) (hv : SlW w v bs) (hT : TAt w) (hlen : bs.length ≤ 1099511627776) :
    Calls Tryd.prog 15 #[.int .u32 (iv x), v] w fun e w' => e = .returned (.int .u32 (iv (reg x bs))) ∧ w = w' := by
  rcases hv with ⟨g, o, cap, rfl, hc, hB⟩ | ⟨p, rfl, rfl⟩
  · generalize hL : bs.length = L at *
    have HL := Lib.hid hL
    clear hL
    go_enter Tryd.func15, Tryd.ntmps15
    go_wp2
    go_loop [0, 9] (fun r i => ∃ k : Nat, k ≤ L ∧ i = .int .i64 k ∧ r = .int .u32 (iv (reg x (bs.take k)))) (fun _ i => L - (intOf i).toNat)
    case atStart => exact ⟨0, Nat.zero_le _, rfl, rfl⟩
    case round =>
      obtain ⟨k, hk, rfl, rfl⟩ := hrel
      by_cases hlt : k < L
      · have hcell := hB k (by rw [HL.out]; exact hlt)
        have HR : Hid (reg x (bs.take (k + 1)) = byteStep (reg x (bs.take k)) (bs.getD k 0)) := Lib.hid (reg_take_succ _ _ _ (by rw [HL.out]; exact hlt))
        generalize reg x (bs.take k) = r at *
        generalize bs.getD k 0 = c at *
        have hconv : bi c % 4294967296 = iv (bw c) := by rw [← iv_byte]; have := bi_nonneg c; have := bi_lt c; omega
        have hx : bits .xor .u32 (iv r) (iv (bw c)) = iv (r ^^^ bw c) := u32_xor_iv _ _
        have HF1 := four (r ^^^ bw c)
        have HF2 := four (steps 4 (r ^^^ bw c))
        have HB := two4 r c
        generalize hy : r ^^^ bw c = y at *
        have n1 := nib_lt y
        have n2 := nib_lt (steps 4 y)
        have c1 := hT (nib y) n1
        have c2 := hT (nib (steps 4 y)) n2
        have q1 := nib_iv y
        have q2 := nib_iv (steps 4 y)
        have a1 : bits .xor .u32 (iv y / 16) (iv (tab.getD (nib y) 0#32)) = iv (steps 4 y) := by rw [shr4, u32_xor_iv, HF1]
        have a2 : bits .xor .u32 (iv (steps 4 y) / 16) (iv (tab.getD (nib (steps 4 y)) 0#32)) = iv (steps 4 (steps 4 y)) := by rw [shr4, u32_xor_iv, HF2]
        have y0 := iv_nonneg y
        have y1 := iv_lt y
        have z0 := iv_nonneg (steps 4 y)
        have z1 := iv_lt (steps 4 y)
        have HBB := Lib.hid HB
        clear HB HF1 HF2 hy
        generalize steps 4 y = z at *
        generalize hz' : steps 4 z = z2 at *
        generalize nib y = ny at *
        generalize nib z = nz at *
        generalize tab.getD ny 0#32 = ty at *
        generalize tab.getD nz 0#32 = tz at *
        clear hB hT y0 y1 z0 z1
        go_wp2
        go_round
        case rel => exact ⟨k + 1, by omega, by go_num, by rw [HR.out, ← HBB.out]⟩
        case measure => simp [intOf]; omega
      · have HE : Hid (bs.take k = bs) := Lib.hid (List.take_of_length_le (by have := HL.out; omega))
        have hge : (L : Int) ≤ (k : Int) := by omega
        go_wp2
        go_ret
        exact ⟨ret_int (by rw [HE.out]), rfl⟩
  · go_enter Tryd.func15, Tryd.ntmps15
    go_wp2
    go_loop [0, 9] (fun r i => i = .int .i64 0 ∧ r = .int .u32 (iv x)) (fun _ i => 0)
    case atStart => exact ⟨rfl, rfl⟩
    case round =>
      obtain ⟨rfl, rfl⟩ := hrel
      go_wp2
      go_ret
      exact ⟨rfl, rfl⟩
theorem topbit (x : W) : bits .and .u32 (iv x) 2147483648 = if x.getLsbD 31 then 2147483648 else 0 := by
  rw [show (2147483648 : Int) = iv 0x80000000#32 from rfl, u32_and_iv]
  have : x &&& 0x80000000#32 = if x.getLsbD 31 then 0x80000000#32 else 0#32 := by
    apply BitVec.eq_of_getLsbD_eq
    intro i hi
    have key : ∀ k : Fin 32, (0x80000000#32).getLsbD k.val = decide (k.val = 31) := by decide
    have := key ⟨i, hi⟩
    simp only at this
    rw [BitVec.getLsbD_and, this]
    by_cases h0 : i = 31
    · subst h0; cases x.getLsbD 31 <;> rfl
    · simp only [h0, decide_false, Bool.and_false]
      split
      · rw [this]; simp [h0]
      · simp
  rw [this]
  split <;> rfl
theorem shl1 (x : W) : iv x * (2 : Int) % 4294967296 = iv (x <<< (1 : Nat)) := shl_iv x 1
theorem iv_zero {x : W} (h : x ≠ 0#32) : iv x ≠ 0 := fun e => h (iv_inj (b := 0#32) e)
theorem iv_beq (x y : W) (h : x ≠ y) : (iv x == iv y) = false := by
  have : iv x ≠ iv y := fun e => h (iv_inj e)
  simpa using this
def ProdRel (a b : W) (va vb vs : Value) : Prop := ∃ x y s : W, va = .int .u32 (iv x) ∧ vb = .int .u32 (iv y) ∧ vs = .int .u32 (iv s) ∧ prodTo 33 s x y = prod a b
set_option maxRecDepth 100000 in
set_option maxHeartbeats 400000 in
theorem prod_walk (a b : W) (w : World) :
    Calls Tryd.prog 20 #[.int .u32 (iv a), .int .u32 (iv b)] w fun e w' => e = .returned (.int .u32 (iv (prod a b))) ∧ w = w' := by
  go_enter Tryd.func20, Tryd.ntmps20
  go_wp2
  go_loop [0, 1, 5] (fun va vb vs => ProdRel a b va vb vs) (fun va _ _ => tz 33 (wd (intOf va)))
  case atStart => exact ⟨a, b, 0#32, rfl, rfl, rfl, rfl⟩
  case round =>
    obtain ⟨x, y, s, rfl, rfl, rfl, hp⟩ := hrel
    have HP := Lib.hid hp
    clear hp
    by_cases hx : x = 0#32
    · subst hx
      have HZ : Hid (s = prod a b) := Lib.hid (by rw [← HP.out, prodTo_zero])
      have h0 : iv 0#32 = 0 := rfl
      have h0b : (iv 0#32 != 0) = false := rfl
      go_wp2
      go_ret
      exact ⟨ret_int (by rw [HZ.out]), rfl⟩
    · have h0 := iv_zero hx
      have h0b : (iv x != 0) = true := by simpa using h0
      have HT := Lib.hid (tz_step x hx)
      have HS := Lib.hid (prodTo_step s x y hx)
      have hs := shl1 x
      have ht := topbit x
      have hi0 := iv_nonneg x
      have hi1 := iv_lt x
      have HX := Lib.hid hx
      clear hx
      cases hb : x.getLsbD 31 with
      | true =>
        rw [hb] at ht
        have HQ : Hid (prodTo 33 s x y = prodTo 33 (s ^^^ y) (x <<< (1 : Nat)) (step1 y)) := Lib.hid (by rw [HS.out, hb]; rfl)
        have HM : Hid (tz 33 (wd (iv (x <<< (1 : Nat)))) < tz 33 (wd (iv x))) := Lib.hid (by rw [wd_iv, wd_iv]; exact HT.out)
        clear hb HT HS h0
        simp only [if_true] at ht
        go_wp2_with (go_at_call 23; refine (step_iv _ _).mono ?_; rintro e w' ⟨rfl, rfl⟩)
        exact ⟨⟨_, _, _, rfl, rfl, rfl, by rw [← HP.out, HQ.out]⟩, HM.out⟩
      | false =>
        rw [hb] at ht
        have HQ : Hid (prodTo 33 s x y = prodTo 33 s (x <<< (1 : Nat)) (step1 y)) := Lib.hid (by rw [HS.out, hb]; rfl)
        have HM : Hid (tz 33 (wd (iv (x <<< (1 : Nat)))) < tz 33 (wd (iv x))) := Lib.hid (by rw [wd_iv, wd_iv]; exact HT.out)
        clear hb HT HS h0
        simp only [Bool.false_eq_true, if_false] at ht
        go_wp2_with (go_at_call 23; refine (step_iv _ _).mono ?_; rintro e w' ⟨rfl, rfl⟩)
        exact ⟨⟨_, _, _, rfl, rfl, rfl, by rw [← HP.out, HQ.out]⟩, HM.out⟩
def ZbRel (n : Nat) (f p : W) (vn vf vp : Value) : Prop := ∃ (k : Nat) (x y : W), k ≤ n ∧ vn = .int .i64 k ∧ vf = .int .u32 (iv x) ∧ vp = .int .u32 (iv y) ∧ zb k x y = zb n f p
set_option maxRecDepth 100000 in
set_option maxHeartbeats 400000 in
theorem zb_walk (n : Nat) (w : World) (hn : n ≤ 1099511627776) :
    Calls Tryd.prog 21 #[.int .i64 n] w fun e w' => e = .returned (.int .u32 (iv (zb n 0x80000000#32 0x00800000#32))) ∧ w = w' := by
  go_enter Tryd.func21, Tryd.ntmps21
  go_wp2
  go_loop [0, 3, 4] (fun vn vf vp => ZbRel n 0x80000000#32 0x00800000#32 vn vf vp) (fun vn _ _ => (intOf vn).toNat)
  case atStart => exact ⟨n, _, _, Nat.le_refl _, rfl, rfl, rfl, rfl⟩
  case round =>
    obtain ⟨k, x, y, hk, rfl, rfl, rfl, hp⟩ := hrel
    have HP := Lib.hid hp
    clear hp
    by_cases h0 : k = 0
    · subst h0
      have HZ : Hid (x = zb n 0x80000000#32 0x00800000#32) := Lib.hid (by rw [← HP.out, zb_zero])
      go_wp2
      go_ret
      exact ⟨ret_int (by rw [HZ.out]), rfl⟩
    · have hpos : (0 : Int) < (k : Int) := by omega
      have ha := and_one k (by omega)
      have HS := Lib.hid (zb_step k x y (by omega))
      by_cases hodd : k % 2 = 1
      · rw [hodd] at ha
        have HQ : Hid (zb k x y = zb (k / 2) (prod x y) (prod y y)) := Lib.hid (by rw [HS.out, if_pos hodd])
        clear HS hodd h0
        go_wp2_with (go_at_call 20; refine (prod_walk _ _ _).mono ?_; rintro e w' ⟨rfl, rfl⟩)
        exact ⟨⟨k / 2, _, _, by omega, by simp, rfl, rfl, by rw [← HP.out, HQ.out]⟩, by simp [intOf]; omega⟩
      · have hev : k % 2 = 0 := by omega
        rw [hev] at ha
        have HQ : Hid (zb k x y = zb (k / 2) x (prod y y)) := Lib.hid (by rw [HS.out, if_neg hodd])
        clear HS hodd h0 hev
        go_wp2_with (go_at_call 20; refine (prod_walk _ _ _).mono ?_; rintro e w' ⟨rfl, rfl⟩)
        exact ⟨⟨k / 2, _, _, by omega, by simp, rfl, rfl, by rw [← HP.out, HQ.out]⟩, by simp [intOf]; omega⟩
set_option maxHeartbeats 400000 in
theorem zeros_walk (s : W) (n : Nat) (w : World) (hn : n ≤ 1099511627776) :
    Calls Tryd.prog 18 #[.int .u32 (iv s), .int .i64 n] w fun e w' => e = .returned (.int .u32 (iv (zerosL s n))) ∧ w = w' := by
  go_enter Tryd.func18, Tryd.ntmps18
  go_wp2_with fail
  refine (zb_walk n _ hn).mono ?_
  rintro e w' ⟨rfl, rfl⟩
  go_wp2_with fail
  refine (prod_walk _ _ _).mono ?_
  rintro e w' ⟨rfl, rfl⟩
  go_wp2_with fail
  go_ret
  exact ⟨rfl, rfl⟩
end Go.Proofs.YtehajghnjbhfeaaDoor
