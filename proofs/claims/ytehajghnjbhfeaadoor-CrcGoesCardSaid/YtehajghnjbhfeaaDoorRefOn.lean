/-
  The contracts of the document's own Step and On, and of (*crc.Run).Reset.
-/
import Derived.Test.YtehajghnjbhfeaaDoorOwn
namespace Go.Proofs.YtehajghnjbhfeaaDoor
open Go.RowKit Crc Inv

theorem rem2 (x : W) : iv x % (2 : Int) = if x.getLsbD 0 then 1 else 0 := by
  have h := lowbit x
  rw [show (1 : Int) = iv 1#32 from rfl, u32_and_iv] at h
  have e : iv (x &&& 1#32) = iv x % 2 := by
    unfold iv
    rw [BitVec.toNat_and, show (1#32).toNat = 1 from rfl, Nat.and_one_is_mod]
    omega
  rw [← e, h]
  split <;> rfl
set_option maxRecDepth 100000 in
set_option maxHeartbeats 400000 in
theorem rstep_walk (x : W) (c : UInt8) (w : World) :
    Calls Tryd.prog 16 #[.int .u32 (iv x), .int .u8 (bi c)] w fun e w' => e = .returned (.int .u32 (iv (byteStep x c))) ∧ w = w' := by
  have hx : bits .xor .u32 (iv x) (bi c) = iv (x ^^^ bw c) := by rw [iv_byte, u32_xor_iv]
  have HB : Hid (byteStep x c = steps 8 (x ^^^ bw c)) := Lib.hid rfl
  generalize x ^^^ bw c = y at *
  have b0 := bi_nonneg c
  have b1 := bi_lt c
  go_enter Tryd.func16, Tryd.ntmps16
  go_wp2
  go_loop [0, 5, 6] (fun r i _ => ∃ k : Nat, k ≤ 8 ∧ i = .int .i64 k ∧ r = .int .u32 (iv (steps k y))) (fun _ i _ => 8 - (intOf i).toNat)
  case atStart => exact ⟨0, by omega, rfl, rfl⟩
  case round =>
    obtain ⟨k, hk, rfl, rfl⟩ := hrel
    clear hx b0 b1
    by_cases hlt : k < 8
    · have HE : Hid (steps (k + 1) y = step1 (steps k y)) := Lib.hid (steps_succ k y)
      generalize steps k y = r at *
      have hki : (k : Int) < 8 := by omega
      have hr := rem2 r
      have hq := shr1 r
      have i0 := iv_nonneg r
      have i1 := iv_lt r
      cases hb : r.getLsbD 0 with
      | true =>
        rw [hb] at hr
        have HS := Lib.hid (step1_pos r hb)
        have hp := xpoly (r >>> (1 : Nat))
        clear hb
        simp only [if_true] at hr
        go_wp2
        exact ⟨⟨k + 1, by omega, by go_num, by rw [HE.out, HS.out]⟩, by simp [intOf]; omega⟩
      | false =>
        rw [hb] at hr
        have HS := Lib.hid (step1_even r hb)
        clear hb
        simp only [Bool.false_eq_true, if_false] at hr
        go_wp2
        exact ⟨⟨k + 1, by omega, by go_num, by rw [HE.out, HS.out, ← hq]⟩, by simp [intOf]; omega⟩
    · have hki : (8 : Int) ≤ (k : Int) := by omega
      obtain rfl : k = 8 := by omega
      generalize hS : steps 8 y = r at *
      go_wp2
      go_ret
      exact ⟨ret_int (by rw [HB.out]), rfl⟩
theorem not_iv' (x : W) : (4294967295 : Int) - iv x = iv (~~~x) := not_iv x
set_option maxRecDepth 100000 in
set_option maxHeartbeats 400000 in
theorem on_walk (w : World) (s : W) (v : Value) (bs : List UInt8) (hv : SlW w v bs) (hlen : bs.length ≤ 1099511627776) :
    Calls Tryd.prog 9 #[.int .u32 (iv s), v] w fun e w' => e = .returned (.int .u32 (iv (on s bs))) ∧ w = w' := by
  have hn := not_iv' s
  have i0 := iv_nonneg s
  have i1 := iv_lt s
  have i2 := iv_nonneg (~~~s)
  have i3 := iv_lt (~~~s)
  obtain ⟨p, cap, rfl⟩ := hv.shape
  have HV := Lib.hid hv
  clear hv
  generalize hL : bs.length = L at *
  have HL := Lib.hid hL
  clear hL
  go_enter Tryd.func9, Tryd.ntmps9
  go_wp2
  go_loop [5, 6] (fun r i => ∃ k : Nat, k ≤ L ∧ i = .int .i64 k ∧ r = .int .u32 (iv (reg (~~~s) (bs.take k)))) (fun _ i => L - (intOf i).toNat)
  case atStart => exact ⟨0, Nat.zero_le _, rfl, rfl⟩
  case round =>
    obtain ⟨k, hk, rfl, rfl⟩ := hrel
    clear hn i0 i1 i2 i3
    by_cases hlt : k < L
    · obtain ⟨g, o, rfl, hB⟩ := HV.out.some (by omega)
      have hcell := hB k (by rw [HL.out]; exact hlt)
      have HR : Hid (reg (~~~s) (bs.take (k + 1)) = byteStep (reg (~~~s) (bs.take k)) (bs.getD k 0)) := Lib.hid (reg_take_succ _ _ _ (by rw [HL.out]; exact hlt))
      generalize reg (~~~s) (bs.take k) = r at *
      generalize bs.getD k 0 = c at *
      have hki : (k : Int) < (L : Int) := by omega
      clear hB HV
      go_wp2_with (go_at_call 16; refine (rstep_walk _ _ _).mono ?_; rintro e w' ⟨rfl, rfl⟩)
      exact ⟨⟨k + 1, by omega, by go_num, by rw [HR.out]⟩, by simp [intOf]; omega⟩
    · have HE : Hid (bs.take k = bs) := Lib.hid (List.take_of_length_le (by have := HL.out; omega))
      have hge : (L : Int) ≤ (k : Int) := by omega
      have hr2 := not_iv' (reg (~~~s) (bs.take k))
      have j0 := iv_nonneg (reg (~~~s) (bs.take k))
      have j1 := iv_lt (reg (~~~s) (bs.take k))
      have HQ : Hid (on s bs = ~~~(reg (~~~s) (bs.take k))) := Lib.hid (by rw [HE.out]; rfl)
      generalize reg (~~~s) (bs.take k) = r at *
      go_wp2
      go_ret
      exact ⟨ret_int (by rw [HQ.out]), rfl⟩
def ResetPost (g T : Nat) (w : World) (e : Ending) (w' : World) : Prop := e = .returned (.tuple #[]) ∧ Only g w w' ∧ RunAt g T w' 0#32 0
set_option maxHeartbeats 400000 in
theorem reset_walk (g T : Nat) (s : W) (n : Nat) (w : World) (h : RunAt g T w s n) : Calls Tryd.prog 7 #[.pointer (some ⟨g, 0, none⟩)] w (ResetPost g T w) := by
  have c0 := h.c0
  have c1 := h.c1
  have f0 := h.free 0
  have f1 := h.free 1
  have HP : Hid (Only g w ((w.setCell ⟨g, 0, none⟩ (.int .u32 (iv 0#32))).setCell ⟨g, 1, none⟩ (.int .i64 ((0 : Nat) : Int)))) := Lib.hid (((Only.refl g w).setCell 0 _).setCell 1 _)
  have HR := Lib.hid ((h.set0 0#32).set1 0)
  clear h
  go_enter Tryd.func7, Tryd.ntmps7
  go_wp2_with fail
  go_end0
  exact ⟨rfl, HP.out, HR.out⟩
end Go.Proofs.YtehajghnjbhfeaaDoor
