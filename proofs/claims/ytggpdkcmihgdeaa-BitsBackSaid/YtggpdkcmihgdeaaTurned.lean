/-
  The law BitsTurned walked.
-/
import Derived.Test.YtggpdkcmihgdeaaUse
namespace Go.Proofs.Ytggpdkcmihgdeaa
open Go.RowKit Bt

theorem mask_go (n k : Nat) (hn : n < 18446744073709551616) (hk : k ≤ 57) : bits .and .u64 (n : Int) (IntKind.u64.wrap (IntKind.u64.wrap (2 ^ k) - 1)) = ((n % 2 ^ k : Nat) : Int) := by
  have h1 : 2 ^ k ≤ 2 ^ 57 := Nat.pow_le_pow_right (by decide) hk
  have h57 : (2 : Nat) ^ 57 = 144115188075855872 := by decide
  have h0 := Nat.two_pow_pos k
  have e : ((2 : Int) ^ k) = ((2 ^ k : Nat) : Int) := by norm_cast
  have e2 : IntKind.u64.wrap (IntKind.u64.wrap (2 ^ k) - 1) = ((2 ^ k - 1 : Nat) : Int) := by
    rw [e, IntKind.wrap_u64, IntKind.wrap_u64]
    generalize 2 ^ k = z at *
    omega
  rw [e2, u64_and_nat _ _ hn (by omega), Nat.and_two_pow_sub_one_eq_mod]
theorem bit_go (n k : Nat) (hn : n < 18446744073709551616) : bits .and .u64 ((n : Int) / 2 ^ k) 1 = (((n.testBit k).toNat : Nat) : Int) := by
  have e : (n : Int) / 2 ^ k = ((n / 2 ^ k : Nat) : Int) := by norm_cast
  rw [e, bit_u64 n k hn]
theorem bitsN_bool (b : Bool) : bitsN b.toNat 1 = [b] := by cases b <;> rfl
theorem rev_take (n k i : Nat) (hi : i < k) : (bitsN n k).reverse.take (i + 1) = (bitsN n k).reverse.take i ++ [n.testBit (k - 1 - i)] := by
  rw [List.take_succ_eq_append_getElem (by simpa [bitsN_length] using hi)]
  congr 2
  simp [bitsN]
theorem shr_zero {n k : Nat} (h : n < 2 ^ k) : ((n : Int) / 2 ^ k == 0) = true := by
  have e : (n : Int) / 2 ^ k = ((n / 2 ^ k : Nat) : Int) := by norm_cast
  rw [e, Nat.div_eq_of_lt h]; rfl
set_option maxHeartbeats 400000 in
/-- One bit put. -/
theorem ws_bit {base : Nat} {w : World} {l : List Thing} (hW : Ws base w l) (i g : Nat) (L : List Bool) (b : Bool) (hi : l[i]? = some (.wr g L)) (hlen : L.length + 1 ≤ 1099511627776) :
    Calls Try.prog 10 #[.pointer (some ⟨g, 0, none⟩), .int .u64 ((b.toNat : Nat) : Int), .int .i64 1] w (WsPost (.int .i64 0) base w (l.set i (.wr g (L ++ [b])))) := by
  have := ws_put hW i g L b.toNat 1 hi hlen (by cases b <;> decide) (by decide) (by cases b <;> decide)
  rwa [bitsN_bool] at this
def TurnedRel (w : World) (x k g0 g1 g2 g3 : Nat) (v : Value) (wr : World) : Prop :=
  ∃ i : Nat, i ≤ k ∧ v = .int .i64 i ∧ Ws w.heap.size wr [.wr g0 (bitsN x k), .wr g1 (bitsN x i), .wr g2 (bitsN x k).reverse, .wr g3 ((bitsN x k).reverse.take i)] ∧ Below w.heap.size w wr
set_option maxRecDepth 100000 in
set_option maxHeartbeats 2000000 in
theorem turned_walk (w : World) (n m : Nat) (hn : n < 18446744073709551616) : Calls Try.prog 6 #[.int .u64 (n : Int), .int .u8 (m : Int)] w (BoolPost true w) := by
  have HW0 := Lib.hid (Ws.nil w)
  have hk : m % 58 ≤ 57 := by omega
  have hki : (m : Int) % 58 = ((m % 58 : Nat) : Int) := by omega
  generalize m % 58 = k at *
  have HM := Lib.hid (mask_go n k hn hk)
  have HX : Hid (n % 2 ^ k < 2 ^ k) := Lib.hid (Nat.mod_lt _ (Nat.two_pow_pos k))
  have HX2 : Hid (n % 2 ^ k < 18446744073709551616) := Lib.hid (Nat.lt_of_le_of_lt (Nat.mod_le _ _) hn)
  generalize n % 2 ^ k = x at *
  clear hn
  go_enter Try.func6, Try.ntmps6
  go_wp2_with fail
  rw [HM.out]
  have hr := reverse_walk x (k : Int) w HX2.out
  rw [brt_nat k 64 (by omega)] at hr
  refine hr.mono ?_
  rintro e w' ⟨rfl, rfl⟩
  clear hr HM
  have HB : Hid (rev (rev x k) k = x) := Lib.hid (by rw [rev_rev, Nat.mod_eq_of_lt HX.out])
  have HRL := Lib.hid (rev_lt x k)
  have HR2 : Hid (rev x k < 18446744073709551616) := Lib.hid (Nat.lt_of_lt_of_le (rev_lt x k) (Nat.le_trans (Nat.pow_le_pow_right (by decide) hk) (by decide)))
  generalize rev x k = r at *
  go_wp2_with fail
  refine (ws_newwriter HW0.out).mono ?_
  rintro e w1 ⟨g0, rfl, hW, hb⟩
  have HW1 := Lib.hid hW
  have HB1 := Lib.hid hb
  clear hW hb HW0
  go_wp2_with fail
  refine (ws_newwriter HW1.out).mono ?_
  rintro e w2 ⟨g1, rfl, hW, hb⟩
  have HW2 := Lib.hid hW
  have HB2 := Lib.hid (HB1.out.trans hb)
  clear hW hb HW1 HB1
  go_wp2_with fail
  refine (ws_newwriter HW2.out).mono ?_
  rintro e w3 ⟨g2, rfl, hW, hb⟩
  have HW3 := Lib.hid hW
  have HB3 := Lib.hid (HB2.out.trans hb)
  clear hW hb HW2 HB2
  go_wp2_with fail
  refine (ws_newwriter HW3.out).mono ?_
  rintro e w4 ⟨g3, rfl, hW, hb⟩
  have HW4 : Hid (Ws w.heap.size w4 [.wr g0 [], .wr g1 [], .wr g2 [], .wr g3 []]) := Lib.hid hW
  have HB4 := Lib.hid (HB3.out.trans hb)
  clear hW hb HW3 HB3
  go_wp2_with fail
  refine (ws_put HW4.out 0 g0 [] x k rfl (by simp; omega) HX2.out hk HX.out).mono ?_
  rintro e w5 ⟨rfl, hW, hb⟩
  have HW5 : Hid (Ws w.heap.size w5 [.wr g0 (bitsN x k), .wr g1 [], .wr g2 [], .wr g3 []]) := Lib.hid hW
  have HB5 := Lib.hid (HB4.out.trans hb)
  clear hW hb HW4 HB4
  go_wp2_with fail
  refine (ws_code HW5.out 2 g2 [] x k rfl (by simp; omega) HX2.out hk HX.out).mono ?_
  rintro e w6 ⟨rfl, hW, hb⟩
  have HW6 : Hid (Ws w.heap.size w6 [.wr g0 (bitsN x k), .wr g1 [], .wr g2 (bitsN x k).reverse, .wr g3 []]) := Lib.hid hW
  have HB6 := Lib.hid (HB5.out.trans hb)
  clear hW hb HW5 HB5
  go_wp2_with fail
  go_loopw [11, 40] (fun _ v wr => TurnedRel w x k g0 g1 g2 g3 v wr) (fun _ v _ => k - (intOf v).toNat)
  case atStart => exact ⟨0, by omega, rfl, HW6.out, HB6.out⟩
  case round =>
    clear HW6 HB6
    obtain ⟨i, hi, rfl, hW, hb⟩ := hrel
    have HWr := Lib.hid hW
    have HBr := Lib.hid hb
    clear hW hb
    by_cases hlt : i < k
    · have hii : (i : Int) < (k : Int) := by omega
      have H1 := Lib.hid (bit_go x i HX2.out)
      have H2 := Lib.hid (bit_go x (k - 1 - i) HX2.out)
      have hd : (k : Int) - 1 - (i : Int) = ((k - 1 - i : Nat) : Int) := by omega
      have HT := Lib.hid (rev_take x k i hlt)
      have HN := Lib.hid (bitsN_succ x i)
      have hjj : k - 1 - i ≤ 56 := by omega
      generalize k - 1 - i = j at *
      generalize x.testBit i = b1 at *
      generalize x.testBit j = b2 at *
      clear HX HX2 HB HRL HR2
      go_wp2_with fail
      rw [H1.out]
      refine (ws_bit HWr.out 1 g1 _ b1 rfl (by rw [bitsN_length]; omega)).mono ?_
      rintro e wa ⟨rfl, hW, hb⟩
      have HWa := Lib.hid hW
      have HBa := Lib.hid (HBr.out.trans hb)
      clear hW hb HWr HBr H1
      go_wp2_with fail
      rw [H2.out]
      refine (ws_bit HWa.out 3 g3 _ b2 rfl (by rw [List.length_take, List.length_reverse, bitsN_length]; omega)).mono ?_
      rintro e wb ⟨rfl, hW, hb⟩
      have HWb : Hid (TurnedRel w x k g0 g1 g2 g3 (.int .i64 ((i + 1 : Nat) : Int)) wb) := Lib.hid ⟨i + 1, hlt, rfl, by
        rw [HT.out, HN.out]; exact hW, HBa.out.trans hb⟩
      clear hW hb HWa HBa H2 HT HN hd
      go_wp2_with fail
      exact ⟨by have := HWb.out; simpa using this, by simp [intOf]; omega⟩
    · have hii : (k : Int) ≤ (i : Int) := by omega
      obtain rfl : i = k := by omega
      have HWs : Hid (Ws w.heap.size wr [.wr g0 (bitsN x i), .wr g1 (bitsN x i), .wr g2 (bitsN x i).reverse, .wr g3 (bitsN x i).reverse]) := Lib.hid (by
        have := HWr.out
        rwa [List.take_of_length_le (by rw [List.length_reverse, bitsN_length]; omega)] at this)
      clear HWr
      have hz := shr_zero HRL.out
      have hp1 : (pack (bitsN x i)).length ≤ 8 := by rw [pack_length, bitsN_length]; omega
      have hp2 : (pack (bitsN x i).reverse).length ≤ 8 := by rw [pack_length, List.length_reverse, bitsN_length]; omega
      have hl1 : (bitsN x i).length ≤ 1099511627776 := by rw [bitsN_length]; omega
      have hl2 : (bitsN x i).reverse.length ≤ 1099511627776 := by rw [List.length_reverse, bitsN_length]; omega
      have HL1 := Lib.hid hl1
      have HL2 := Lib.hid hl2
      generalize bitsN x i = A at *
      generalize A.reverse = B at *
      have hr := reverse_walk r (i : Int) wr HR2.out
      rw [brt_nat i 64 (by omega), HB.out] at hr
      have HR := Lib.hid hr
      clear hr hp1 hp2 hl1 hl2 HX HX2 HB HRL HR2
      go_wp2_with fail
      refine HR.out.mono ?_
      rintro e w' ⟨rfl, rfl⟩
      clear HR
      go_wp2_with fail
      refine (ws_done HWs.out 0 g0 _ rfl HL1.out).mono ?_
      rintro e wa ⟨pa, ca, rfl, hW, hb⟩
      have HWa := Lib.hid hW
      have HBa := Lib.hid (HBr.out.trans hb)
      clear hW hb HWs HBr
      go_wp2_with fail
      refine (ws_done HWa.out 1 g1 _ rfl HL1.out).mono ?_
      rintro e wb ⟨pb, cb, rfl, hW, hb⟩
      have HWb := Lib.hid hW
      have HBb := Lib.hid (HBa.out.trans hb)
      clear hW hb HWa HBa
      go_wp2_with fail
      refine (equal_walk _ _ _ (pack A) (pack A) (HWb.out.sl 4 _ _ rfl) (HWb.out.sl 5 _ _ rfl)).mono ?_
      rintro e w' ⟨rfl, rfl⟩
      rw [show (pack A == pack A) = true from beq_self_eq_true _]
      go_wp2_with fail
      refine (ws_done HWb.out 2 g2 _ rfl HL2.out).mono ?_
      rintro e wc ⟨pc, cc, rfl, hW, hb⟩
      have HWc := Lib.hid hW
      have HBc := Lib.hid (HBb.out.trans hb)
      clear hW hb HWb HBb
      go_wp2_with fail
      refine (ws_done HWc.out 3 g3 _ rfl HL2.out).mono ?_
      rintro e wd ⟨pd, cd, rfl, hW, hb⟩
      have HWd := Lib.hid hW
      have HBd := Lib.hid (HBc.out.trans hb)
      clear hW hb HWc HBc
      go_wp2_with fail
      refine (equal_walk _ _ _ (pack B) (pack B) (HWd.out.sl 6 _ _ rfl) (HWd.out.sl 7 _ _ rfl)).mono ?_
      rintro e w' ⟨rfl, rfl⟩
      rw [show (pack B == pack B) = true from beq_self_eq_true _]
      go_wp2_with fail
      refine (wakes_walk wd).mono ?_
      rintro e we ⟨rfl, hb⟩
      have HQ : Hid (BoolPost true w (.returned (.bool true)) we) := Lib.hid ⟨rfl, HBd.out.trans (hb.mono HBd.out.size)⟩
      clear hb HWd HBd
      go_wp2_with fail
      go_ret
      exact HQ.out
end Go.Proofs.Ytggpdkcmihgdeaa
