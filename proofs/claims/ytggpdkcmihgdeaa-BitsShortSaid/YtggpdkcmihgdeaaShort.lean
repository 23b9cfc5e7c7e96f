/-
  The law BitsShort walked.
-/
import Derived.Test.YtggpdkcmihgdeaaUse2
import Derived.Test.YtggpdkcmihgdeaaTurned
namespace Go.Proofs.Ytggpdkcmihgdeaa
open Go.RowKit Bt
def ShortRel (w : World) (B : List UInt8) (g f : Nat) (v : Value) (wr : World) : Prop :=
  ∃ n : Nat, n ≤ f ∧ v = .int .i64 ((f - n : Nat) : Int) ∧ Ws w.heap.size wr [.rd g B n] ∧ Below w.heap.size w wr
def ShortRel2 (w : World) (k : Nat) (v : Value) (wr : World) : Prop := ∃ i : Nat, i ≤ k ∧ v = .int .i64 (i : Int) ∧ Below w.heap.size w wr
set_option maxRecDepth 100000 in
set_option maxHeartbeats 2000000 in
theorem short_walk (w : World) (p : Option Addr) (cap : Nat) (bs : List UInt8) (at0 m : Nat) (hs : SlW w (.slice p bs.length cap) bs) (ha : at0 < 65536) :
    Calls Try.prog 7 #[.slice p bs.length cap, .int .u16 (at0 : Int), .int .u8 (m : Int)] w (BoolPost true w) := by
  have HW0 := Lib.hid (Ws.nil w)
  obtain ⟨l, hl⟩ : ∃ l, l = min bs.length 100 := ⟨_, rfl⟩
  have hmi : min (bs.length : Int) 100 = (l : Int) := by omega
  have hl1 : l ≤ bs.length := by omega
  have hl2 : l ≤ 100 := by omega
  have sl := slice_to p bs.length cap l bs hs hl1
  have HS : Hid (SlW w (.slice p l cap) (bs.take l)) := Lib.hid (hs.take l hl1)
  have HL : Hid ((bs.take l).length = l) := Lib.hid (by simp; omega)
  generalize bs.take l = B at *
  have hk : m % 58 ≤ 57 := by omega
  have hki : (m : Int) % 58 = ((m % 58 : Nat) : Int) := by omega
  generalize m % 58 = k at *
  have hf1 : at0 % (8 * l + 1) ≤ 8 * l := by have := Nat.mod_lt at0 (show 0 < 8 * l + 1 by omega); omega
  have hfi : (at0 : Int) % (8 * (l : Int) + 1) = ((at0 % (8 * l + 1) : Nat) : Int) := by norm_cast
  generalize at0 % (8 * l + 1) = f at *
  clear hs hl hl1
  go_enter Try.func7, Try.ntmps7
  go_wp2_with fail
  refine (ws_newreader HW0.out HS.out (by rw [HL.out]; omega)).mono ?_
  rintro e w1 ⟨g, rfl, hW, hb⟩
  have HW1 := Lib.hid hW
  have HB1 := Lib.hid hb
  clear hW hb HW0 sl hmi
  go_wp2_with fail
  rw [hfi]
  clear hfi
  go_loopw [9, 10] (fun v _ wr => ShortRel w B g f v wr) (fun v _ _ => (intOf v).toNat)
  case atStart => exact ⟨0, by omega, by simp, HW1.out, HB1.out⟩
  case round =>
    clear HW1 HB1
    obtain ⟨n, hn, rfl, hW, hb⟩ := hrel
    have HWr := Lib.hid hW
    have HBr := Lib.hid hb
    clear hW hb
    by_cases hlt : n < f
    · obtain ⟨d, hd⟩ : ∃ d, d = min (f - n) 57 := ⟨_, rfl⟩
      have hdi : min ((f - n : Nat) : Int) 57 = (d : Int) := by omega
      have hd1 : n + d ≤ f := by omega
      have hd2 : d ≤ 57 := by omega
      have hd3 : 0 < d := by omega
      have hpos : (0 : Int) < ((f - n : Nat) : Int) := by omega
      have HE : Hid (((f - n : Nat) : Int) - (d : Int) = ((f - (n + d) : Nat) : Int)) := Lib.hid (by omega)
      have HM : Hid (f - (n + d) < f - n) := Lib.hid (by omega)
      have hx1 : f - n ≤ 800 := by omega
      have HSK := Lib.hid (ws_skip HWr.out 0 g n d B rfl (by rw [HL.out]; omega) (by rw [HL.out]; omega) hd2)
      generalize hfn : f - n = x at *
      clear hfn hd
      go_wp2_with fail
      refine HSK.out.mono ?_
      rintro e w2 ⟨rfl, hW, hb⟩
      have HR : Hid (ShortRel w B g f (.int .i64 ((x : Int) - (d : Int))) w2) := Lib.hid ⟨n + d, hd1, by rw [HE.out], hW, HBr.out.trans hb⟩
      clear hW hb HSK HBr HWr
      go_wp2_with fail
      exact ⟨HR.out, by have := HM.out; simp [intOf]; omega⟩
    · obtain rfl : n = f := by omega
      have hz : n - n = 0 := by omega
      rw [hz]
      clear hz hn hlt
      by_cases hsh : 8 * l < n + k
      · have h1 : (8 : Int) * (l : Int) - (n : Int) < (k : Int) := by omega
        have hre : rerr B n (k : Int) = 4 := by unfold rerr; rw [HL.out, if_neg (by omega), if_pos (by omega)]
        have HG := Lib.hid (ws_get_no HWr.out 0 g n (k : Int) B rfl (by rw [HL.out]; omega) (by rw [HL.out]; omega) (by rw [hre]; decide))
        rw [hre] at HG
        have HRE := Lib.hid hre
        clear hre hsh
        go_wp2_with fail
        refine HG.out.mono ?_
        rintro e w2 ⟨rfl, hW, hb⟩
        have HW2 := Lib.hid hW
        have HB2 := Lib.hid (HBr.out.trans hb)
        clear hW hb HG HWr HBr
        go_wp2_with fail
        refine (ws_at HW2.out 0 g n B rfl).mono ?_
        rintro e w' ⟨rfl, rfl⟩
        go_wp2_with fail
        have hs := ws_skip_no HW2.out 0 g n (k : Int) B rfl (by rw [HL.out]; omega) (by rw [HL.out]; omega) (by rw [HRE.out]; decide)
        rw [HRE.out] at hs
        refine hs.mono ?_
        rintro e w3 ⟨rfl, hW, hb⟩
        have HW3 := Lib.hid hW
        have HB3 := Lib.hid (HB2.out.trans hb)
        clear hW hb hs HW2 HB2
        go_wp2_with fail
        refine (ws_left HW3.out 0 g n B rfl (by rw [HL.out]; omega) (by rw [HL.out]; omega)).mono ?_
        rintro e w4 ⟨rfl, hW, hb⟩
        rw [show ((8 * B.length - n : Nat) : Int) = 8 * (l : Int) - (n : Int) by rw [HL.out]; omega]
        have HB4 := Lib.hid (HB3.out.trans hb)
        clear hW hb HW3 HB3
        go_wp2_with fail
        refine (wakes_walk w4).mono ?_
        rintro e we ⟨rfl, hb⟩
        have HQ : Hid (BoolPost true w (.returned (.bool true)) we) := Lib.hid ⟨rfl, HB4.out.trans (hb.mono HB4.out.size)⟩
        clear hb HB4
        go_wp2_with fail
        go_ret
        exact HQ.out
      · have h1 : (k : Int) ≤ (8 : Int) * (l : Int) - (n : Int) := by omega
        have HG := Lib.hid (ws_get HWr.out 0 g n k B rfl (by rw [HL.out]; omega) (by rw [HL.out]; omega) hk)
        have HX := Lib.hid (num_lt (seg B n k))
        have HXB : Hid (∀ i, i < k → (num (seg B n k)).testBit i = bitAt B (n + i)) := Lib.hid fun i hi => by rw [num_testBit, seg_getD _ _ _ _ hi]; rfl
        have HNK : Hid (n + k ≤ 8 * l) := Lib.hid (by omega)
        have HXL : Hid ((seg B n k).length = k) := Lib.hid (seg_length _ _ _)
        generalize seg B n k = sg at *
        generalize num sg = x at *
        clear hsh
        go_wp2_with fail
        refine HG.out.mono ?_
        rintro e w2 ⟨rfl, hW, hb⟩
        have HW2 := Lib.hid hW
        have HB2 := Lib.hid (HBr.out.trans hb)
        clear hW hb HG HWr HBr
        go_wp2_with fail
        refine (ws_at HW2.out 0 g (n + k) B rfl).mono ?_
        rintro e w' ⟨rfl, rfl⟩
        go_wp2_with fail
        clear HW2
        go_loopw [15, 114] (fun _ v wr => ShortRel2 w k v wr) (fun _ v _ => k - (intOf v).toNat)
        case atStart => exact ⟨0, by omega, rfl, HB2.out⟩
        case round =>
          clear HB2
          obtain ⟨i, hi, rfl, hb⟩ := hrel
          by_cases hik : i < k
          · have hii : (i : Int) < (k : Int) := by omega
            obtain ⟨gb, o, rfl, hB⟩ := HS.out.some (by have := HNK.out; omega)
            have hq : (n + i) / 8 < l := by have := HNK.out; omega
            have hqi : ((n : Int) + (i : Int)) / 8 < (l : Int) := by omega
            have hc0 := hB ((n + i) / 8) (by rw [HL.out]; exact hq)
            have hc : wr.cell? ⟨gb, o + (n + i) / 8, none⟩ = some (.int .u8 (bi (B.getD ((n + i) / 8) 0))) := by
              rw [hb.cell (p := ⟨gb, o + (n + i) / 8, none⟩) (block_lt_of_cell hc0)]; exact hc0
            have e1 := bit_go x i (by have h57 : 2 ^ k ≤ 2 ^ 57 := Nat.pow_le_pow_right (by decide) hk
                                      have := HX.out; rw [HXL.out] at this
                                      have : (2 : Nat) ^ 57 = 144115188075855872 := by decide
                                      omega)
            rw [HXB.out i hik] at e1
            have e2 := byte_bit (B.getD ((n + i) / 8) 0) ((n + i) % 8)
            have e3 : (B.getD ((n + i) / 8) 0).toNat.testBit ((n + i) % 8) = bitAt B (n + i) := rfl
            rw [e3] at e2
            have e4 := wrap_bit (bitAt B (n + i))
            have HBr := Lib.hid hb
            clear hb hc0 hB e3
            generalize B.getD ((n + i) / 8) 0 = y at *
            generalize bitAt B (n + i) = b at *
            have hx1 : (n : Int) + (i : Int) ≤ 800 := by have := HNK.out; omega
            go_wp2_with fail
            go_quiet (fail)
            go_wp2_with fail
            exact ⟨⟨i + 1, by omega, by go_num, HBr.out.trans (Same.below ⟨nq, rfl⟩ _)⟩, by simp [intOf]; omega⟩
          · have hii : (k : Int) ≤ (i : Int) := by omega
            have hz : ((x : Int) / 2 ^ k == 0) = true := shr_zero (by have := HX.out; rwa [HXL.out] at this)
            have HBr := Lib.hid hb
            clear hb
            go_wp2_with fail
            refine (wakes_walk wr).mono ?_
            rintro e we ⟨rfl, hb⟩
            have HQ : Hid (BoolPost true w (.returned (.bool true)) we) := Lib.hid ⟨rfl, HBr.out.trans (hb.mono HBr.out.size)⟩
            clear hb HBr
            go_wp2_with fail
            go_ret
            exact HQ.out
end Go.Proofs.Ytggpdkcmihgdeaa
