/-
  The document's own Parse walked.
-/
import Derived.Test.YtdkajbhhmgmohaaDoorRefParseA
namespace Go.Proofs.YtdkajbhhmgmohaaDoor
open Go.RowKit Sha
theorem dxindex (k : Nat) (hk : k < 16) (w : World) : (Instr.index 9 (.string ⟨digitsA⟩) (.int .i64 (k : Int))).run Tryd.prog w = .ok (.int .u8 (bi (hexd k))) w :=
  sindex digitsA.toList k hk (k : Int) rfl w
set_option maxRecDepth 100000 in
set_option maxHeartbeats 1000000 in
theorem rparse_main (s : List UInt8) (w : World) (hpre : s.take 7 = preL) (hn : s.length = 71) : Calls Tryd.prog 14 #[.string ⟨s.toArray⟩] w (ParsePost s w) := by
  have HNone : Hid (∀ i, i < 64 → ¬ hv (s.getD (7 + i) 0) < 16 → parseL s = none) := Lib.hid (fun i hi hx => parse_none2 s i hi hx)
  have HSome : Hid ((∀ i, i < 64 → hv (s.getD (7 + i) 0) < 16) → parseL s = some (outTo (s.drop 7) 32)) := Lib.hid (fun hx => parse_some s hn hpre hx)
  have HIX := Lib.hid (fun (i : Nat) (hi : i < 71) => sindex s i (by omega))
  have hex : (ByteArray.mk s.toArray).extract 0 7 = ⟨#[115, 104, 97, 50, 53, 54, 58]⟩ := by rw [Go.ByteArray.extract_mk]; simp [hpre, preL]
  have hsl : ∀ wx, (Instr.slice 9 (.string ⟨s.toArray⟩) none (some (.int .i64 7)) none).run Tryd.prog wx = .ok (.string ⟨#[115, 104, 97, 50, 53, 54, 58]⟩) wx := fun wx => by
    rw [run_slice_string_to_if wx 9 _ .i64 7 Tryd.underlying9, if_pos ⟨by omega, by show (7 : Int) ≤ (s.length : Nat); omega⟩]
    rw [show (7 : Int).toNat = 7 from rfl, hex]
  generalize hPL : parseL s = PL at *
  have HPL := Lib.hid hPL
  generalize hS : ByteArray.mk s.toArray = S at *
  have hz : S.size = 71 := by rw [← hS]; exact hn
  clear hS hex hPL hpre hn
  obtain ⟨zl, hzl⟩ : ∃ zl, zl = bcells (List.replicate 32 0) := ⟨_, rfl⟩
  have HZ := Lib.hid hzl
  have HZI : Hid ((Tryd.prog.info? 24).map (·.size) = some zl.size) := Lib.hid (by rw [hzl]; exact HIz24)
  have HZ1 : Hid (zl.all (·.oneCell') = true) := Lib.hid (by rw [hzl]; exact bcells_one _)
  clear hzl
  go_enter Tryd.func14, Tryd.ntmps14
  go_wp2_with fail
  generalize hw1 : (World.alloc (w.alloc _) _) = w1
  have hr1 : RPRel w w1 (refTo (s.drop 7) 0) := by rw [← hw1]; exact ⟨((Below.refl _ _).alloc (Nat.le_refl _) _).alloc (by simp) _, heap_alloc2_old _ _ _, heap_alloc2_new _ _ _⟩
  clear hw1 hsl
  go_loopw [5] (fun v wr => ∃ k : Nat, k ≤ 64 ∧ v = .int .i64 ((k : Int) + 7) ∧ RPRel w wr (refTo (s.drop 7) k) ∧ ∀ i, i < k → hv (s.getD (7 + i) 0) < 16) (fun v _ => 71 - (intOf v).toNat)
  case atStart => exact ⟨0, by omega, rfl, hr1, fun i hi => by omega⟩
  case round =>
    clear hr1
    obtain ⟨k, hk, rfl, hr, hgood⟩ := hrel
    have HG := Lib.hid hgood
    clear hgood
    by_cases hlt : k < 64
    · have hki : (k : Int) + 7 < 71 := by omega
      have x1 := HIX.out (7 + k) (by omega) ((k : Int) + 7) (by omega)
      have HN1 := Lib.hid (HNone.out k (by omega))
      have HST : Hid (hv (s.getD (7 + k) 0) < 16 → refTo (s.drop 7) (k + 1) = (refTo (s.drop 7) k).set (k / 2) (UInt8.ofNat (16 * ((refTo (s.drop 7) k).getD (k / 2) 0).toNat + hv (s.getD (7 + k) 0)))) := Lib.hid (fun _ => by
        have h0 : (s.drop 7).getD k 0 = s.getD (7 + k) 0 := by simp
        rw [← h0]
        refine refTo_step _ _ hlt (fun h1 => ?_)
        have := HG.out (k - 1) (by omega)
        simpa using this)
      have HG2 : Hid (hv (s.getD (7 + k) 0) < 16 → ∀ i, i < k + 1 → hv (s.getD (7 + i) 0) < 16) := Lib.hid (fun a i hi => by
        by_cases e1 : i = k
        · rw [e1]; exact a
        exact HG.out i (by omega))
      have HL : Hid ((refTo (s.drop 7) k).length = 32) := Lib.hid (refTo_length _ _)
      generalize s.getD (7 + k) 0 = c at *
      generalize hRR : refTo (s.drop 7) (k + 1) = R1 at *
      have HRR := Lib.hid hRR
      clear hRR
      generalize refTo (s.drop 7) k = R at *
      clear HG HNone HSome HIX
      go_wp2_with fail
      obtain ⟨wo, rfl⟩ : ∃ wo : World, wo = wr := ⟨_, rfl⟩
      go_loopw [6, 7] (fun n j wr => ∃ m : Nat, m ≤ 16 ∧ j = .int .i64 m ∧ n = .int .i64 (found c m) ∧ RPRel w wr R) (fun _ j _ => 16 - (intOf j).toNat)
      case atStart => exact ⟨0, by omega, rfl, rfl, hr⟩
      case round =>
        clear hr
        obtain ⟨m, hm, rfl, rfl, hr⟩ := hrel
        by_cases hm16 : m < 16
        · have hmi : (m : Int) < 16 := by omega
          have x2 := dxindex m hm16
          have hf := found_step c m hm16
          have HR := Lib.hid hr
          clear hr
          simp only [digitsA] at x2
          by_cases hc : hexd m = c
          · have HF := Lib.hid (hf.1 hc)
            rw [hc] at x2
            clear hf
            generalize found c m = fm at *
            go_wp2_with fail
            go_region
            all_goals
              go_wp2_with fail
              exact ⟨⟨m + 1, by omega, by go_num, by rw [HF.out], ⟨HR.out.below.drew, HR.out.res, HR.out.row⟩⟩, by simp [intOf]; omega⟩
          · have HF := Lib.hid (hf.2 hc)
            have hne : ¬ (bi (hexd m) = bi c) := fun e => hc (by unfold bi at e; exact UInt8.toNat_inj.1 (by omega))
            clear hf
            generalize hexd m = hx at *
            generalize found c m = fm at *
            go_wp2_with fail
            go_region
            all_goals
              go_wp2_with fail
              exact ⟨⟨m + 1, by omega, by go_num, by rw [HF.out], ⟨HR.out.below.drew, HR.out.res, HR.out.row⟩⟩, by simp [intOf]; omega⟩
        · have hmi : (16 : Int) ≤ (m : Int) := by omega
          obtain rfl : m = 16 := by omega
          by_cases g1 : hv c < 16
          · have hfd : found c 16 = (hv c : Int) := if_pos g1
            rw [hfd]
            have HG3 := Lib.hid (HG2.out g1)
            have HS3 := Lib.hid (HST.out g1)
            have c0 := hr.row.cell (k / 2) (by have := HL.out; omega)
            have f0 := hr.row.free (k / 2)
            have hstep := hr.step (k / 2) (UInt8.ofNat (16 * (R.getD (k / 2) 0).toNat + hv c))
            rw [← HS3.out, bi_ofNat] at hstep
            have HSP := Lib.hid hstep
            clear hstep HG2 HST HN1 hr HS3 hfd x1
            generalize R.getD (k / 2) 0 = b at *
            generalize hv c = n at *
            have hb0 := bi_nonneg b
            have hb1 := bi_lt b
            have hq : ((k : Int) + 7 - 7) / 2 = ((k / 2 : Nat) : Int) := by omega
            have hq2 : ((k / 2 : Nat) : Int) < 32 := by omega
            go_wp2_with fail
            refine ⟨⟨k + 1, by omega, by go_num, ?_, HG3.out⟩, by simp [intOf]; omega⟩
            have hval : bi b * 16 % 256 + (n : Int) = (((16 * b.toNat + n) % 256 : Nat) : Int) := by unfold bi; omega
            rw [HRR.out, hval]
            exact HSP.out
          · have hfd : found c 16 = -1 := if_neg g1
            rw [hfd]
            have HP := Lib.hid (HN1.out g1)
            have HR2 : Hid (wr.heap[w.heap.size]? = some (.cells zl 24 (0, 0))) := Lib.hid (by rw [HZ.out]; exact hr.res)
            have hbel := hr.below
            clear hr HG2 HST HN1 hfd x1
            go_wp2_with (first | (refine wpList_buildX rfl 24 _ rfl zl (by rw [HZ.out]; kernel_rfl) ?_) | (refine wpList_store_rowX rfl 24 _ _ rfl w.heap.size zl rfl rfl 24 zl HR2.out HZI.out rfl HZ1.out ?_; intro w3 hrow3 ho3 hs3))
            refine bodyPost_ret (v := pval (parseL s)) ?_ rfl ⟨rfl, hbel.trans (Below.of_only ho3 (Nat.le_refl _) hbel.size)⟩
            rw [HPL.out, HP.out]
            rw [show pval none = .tuple #[.agg zl, .int .i64 5] by rw [HZ.out]; rfl]
            exact results_row24 rfl _ _ w.heap.size _ _ rfl rfl hrow3 HZI.out
    · have hki : (71 : Int) ≤ (k : Int) + 7 := by omega
      obtain rfl : k = 64 := by omega
      have HP := Lib.hid (HSome.out (fun i hi => HG.out i hi))
      have hr : RPRel w wr (outTo (s.drop 7) 32) := hr
      have HI : Hid ((Tryd.prog.info? 24).map (·.size) = some (bcells (outTo (s.drop 7) 32)).size) := Lib.hid (by rw [bcells_size, outTo_length]; exact size24)
      have HO : Hid ((bcells (List.replicate 32 0)).size = (bcells (outTo (s.drop 7) 32)).size) := Lib.hid (by rw [bcells_size, bcells_size, outTo_length]; rfl)
      have HR1 : Hid (wr.heap[w.heap.size + 1]? = some (.cells (bcells (outTo (s.drop 7) 32)) 24 (0, 0))) := Lib.hid hr.row
      have HR2 : Hid (wr.heap[w.heap.size]? = some (.cells (bcells (List.replicate 32 0)) 24 (0, 0))) := Lib.hid hr.res
      have hbel := hr.below
      have HV : Hid (pval (some (outTo (s.drop 7) 32)) = .tuple #[.agg (bcells (outTo (s.drop 7) 32)), .int .i64 0]) := Lib.hid (pval_some _)
      clear hr HIX HG HSome HNone
      generalize outTo (s.drop 7) 32 = D at *
      go_wp2_with (first | (refine wpList_load_row rfl 24 _ rfl (w.heap.size + 1) rfl 24 (bcells D) (0, 0) _ HR1.out Tryd.underlying24 rfl HI.out ?_) | (refine wpList_store_row rfl 24 _ _ rfl w.heap.size (bcells D) rfl rfl 24 _ HR2.out HI.out HO.out (bcells_one _) ?_))
      refine bodyPost_ret (v := pval (parseL s)) ?_ rfl ⟨rfl, below_setRow hbel (Nat.le_refl _) _⟩
      rw [HPL.out, HP.out, HV.out]
      exact results_row24 rfl _ _ w.heap.size _ _ rfl rfl (setRow_heap _ _ _ _ _ _ HR2.out) HI.out
set_option maxRecDepth 100000 in
set_option maxHeartbeats 1000000 in
theorem rparse_bad1 (s : List UInt8) (w : World) (hn : s.length ≠ 71) : Calls Tryd.prog 14 #[.string ⟨s.toArray⟩] w (ParsePost s w) := by
  have HP : Hid (parseL s = none) := Lib.hid (parse_none1 s (by rintro ⟨h1, _⟩; exact hn h1))
  generalize hS : ByteArray.mk s.toArray = S at *
  have hz : S.size = s.length := by rw [← hS]; rfl
  generalize s.length = m at *
  have hmi : ¬ ((m : Int) = 71) := by omega
  clear hS
  obtain ⟨zl, hzl⟩ : ∃ zl, zl = bcells (List.replicate 32 0) := ⟨_, rfl⟩
  have HZ := Lib.hid hzl
  have HZI : Hid ((Tryd.prog.info? 24).map (·.size) = some zl.size) := Lib.hid (by rw [hzl]; exact HIz24)
  have HZ1 : Hid (zl.all (·.oneCell') = true) := Lib.hid (by rw [hzl]; exact bcells_one _)
  have HA : Hid ((((w.alloc (.cells (bcells (List.replicate 32 0)) 24 (0, 0))).alloc (.cells (bcells (List.replicate 32 0)) 24 (0, 0))).heap[w.heap.size]? = some (.cells zl 24 (0, 0))) ∧ (((w.alloc (.cells (bcells (List.replicate 32 0)) 24 (0, 0))).alloc (.cells (bcells (List.replicate 32 0)) 24 (0, 0))).heap[w.heap.size + 1]? = some (.cells zl 24 (0, 0)))) := Lib.hid ⟨by rw [hzl]; exact heap_alloc2_old _ _ _, by rw [hzl]; exact heap_alloc2_new _ _ _⟩
  clear hzl
  go_enter Tryd.func14, Tryd.ntmps14
  go_wp2_with (first | (refine wpList_load_row rfl 24 _ rfl (w.heap.size + 1) rfl 24 zl (0, 0) _ HA.out.2 Tryd.underlying24 rfl HZI.out ?_) | (refine wpList_store_rowX rfl 24 _ _ rfl w.heap.size zl rfl rfl 24 zl HA.out.1 HZI.out rfl HZ1.out ?_; intro w3 hrow3 ho3 hs3))
  refine bodyPost_ret (v := pval (parseL s)) ?_ rfl ⟨rfl, (((Below.refl _ _).alloc (Nat.le_refl _) _).alloc (by simp) _).trans (Below.of_only ho3 (Nat.le_refl _) (by simp; omega))⟩
  rw [HP.out]
  rw [show pval none = .tuple #[.agg zl, .int .i64 5] by rw [HZ.out]; rfl]
  exact results_row24 rfl _ _ w.heap.size _ _ rfl rfl hrow3 HZI.out
set_option maxRecDepth 100000 in
set_option maxHeartbeats 1000000 in
theorem rparse_bad2 (s : List UInt8) (w : World) (hn : s.length = 71) (hpre : s.take 7 ≠ preL) : Calls Tryd.prog 14 #[.string ⟨s.toArray⟩] w (ParsePost s w) := by
  have HP : Hid (parseL s = none) := Lib.hid (parse_none1 s (by rintro ⟨_, h2⟩; exact hpre h2))
  have hne : (((ByteArray.mk s.toArray).extract 0 7).toList == [115, 104, 97, 50, 53, 54, 58]) = false := by
    rw [Go.ByteArray.toList_eq, Go.ByteArray.extract_mk]
    simpa [preL] using hpre
  have hsl : ∀ wx, (Instr.slice 9 (.string ⟨s.toArray⟩) none (some (.int .i64 7)) none).run Tryd.prog wx = .ok (.string ((ByteArray.mk s.toArray).extract 0 7)) wx := fun wx => by
    rw [run_slice_string_to_if wx 9 _ .i64 7 Tryd.underlying9, if_pos ⟨by omega, by show (7 : Int) ≤ (s.length : Nat); omega⟩]
    rfl
  generalize (ByteArray.mk s.toArray).extract 0 7 = X at *
  generalize hS : ByteArray.mk s.toArray = S at *
  have hz : S.size = 71 := by rw [← hS]; exact hn
  clear hS
  obtain ⟨zl, hzl⟩ : ∃ zl, zl = bcells (List.replicate 32 0) := ⟨_, rfl⟩
  have HZ := Lib.hid hzl
  have HZI : Hid ((Tryd.prog.info? 24).map (·.size) = some zl.size) := Lib.hid (by rw [hzl]; exact HIz24)
  have HZ1 : Hid (zl.all (·.oneCell') = true) := Lib.hid (by rw [hzl]; exact bcells_one _)
  have HA : Hid ((((w.alloc (.cells (bcells (List.replicate 32 0)) 24 (0, 0))).alloc (.cells (bcells (List.replicate 32 0)) 24 (0, 0))).heap[w.heap.size]? = some (.cells zl 24 (0, 0))) ∧ (((w.alloc (.cells (bcells (List.replicate 32 0)) 24 (0, 0))).alloc (.cells (bcells (List.replicate 32 0)) 24 (0, 0))).heap[w.heap.size + 1]? = some (.cells zl 24 (0, 0)))) := Lib.hid ⟨by rw [hzl]; exact heap_alloc2_old _ _ _, by rw [hzl]; exact heap_alloc2_new _ _ _⟩
  clear hzl
  go_enter Tryd.func14, Tryd.ntmps14
  go_wp2_with (first | (refine wpList_load_row rfl 24 _ rfl (w.heap.size + 1) rfl 24 zl (0, 0) _ HA.out.2 Tryd.underlying24 rfl HZI.out ?_) | (refine wpList_store_rowX rfl 24 _ _ rfl w.heap.size zl rfl rfl 24 zl HA.out.1 HZI.out rfl HZ1.out ?_; intro w3 hrow3 ho3 hs3))
  refine bodyPost_ret (v := pval (parseL s)) ?_ rfl ⟨rfl, (((Below.refl _ _).alloc (Nat.le_refl _) _).alloc (by simp) _).trans (Below.of_only ho3 (Nat.le_refl _) (by simp; omega))⟩
  rw [HP.out]
  rw [show pval none = .tuple #[.agg zl, .int .i64 5] by rw [HZ.out]; rfl]
  exact results_row24 rfl _ _ w.heap.size _ _ rfl rfl hrow3 HZI.out
theorem rparse_walk (s : List UInt8) (w : World) : Calls Tryd.prog 14 #[.string ⟨s.toArray⟩] w (ParsePost s w) := by
  by_cases hn : s.length = 71
  · by_cases hp : s.take 7 = preL
    · exact rparse_main s w hp hn
    · exact rparse_bad2 s w hn hp
  · exact rparse_bad1 s w hn
end Go.Proofs.YtdkajbhhmgmohaaDoor
