/-
  bytes.LastIndex of three bytes that stand in the row itself.
-/
import Derived.Test.YtghphgpbgekoiaaBytes
namespace Go.Proofs.Ytghphgpbgekoiaa
open Go.RowKit
def ghs (b : List UInt8) (q : Nat) : Nat → Int
  | 0 => 0
  | j + 1 => stp (ghs b q j) (bi (Mt.byt b (q + 2 - j)))
def hs3 (b : List UInt8) (q : Nat) : Int := hash3 (bi (Mt.byt b (q + 2))) (bi (Mt.byt b (q + 1))) (bi (Mt.byt b q))
theorem ghs3 (b : List UInt8) (q : Nat) : ghs b q 3 = hs3 b q := rfl
theorem hs3_same {b : List UInt8} {p q : Nat} (h : Mt.same3 b p q = true) : hs3 b p = hs3 b q := by
  rw [Mt.same3_iff] at h
  have h0 := h 0 (by omega)
  have h1 := h 1 (by omega)
  have h2 := h 2 (by omega)
  simp only [Nat.add_zero] at h0
  unfold hs3; rw [h0, h1, h2]
/-- The three bytes at a place, as a row. -/
def tr (b : List UInt8) (q : Nat) : List UInt8 := [Mt.byt b q, Mt.byt b (q + 1), Mt.byt b (q + 2)]
theorem tr_is (b : List UInt8) (q : Nat) (h : q + 3 ≤ b.length) : (b.drop q).take 3 = tr b q := by
  apply List.ext_getElem
  · simp [tr]; omega
  · intro i h1 h2
    simp only [tr, List.length_cons, List.length_nil] at h2
    simp only [List.getElem_take, List.getElem_drop, tr]
    match i, h2 with
    | 0, _ => simp [Mt.byt, show q < b.length by omega]
    | 1, _ => simp [Mt.byt, show q + 1 < b.length by omega]
    | 2, _ => simp [Mt.byt, show q + 2 < b.length by omega]
theorem tr_eq (b : List UInt8) (p q : Nat) : (tr b p == tr b q) = Mt.same3 b p q := by
  unfold tr Mt.same3
  simp [Bool.and_assoc]
  rfl
def sr (b : List UInt8) (q : Nat) : ByteArray := ⟨(tr b q).toArray⟩
theorem sr_eq (b : List UInt8) (p q : Nat) : sr b p = sr b q ↔ Mt.same3 b p q = true := by
  unfold sr
  rw [← tr_eq]
  simp
theorem sr_beq (b : List UInt8) (p q : Nat) : ((sr b p).toList == (sr b q).toList) = Mt.same3 b p q := by
  unfold sr
  simp only [ByteArray.toList_mk]
  exact tr_eq b p q
set_option maxRecDepth 100000 in
set_option maxHeartbeats 4000000 in
theorem rk_walk (w : World) (v u : Value) (b : List UInt8) (q : Nat) (hq : 1 ≤ q) (hb : q + 4 ≤ b.length) (hb2 : b.length ≤ 32768) (hv : SlV w v (bl (b.take (q + 3)))) (hu : SlV w u (bl (tr b (q + 1)))) :
    Calls Try.prog 38 #[v, u] w (QPost (.int .i64 (hd (Mt.chain b (q + 1) (q + 1)))) w) := by
  have hvl : (bl (b.take (q + 3))).length = q + 3 := by simp; omega
  obtain ⟨p, cap, rfl⟩ := hv.shape
  obtain ⟨p2, cap2, rfl⟩ := hu.shape
  rw [hvl] at hv ⊢
  have hul : (bl (tr b (q + 1))).length = 3 := rfl
  rw [hul] at hu ⊢
  have hh : Calls Try.prog 39 _ w fun e w' => e = .returned (.tuple #[.int .u32 (hs3 b (q + 1)), .int .u32 1055306571]) ∧ w' = w := hashrev_walk w _ _ _ _ hu
  obtain ⟨K, hK⟩ : ∃ K, K = hs3 b (q + 1) := ⟨_, rfl⟩
  rw [← hK] at hh
  have HK := Lib.hid hK
  clear hK
  obtain ⟨g, o, rfl, hrow⟩ := hv.some (by omega)
  have hcap := hv.le
  have HC : Hid (∀ i, i < q + 3 → w.cell? ⟨g, o + i, none⟩ = some (.int .u8 (bi (Mt.byt b i)))) := Lib.hid (fun i hi => by
    have h := hrow.bl i (by simp; omega)
    rw [Mt.byt_take _ _ _ hi] at h; exact h)
  have hcs := run_toString hu
  obtain ⟨p3, hs3', hv3⟩ := from22 hv q (by omega)
  have HV := Lib.hid hv
  have HU := Lib.hid hu
  have HV3 := Lib.hid hv3
  clear hv hu hv3 hrow
  go_enter Try.func38, Try.ntmps38
  go_wp2_with fail
  refine hh.mono ?_
  rintro e w' ⟨rfl, rfl⟩
  clear hh
  go_wp2_with fail
  go_loopw [9, 10] (fun v9 v10 wr => ∃ j : Nat, j ≤ 3 ∧ v10 = .int .i64 ((q : Int) + 2 - (j : Int)) ∧ v9 = .int .u32 (ghs b q j) ∧ wr = w') (fun _ v10 _ => (intOf v10 + 1 - (q : Int)).toNat)
  case atStart => exact ⟨0, by omega, by go_num, rfl, rfl⟩
  case round =>
    obtain ⟨j, hj, rfl, rfl, rfl⟩ := hrel
    by_cases hj3 : j < 3
    · have hc := HC.out (q + 2 - j) (by omega)
      have HX : Hid (ghs b q (j + 1) = (ghs b q j * 16777619 + bi (Mt.byt b (q + 2 - j))) % 4294967296) := Lib.hid (stp_eq _ _)
      have hbx := bi_lt (Mt.byt b (q + 2 - j))
      generalize bi (Mt.byt b (q + 2 - j)) = x at *
      generalize ghs b q j = h at *
      have ht : ((q : Int) + 2 - (j : Int)).toNat = q + 2 - j := by omega
      have hi1 : 0 ≤ (q : Int) + 2 - (j : Int) := by omega
      have hi2 : (q : Int) + 2 - (j : Int) < (q : Int) + 3 := by omega
      have hi3 : (q : Int) ≤ (q : Int) + 2 - (j : Int) := by omega
      go_wp2_with fail
      refine ⟨⟨j + 1, by omega, ?_, ?_, by trivial⟩, ?_⟩
      · go_num
      · rw [HX.out]
        have e : ∀ a b : Int, a = b → Value.int .u32 a = .int .u32 b := fun a b h => by rw [h]
        refine e _ _ ?_
        omega
      · simp only [intOf]; omega
    · obtain rfl : j = 3 := by omega
      rw [ghs3]
      obtain ⟨h, hh⟩ : ∃ h, h = hs3 b q := ⟨_, rfl⟩
      rw [← hh]
      have HH := Lib.hid hh
      clear hh
      have hi3 : (q : Int) + 2 - ((3 : Nat) : Int) < (q : Int) := by omega
      have hc3 : ∀ j, (convert 22 9 (.slice p3 3 (cap - q))).run Try.prog (wr.drewN j) = .ok (.string (sr b q)) (wr.drewN j) := fun j => by
        have h9 := HV3.out.below (below_drewN (Below.refl _ _) j) (Nat.le_refl _)
        rw [bl_drop, List.drop_take, show q + 3 - q = 3 by omega, tr_is b q (by omega)] at h9
        exact run_toString h9
      have hc2 : ∀ j, (convert 22 9 (.slice p2 3 cap2)).run Try.prog (wr.drewN j) = .ok (.string (sr b (q + 1))) (wr.drewN j) := fun j => run_toString (HU.out.below (below_drewN (Below.refl _ _) j) (Nat.le_refl _))
      have HC2 := Lib.hid hc2
      have HSQ := Lib.hid (sr_eq b q (q + 1))
      have HSB := Lib.hid (sr_beq b q (q + 1))
      have HHK : Hid (Mt.same3 b q (q + 1) = true → h = K) := Lib.hid (fun e => by rw [HH.out, HK.out]; exact hs3_same e)
      have HCH : Hid (Mt.chain b (q + 1) (q + 1) = if Mt.same3 b q (q + 1) then q :: Mt.chain b (q + 1) q else Mt.chain b (q + 1) q) := Lib.hid rfl
      generalize sr b q = S1 at *
      generalize hS2 : sr b (q + 1) = S2 at *
      have HS2 := Lib.hid hS2
      clear hS2 hcs
      rw [show q + 3 - q = 3 by omega] at hs3'
      by_cases hsm : Mt.same3 b q (q + 1) = true
      · obtain rfl : h = K := HHK.out hsm
        obtain rfl : S1 = S2 := HSQ.out.2 hsm
        have HCQ : Hid (hd (Mt.chain b (q + 1) (q + 1)) = (q : Int)) := Lib.hid (by rw [HCH.out, if_pos hsm]; rfl)
        go_wp2_with fail
        go_quiet (fail)
        go_wp2_with fail
        go_ret
        exact ⟨by rw [HCQ.out]; rfl, nq, rfl⟩
      · have hS : (S1.toList == S2.toList) = false := by rw [HSB.out]; simpa using hsm
        have hS' : S1 ≠ S2 := fun e => hsm (HSQ.out.1 e)
        have HCQ : Hid (Mt.chain b (q + 1) (q + 1) = Mt.chain b (q + 1) q) := Lib.hid (by rw [HCH.out, if_neg hsm])
        by_cases hhk : h = K
        · have hhb : (h == K) = true := beq_iff_eq.2 hhk
          go_wp2_with fail
          go_quiet (fail)
          go_wp2_with fail
          go_loopw [9, 11] (fun v9 v11 wx => ∃ r : Nat, r ≤ q ∧ v11 = .int .i64 ((r : Int) - 1) ∧ v9 = .int .u32 (hs3 b r) ∧ hd (Mt.chain b (q + 1) r) = hd (Mt.chain b (q + 1) (q + 1)) ∧ ∃ j, wx = wr.drewN j) (fun _ v11 _ => (intOf v11 + 1).toNat)
          case atStart => exact ⟨q, Nat.le_refl _, rfl, by rw [HH.out], by rw [HCQ.out], nq, rfl⟩
          case round =>
            obtain ⟨r, hr, rfl, rfl, hcr, jj, rfl⟩ := hrel
            have HCR := Lib.hid hcr
            clear hcr
            by_cases hr0 : 0 < r
            · obtain ⟨i, rfl⟩ : ∃ i, r = i + 1 := ⟨r - 1, by omega⟩
              rw [show ((i + 1 : Nat) : Int) - 1 = (i : Int) by omega]
              have ca := HC.out i (by omega)
              have cb := HC.out (i + 3) (by omega)
              have HRL : Hid (hs3 b i = (((hs3 b (i + 1) * 16777619 + bi (Mt.byt b i)) % 4294967296) - (1055306571 * bi (Mt.byt b (i + 3))) % 4294967296) % 4294967296) := Lib.hid (by
                have e := roll (bi (Mt.byt b (i + 3))) (bi (Mt.byt b (i + 2))) (bi (Mt.byt b (i + 1))) (bi (Mt.byt b i))
                rw [stp_eq] at e
                simp only [IntKind.wrap_u32] at e
                exact e.symm)
              have HI3 : Hid (Mt.same3 b i (q + 1) = true → hs3 b i = K) := Lib.hid (fun e => by rw [HK.out]; exact hs3_same e)
              have HCI : Hid (Mt.chain b (q + 1) (i + 1) = if Mt.same3 b i (q + 1) then i :: Mt.chain b (q + 1) i else Mt.chain b (q + 1) i) := Lib.hid rfl
              have HBI := Lib.hid (sr_beq b i (q + 1))
              have HEI := Lib.hid (sr_eq b i (q + 1))
              obtain ⟨p4, hs4, hv4⟩ := cut22 HV.out i (i + 3) (by omega) (by omega)
              rw [Nat.add_sub_cancel_left, Int.natCast_add] at hs4
              have hs4 : ∀ w', Sem.run Try.prog (Instr.sliceAt 22 _ _ (some (.int .i64 ((i : Int) + 3))) none) w' = _ := hs4
              have HC4 : Hid (∀ j, (convert 22 9 (.slice p4 3 (cap - i))).run Try.prog (wr.drewN j) = .ok (.string (sr b i)) (wr.drewN j)) := Lib.hid (fun j => by
                have h9 := hv4.below (below_drewN (Below.refl _ _) j) (Nat.le_refl _)
                rw [bl_drop, bl_take, Nat.add_sub_cancel_left, List.drop_take, List.take_take, show min 3 (q + 3 - i) = 3 by omega, tr_is b i (by omega)] at h9
                exact run_toString h9)
              have hc4 := HC4.out
              rw [HS2.out] at HBI HEI
              have hbx := bi_lt (Mt.byt b i)
              have hby := bi_lt (Mt.byt b (i + 3))
              generalize bi (Mt.byt b i) = x at *
              generalize bi (Mt.byt b (i + 3)) = y at *
              generalize hs3 b (i + 1) = hh1 at *
              generalize hh0e : hs3 b i = hh0 at *
              have HH0 := Lib.hid hh0e
              clear hh0e
              generalize sr b i = S3 at *
              clear hv4 HC4
              have HRL2 : Hid (hh0 = (hh1 * 16777619 + x - 1055306571 * y) % 4294967296) := Lib.hid (by have := HRL.out; omega)
              have hi1 : (i : Int) < (q : Int) + 3 := by omega
              have hi2 : (i : Int) + 3 < (q : Int) + 3 := by omega
              by_cases hsm4 : Mt.same3 b i (q + 1) = true
              · obtain rfl : hh0 = K := HI3.out hsm4
                obtain rfl : S3 = S2 := HEI.out.2 hsm4
                have HCQ4 : Hid (hd (Mt.chain b (q + 1) (q + 1)) = (i : Int)) := Lib.hid (by rw [← HCR.out, HCI.out, if_pos hsm4]; rfl)
                go_wp2_with fail
                first | rw [← HRL.out] | rw [← HRL2.out]
                go_quiet (fail)
                go_wp2_with fail
                go_ret
                exact ⟨by rw [HCQ4.out]; rfl, jj + nq, by simp⟩
              · have hS4 : (S3.toList == S2.toList) = false := by rw [HBI.out]; simpa using hsm4
                have HCQ4 : Hid (hd (Mt.chain b (q + 1) i) = hd (Mt.chain b (q + 1) (q + 1))) := Lib.hid (by rw [← HCR.out, HCI.out, if_neg hsm4])
                by_cases hhk4 : hh0 = K
                · have hhb4 : (hh0 == K) = true := beq_iff_eq.2 hhk4
                  go_wp2_with fail
                  first | rw [← HRL.out] | rw [← HRL2.out]
                  go_quiet (fail)
                  go_wp2_with fail
                  refine ⟨⟨i, by omega, ?_, by rw [HH0.out], HCQ4.out, _, rfl⟩, ?_⟩
                  · go_num
                  · simp only [intOf]; omega
                · have hhb4 : (hh0 == K) = false := beq_eq_false_iff_ne.2 hhk4
                  go_wp2_with fail
                  first | rw [← HRL.out] | rw [← HRL2.out]
                  go_quiet (fail)
                  go_wp2_with fail
                  refine ⟨⟨i, by omega, ?_, by rw [HH0.out], HCQ4.out, _, rfl⟩, ?_⟩
                  · go_num
                  · simp only [intOf]; omega
            · obtain rfl : r = 0 := by omega
              have HCZ : Hid (hd (Mt.chain b (q + 1) (q + 1)) = -1) := Lib.hid (by rw [← HCR.out]; rfl)
              go_wp2_with fail
              go_ret
              exact ⟨by rw [HCZ.out]; rfl, jj, rfl⟩
        · have hhb : (h == K) = false := beq_eq_false_iff_ne.2 hhk
          go_wp2_with fail
          go_quiet (fail)
          go_wp2_with fail
          go_loopw [9, 11] (fun v9 v11 wx => ∃ r : Nat, r ≤ q ∧ v11 = .int .i64 ((r : Int) - 1) ∧ v9 = .int .u32 (hs3 b r) ∧ hd (Mt.chain b (q + 1) r) = hd (Mt.chain b (q + 1) (q + 1)) ∧ ∃ j, wx = wr.drewN j) (fun _ v11 _ => (intOf v11 + 1).toNat)
          case atStart => exact ⟨q, Nat.le_refl _, rfl, by rw [HH.out], by rw [HCQ.out], nq, rfl⟩
          case round =>
            obtain ⟨r, hr, rfl, rfl, hcr, jj, rfl⟩ := hrel
            have HCR := Lib.hid hcr
            clear hcr
            by_cases hr0 : 0 < r
            · obtain ⟨i, rfl⟩ : ∃ i, r = i + 1 := ⟨r - 1, by omega⟩
              rw [show ((i + 1 : Nat) : Int) - 1 = (i : Int) by omega]
              have ca := HC.out i (by omega)
              have cb := HC.out (i + 3) (by omega)
              have HRL : Hid (hs3 b i = (((hs3 b (i + 1) * 16777619 + bi (Mt.byt b i)) % 4294967296) - (1055306571 * bi (Mt.byt b (i + 3))) % 4294967296) % 4294967296) := Lib.hid (by
                have e := roll (bi (Mt.byt b (i + 3))) (bi (Mt.byt b (i + 2))) (bi (Mt.byt b (i + 1))) (bi (Mt.byt b i))
                rw [stp_eq] at e
                simp only [IntKind.wrap_u32] at e
                exact e.symm)
              have HI3 : Hid (Mt.same3 b i (q + 1) = true → hs3 b i = K) := Lib.hid (fun e => by rw [HK.out]; exact hs3_same e)
              have HCI : Hid (Mt.chain b (q + 1) (i + 1) = if Mt.same3 b i (q + 1) then i :: Mt.chain b (q + 1) i else Mt.chain b (q + 1) i) := Lib.hid rfl
              have HBI := Lib.hid (sr_beq b i (q + 1))
              have HEI := Lib.hid (sr_eq b i (q + 1))
              obtain ⟨p4, hs4, hv4⟩ := cut22 HV.out i (i + 3) (by omega) (by omega)
              rw [Nat.add_sub_cancel_left, Int.natCast_add] at hs4
              have hs4 : ∀ w', Sem.run Try.prog (Instr.sliceAt 22 _ _ (some (.int .i64 ((i : Int) + 3))) none) w' = _ := hs4
              have HC4 : Hid (∀ j, (convert 22 9 (.slice p4 3 (cap - i))).run Try.prog (wr.drewN j) = .ok (.string (sr b i)) (wr.drewN j)) := Lib.hid (fun j => by
                have h9 := hv4.below (below_drewN (Below.refl _ _) j) (Nat.le_refl _)
                rw [bl_drop, bl_take, Nat.add_sub_cancel_left, List.drop_take, List.take_take, show min 3 (q + 3 - i) = 3 by omega, tr_is b i (by omega)] at h9
                exact run_toString h9)
              have hc4 := HC4.out
              rw [HS2.out] at HBI HEI
              have hbx := bi_lt (Mt.byt b i)
              have hby := bi_lt (Mt.byt b (i + 3))
              generalize bi (Mt.byt b i) = x at *
              generalize bi (Mt.byt b (i + 3)) = y at *
              generalize hs3 b (i + 1) = hh1 at *
              generalize hh0e : hs3 b i = hh0 at *
              have HH0 := Lib.hid hh0e
              clear hh0e
              generalize sr b i = S3 at *
              clear hv4 HC4
              have HRL2 : Hid (hh0 = (hh1 * 16777619 + x - 1055306571 * y) % 4294967296) := Lib.hid (by have := HRL.out; omega)
              have hi1 : (i : Int) < (q : Int) + 3 := by omega
              have hi2 : (i : Int) + 3 < (q : Int) + 3 := by omega
              by_cases hsm4 : Mt.same3 b i (q + 1) = true
              · obtain rfl : hh0 = K := HI3.out hsm4
                obtain rfl : S3 = S2 := HEI.out.2 hsm4
                have HCQ4 : Hid (hd (Mt.chain b (q + 1) (q + 1)) = (i : Int)) := Lib.hid (by rw [← HCR.out, HCI.out, if_pos hsm4]; rfl)
                go_wp2_with fail
                first | rw [← HRL.out] | rw [← HRL2.out]
                go_quiet (fail)
                go_wp2_with fail
                go_ret
                exact ⟨by rw [HCQ4.out]; rfl, jj + nq, by simp⟩
              · have hS4 : (S3.toList == S2.toList) = false := by rw [HBI.out]; simpa using hsm4
                have HCQ4 : Hid (hd (Mt.chain b (q + 1) i) = hd (Mt.chain b (q + 1) (q + 1))) := Lib.hid (by rw [← HCR.out, HCI.out, if_neg hsm4])
                by_cases hhk4 : hh0 = K
                · have hhb4 : (hh0 == K) = true := beq_iff_eq.2 hhk4
                  go_wp2_with fail
                  first | rw [← HRL.out] | rw [← HRL2.out]
                  go_quiet (fail)
                  go_wp2_with fail
                  refine ⟨⟨i, by omega, ?_, by rw [HH0.out], HCQ4.out, _, rfl⟩, ?_⟩
                  · go_num
                  · simp only [intOf]; omega
                · have hhb4 : (hh0 == K) = false := beq_eq_false_iff_ne.2 hhk4
                  go_wp2_with fail
                  first | rw [← HRL.out] | rw [← HRL2.out]
                  go_quiet (fail)
                  go_wp2_with fail
                  refine ⟨⟨i, by omega, ?_, by rw [HH0.out], HCQ4.out, _, rfl⟩, ?_⟩
                  · go_num
                  · simp only [intOf]; omega
            · obtain rfl : r = 0 := by omega
              have HCZ : Hid (hd (Mt.chain b (q + 1) (q + 1)) = -1) := Lib.hid (by rw [← HCR.out]; rfl)
              go_wp2_with fail
              go_ret
              exact ⟨by rw [HCZ.out]; rfl, jj, rfl⟩
end Go.Proofs.Ytghphgpbgekoiaa
