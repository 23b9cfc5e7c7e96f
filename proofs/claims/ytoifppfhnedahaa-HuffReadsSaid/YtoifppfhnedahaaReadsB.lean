/-
  HuffReads: lengths that have none.
-/
import Derived.Test.YtoifppfhnedahaaReadsMid
namespace Go.Proofs.Ytoifppfhnedahaa
open Go.RowKit Hf
set_option maxRecDepth 100000 in
set_option maxHeartbeats 4000000 in
theorem reads_nil (w : World) (v u : Value) (zs0 : List Int) (L0 : List Bool) (c : Nat) (n : Int) (hv : SlV w v (ni zs0)) (hu : SlV w u (nb L0)) (hc : c < 4294967296) (hm : may (zs0.take 300) ≠ 0) :
    Calls Try.prog 4 #[v, u, .int .u32 (c : Int), .int .i64 n] w fun e w' => e = .returned (.bool true) ∧ Below w.heap.size w w' := by
  have hmf : ∀ (fn : Fn) (first cap : Array Value) (w : World), (Instr.makeFunc fn first cap).run Try.prog w = .ok (.func fn first cap) w := fun _ _ _ _ => rfl
  obtain ⟨i0, hi, hz0, hz1, hz2⟩ := info_parts info3
  have HI0 := Lib.hid (And.intro hi (And.intro hz0 (And.intro hz1 hz2)))
  clear hi hz0 hz1 hz2
  obtain ⟨p, cap, rfl⟩ := hv.shape
  obtain ⟨pb, cb, rfl⟩ := hu.shape
  rw [ni_length] at *
  rw [nb_length] at *
  obtain ⟨k, hk⟩ : ∃ k, k = min zs0.length 300 := ⟨_, rfl⟩
  obtain ⟨lb, hlb⟩ : ∃ lb, lb = min L0.length 200 := ⟨_, rfl⟩
  have hmin1 : min (zs0.length : Int) 300 = (k : Int) := by omega
  have hmin2 : min (L0.length : Int) 200 = (lb : Int) := by omega
  have sl1 := slice_toI hv k (by omega)
  have sl2 := slice_toB hu lb (by omega)
  have hv2 := hv.take k (by omega)
  have hu2 := hu.take lb (by omega)
  rw [ni_take] at hv2
  rw [nb_take] at hu2
  have hk3 : k ≤ 300 := by omega
  have hlb2 : lb ≤ 200 := by omega
  obtain ⟨zs, hzs⟩ : ∃ zs, zs = zs0.take 300 := ⟨_, rfl⟩
  obtain ⟨L, hL⟩ : ∃ L, L = L0.take 200 := ⟨_, rfl⟩
  have hkz : k = zs.length := by rw [hzs, List.length_take]; omega
  have hlL : lb = L.length := by rw [hL, List.length_take]; omega
  have e1 : zs0.take k = zs := by rw [hzs, hk, take_min]
  have e2 : L0.take lb = L := by rw [hL, hlb, take_min]
  rw [e1] at hv2
  rw [e2] at hu2
  rw [← hzs] at hm
  have HV := Lib.hid hv2
  have HU := Lib.hid hu2
  have HK := Lib.hid hkz
  have HL := Lib.hid hlL
  have HM := Lib.hid hm
  have HC := Lib.hid hc
  clear hv hu hv2 hu2 hkz hlL e1 e2 hm hc hk hlb hzs hL
  generalize zs0.length = k0 at *
  generalize L0.length = l0 at *
  go_enter Try.func4, Try.ntmps4
  have HSK : Hid (SlK 1 w.drew (.slice p k cap) k (ni zs)) := Lib.hid (by
    have h := (HV.out.below (Below.drew' (Below.refl w.heap.size w)) (Nat.le_refl _)).toK
    rw [ni_length, ← HK.out] at h; exact h)
  go_wp2_with fail
  have hk5 : 0 + k ≤ 1099511627776 := by omega
  refine' via_rest (fun REST => ?main) ?prf
  case main =>
    go_region_held3 (fun _ => True) (trivial) (first | (refine step_appI rfl (.const (.slice none 0 0)) (.tmp 33) rfl w.heap.size (.slice none 0 0) (.slice p k cap) 0 k [] (ni zs) rfl rfl (ni_one zs) (World.ownsRow_nil _ _ _ _) HSK.out (Nat.le_refl _) hk5 ?_; intro v' w1 hown hgrow _; rw [Nat.zero_add, List.nil_append] at hown; obtain ⟨p1, cap1, hv'⟩ := own_shape hown; have HOW := Lib.hid hown; have HGR := Lib.hid hgrow; clear hown hgrow; subst hv'))
    all_goals
      revert HGR HOW
      revert w1 cap1 p1
      exact REST
  case prf => as_aux_lemma =>
    intro w1 p1 cap1 _ HGR HOW
    have HB : Hid (Below w.heap.size w w1) := Lib.hid ((Below.drew' (Below.refl w.heap.size w)).grown HGR.out (Nat.le_refl _) (fun k e => by cases e))
    have HSL := Lib.hid (own_toV HOW.out)
    have HU1 := Lib.hid (HU.out.below HB.out (Nat.le_refl _))
    have HSZ1 : Hid (w.heap.size ≤ w1.heap.size) := Lib.hid HB.out.size
    clear HGR HSK sl1 sl2 hmin1 hmin2 hk5
    obtain ⟨A, E, hAE⟩ := st_pair zs
    have HAE := Lib.hid hAE
    clear hAE
    go_wp2_with fail
    refine (State_walk _ _ _ HSL.out).mono ?_
    rintro e w2 ⟨rfl, hB2⟩
    rw [HAE.out]
    have HB := Lib.hid (bt HB.out hB2)
    have HX := Lib.hid hB2
    clear hB2
    go_wp2_with fail
    refine (rState_walk _ _ _ (HSL.out.below HX.out (Nat.le_refl _))).mono ?_
    rintro e w' ⟨rfl, rfl⟩
    rw [HAE.out]
    go_wp2_with fail
    refine (Codes_walk _ _ _ (HSL.out.below HX.out (Nat.le_refl _))).mono ?_
    rintro e w4 ⟨vc, rfl, hO, hB4⟩
    obtain ⟨CL, hn, hl⟩ := cd_list zs
    obtain ⟨G, hG⟩ : ∃ G : Int, G = (if good zs then (if st zs = 1 then 20 else 0) else 1) := ⟨_, rfl⟩
    rw [← hG]
    rw [hn, hl] at hO
    have HNE := Lib.hid (And.intro hn (And.intro hl hG))
    have hNE0 := hn
    obtain ⟨N, hN⟩ : ∃ N, N = CL.length := ⟨_, rfl⟩
    rw [← hN] at hO
    have HNN := Lib.hid hN
    have hN3 : N ≤ 300 := by
      have h1 := hNE0
      have h2 := HK.out
      rw [hN, ← h1]
      split <;> omega
    obtain ⟨pc, cc, rfl⟩ := own_shape hO
    have HB := Lib.hid (bt HB.out hB4)
    have HX := Lib.hid (bt HX.out hB4)
    have HCD := Lib.hid (own_toV hO)
    clear hO hB4 hn hl hG hN hNE0
    go_wp2_with fail
    refine (rCodes_walk _ _ _ (HSL.out.below HX.out (Nat.le_refl _))).mono ?_
    rintro e w5 ⟨vd, rfl, hO, hB5⟩
    rw [← HNE.out.2.2]
    rw [HNE.out.1, HNE.out.2.1, ← HNN.out] at hO
    obtain ⟨pd, cdd, rfl⟩ := own_shape hO
    have HB := Lib.hid (bt HB.out hB5)
    have HX := Lib.hid (bt HX.out hB5)
    have HCD := Lib.hid (HCD.out.below hB5 (Nat.le_refl _))
    have HDD := Lib.hid (own_toV hO)
    clear hO hB5 HAE HNE
    go_wp2_with fail
    refine (new_bad _ _ _ (may zs) (HSL.out.below HX.out (Nat.le_refl _)) rfl HM.out).mono ?_
    rintro e w6 ⟨rfl, hB6⟩
    have HB := Lib.hid (bt HB.out hB6)
    have HX := Lib.hid (bt HX.out hB6)
    have HCD := Lib.hid (HCD.out.below hB6 (Nat.le_refl _))
    have HDD := Lib.hid (HDD.out.below hB6 (Nat.le_refl _))
    clear hB6
    go_wp2_with fail
    refine (rMay_walk _ _ _ (HSL.out.below HX.out (Nat.le_refl _)) (by rw [← HK.out]; omega)).mono ?_
    rintro e w6 ⟨rfl, rfl⟩
    have hm0 : ¬ may zs = 0 := HM.out
    have hmb : (may zs == 0) = false := beq_false_of_ne HM.out
    have hmb2 : (may zs != 0) = true := by rw [bne, hmb]; rfl
    generalize may zs = my at hmb hmb2 hm0 ⊢
    go_wp2_with fail
    refine (Turned_walk _ c n HC.out).mono ?_
    rintro e w6 ⟨rfl, rfl⟩
    go_wp2_with fail
    refine (rTurned_walk _ c n HC.out).mono ?_
    rintro e w6 ⟨rfl, rfl⟩
    generalize trn c (min n.toNat 32) = tt
    have HWX : Hid (w1.heap.size ≤ w6.heap.size) := Lib.hid HX.out.size
    go_wp2_with fail
    go_loopw [8, 19] (fun v8 v19 wr => v8 = .bool false ∧ ∃ j : Nat, j ≤ N ∧ v19 = .int .i64 j ∧ Below w6.heap.size w6 wr) (fun _ v19 _ => N - (intOf v19).toNat)
    case atStart => exact ⟨rfl, 0, Nat.zero_le _, rfl, Below.refl _ _⟩
    case round =>
      obtain ⟨rfl, j, hj, rfl, hBL⟩ := hrel
      have HBL := Lib.hid hBL
      clear hBL
      by_cases hlt : j < N
      · have hlti : (j : Int) < (N : Int) := by omega
        obtain ⟨g1, o1, rfl, hrow1⟩ := (HCD.out.below HBL.out (Nat.le_refl _)).some (by omega)
        obtain ⟨g2, o2, rfl, hrow2⟩ := (HDD.out.below HBL.out (Nat.le_refl _)).some (by omega)
        have hcap1 := HCD.out.le
        have hcap2 := HDD.out.le
        have hc1 := hrow1.nu j (by rw [← HNN.out]; exact hlt)
        have hc2 := hrow2.nu j (by rw [← HNN.out]; exact hlt)
        clear hrow1 hrow2
        generalize CL.getD j 0 = x at hc1 hc2
        go_wp2_with fail
        go_quiet (fail)
        have HBL := Lib.hid (below_drewN HBL.out nq)
        clear hc1 hc2
        generalize wr.drewN nq = wx at *
        go_wp2_with fail
        exact ⟨⟨rfl, j + 1, by omega, by go_num, HBL.out⟩, by simp [intOf]; omega⟩
      · have hlti : (N : Int) ≤ (j : Int) := by omega
        obtain rfl : j = N := by omega
        as_aux_lemma =>
        have HB := Lib.hid (bt HB.out HBL.out)
        have HX := Lib.hid (bt HX.out HBL.out)

        have HSW : Hid (SlV wr (.slice p1 k cap1) (ni zs)) := Lib.hid (HSL.out.below HX.out (Nat.le_refl _))
        have HSK2 : Hid (SlK 1 wr (.slice p1 k cap1) k (ni zs)) := Lib.hid (by
          have h := HSW.out.toK
          rw [ni_length, ← HK.out] at h; exact h)
        have hk5 : 0 + k ≤ 1099511627776 := by omega
        clear HCD HDD HBL
        go_wp2_with (refine wpList_appK 22 3 i0 (.int .i64 0) 1 8 Try.underlying22 HI0.out.1 HI0.out.2.1 HI0.out.2.2.1 HI0.out.2.2.2 rfl (by decide) (by decide) rfl _ _ rfl wr.heap.size (.slice none 0 0) (.slice p1 k cap1) 0 k [] (ni zs) rfl rfl (ni_one zs) (World.ownsRow_nil _ _ _ _) HSK2.out (Nat.le_refl _) hk5 ?_; intro v' w8 hown hgrow _; rw [Nat.zero_add, List.nil_append] at hown; obtain ⟨p2, cap2, hv'⟩ := own_shape hown; have HOW2 := Lib.hid hown; have HGR2 := Lib.hid hgrow; clear hown hgrow; subst hv')
        have HBW : Hid (Below w.heap.size w w8) := Lib.hid (HB.out.grown HGR2.out HB.out.size (fun k e => by cases e))
        have HON := Lib.hid (Ones.start HOW.out (HX.out.grown HGR2.out HX.out.size (fun k e => by cases e)))
        have HRR : Hid (∀ wz, Ones w.heap.size w1.heap.size w8 wz p1 k cap1 → Below w.heap.size w wz) := Lib.hid (fun wz h => HBW.out.trans (h.only.below HBW.out.size fun i hi => hi.1))
        clear HSW HSK2 HOW HOW2 HGR2 HX HB HSL HU1 hk5 HSZ1 HWX HBW
        go_wp2_with fail
        go_loopw [21] (fun v21 wz => ∃ j : Nat, j ≤ k ∧ v21 = .int .i64 j ∧ Ones w.heap.size w1.heap.size w8 wz p1 k cap1) (fun v21 _ => k - (intOf v21).toNat)
        case atStart => exact ⟨0, Nat.zero_le _, rfl, HON.out⟩
        case round =>
          obtain ⟨j, hj, rfl, hO⟩ := hrel
          by_cases hlt : j < k
          · have hlti : (j : Int) < (k : Int) := by omega
            obtain ⟨g, u, rfl, hcap, hc, hf, hset⟩ := hO.spot hlt
            have HST := Lib.hid hset
            clear hO hset HON HRR
            go_wp2_with fail
            exact ⟨⟨j + 1, by omega, by go_num, HST.out _⟩, by simp [intOf]; omega⟩
          · have hlti : (k : Int) ≤ (j : Int) := by omega
            have HR0 := Lib.hid (HRR.out _ hO)
            as_aux_lemma =>
            clear hO HON HRR
            go_wp2_with fail
            have HB0 := Lib.hid (HR0.out.alloc HR0.out.size (.cells #[.slice pb lb cb, .int .i64 0] 50))
            generalize World.alloc wr _ = W at *
            go_loopw [23] (fun _ wz => wz = W) (fun _ _ => 0)
            case atStart => rfl
            case round =>
              obtain rfl := hrel
              go_wp2_with fail
              refine (tells_walk _).mono ?_
              rintro e wo ⟨rfl, hBo⟩
              have HBo := Lib.hid (bt HB0.out hBo)
              clear hBo
              go_wp2_with fail
              go_ret
              exact ⟨rfl, HBo.out⟩
end Go.Proofs.Ytoifppfhnedahaa
