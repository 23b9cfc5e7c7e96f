/-
  The law of parts.
-/
import Derived.Test.YtgdnemjlmhmhhaaDoorHpa
import Derived.Test.YtgdnemjlmhmhhaaDoorHwb
namespace Go.Proofs.YtgdnemjlmhmhhaaDoor
open Go.RowKit Go.Maps

set_option maxRecDepth 100000 in
set_option maxHeartbeats 16000000 in
theorem parts_law (w : World) (names : List (List UInt8)) (hlen : names.length ≤ maxLen) (hsz : ∀ x ∈ names, x.length ≤ maxLen) (v : Value) (hv : SlV w v (sl names)) : Calls Tryd.prog 6 #[v] w (WakePost w) := by
  unfold WakePost
  unfold maxLen at hlen hsz
  obtain ⟨p0, cap0, rfl⟩ := hv.shape
  rw [sl_length] at *
  obtain ⟨N, hN⟩ : ∃ N, names.length = N := ⟨_, rfl⟩
  have HN := Lib.hid hN
  have HSZ := Lib.hid hsz
  have HV := Lib.hid hv
  rw [hN] at hlen HV ⊢
  have hNI : (N : Int) ≤ 9223372036854775807 := by omega
  obtain ⟨i0, hi, hz0, hz1, hz2⟩ := info_parts info9
  have HI0 := Lib.hid (And.intro hi (And.intro hz0 (And.intro hz1 hz2)))
  clear hN hsz hv hi hz0 hz1 hz2
  go_enter Tryd.func6, Tryd.ntmps6
  go_wp2_with fail
  go_loopw [3, 13] (fun v3 v13 wr => ∃ k : Nat, k ≤ N ∧ v13 = .int .i64 (k : Int) ∧ (∃ pv cv, v3 = .slice pv (picks names k).length cv) ∧ wr.ownsRow w.heap.size 9 1 v3 (picks names k).length (sl (picks names k)) ∧ Below w.heap.size w wr) (fun _ v13 _ => N - (intOf v13).toNat)
  case atStart => exact ⟨0, Nat.zero_le _, rfl, ⟨_, _, rfl⟩, World.ownsRow_nil _ _ _ _, Below.refl _ _⟩
  case round =>
    obtain ⟨k, hk, rfl, ⟨pv, cv, rfl⟩, hO, hB⟩ := hrel
    have HO := Lib.hid hO
    have HB := Lib.hid hB
    clear hO hB
    have hpl := (picks_facts names k).2.1
    by_cases hkN : k < N
    · obtain ⟨g, o, rfl, hrow⟩ := HV.out.some (by omega)
      have hkl : k < names.length := by rw [HN.out]; exact hkN
      have hcell := HB.out.cell (p := ⟨g, o + k, none⟩) (block_lt_of_cell (hrow.sl k hkl))
      rw [hrow.sl k hkl] at hcell
      have hcap := HV.out.le
      have hkI : (k : Int) < (N : Int) := by omega
      have ek : names.getD k [] = names[k] := by simp [hkl]
      have hxl : (names.getD k []).length ≤ 9223372036854775807 := by rw [ek]; exact HSZ.out _ (List.getElem_mem hkl)
      have hxs : ((sb (names.getD k [])).size : Int) ≤ 9223372036854775807 := by rw [sb_size]; omega
      have hcut : (sb (names.getD k [])).extract 0 (min ((sb (names.getD k [])).size : Int) 60).toNat = sb ((names.getD k []).take 60) := cutS _ 60
      have HP := Lib.hid (picks_succ names k hkl)
      have hx60 : ((names.getD k []).take 60).length ≤ 60 := List.length_take_le _ _
      have HMN : Hid (Calls Tryd.prog 12 #[.string (sb ((names.getD k []).take 60))] wr fun e w' => e = .returned (.bool (Pt.mayName ((names.getD k []).take 60))) ∧ Below wr.heap.size wr w') := Lib.hid (mayName_walk _ (by omega) wr)
      have HSX : Hid (sl [(names.getD k []).take 60] = [.string (sb ((names.getD k []).take 60))]) := Lib.hid rfl
      generalize hpk : (picks names k).length = np at *
      have HPK := Lib.hid hpk
      clear hrow hkl ek hxl hx60 hpk
      generalize sb (names.getD k []) = b0 at *
      generalize (names.getD k []).take 60 = x at *
      by_cases h40 : k < 40
      · have hd : decide ((k : Int) < 40) = true := decide_eq_true (by omega)
        cases hm : Pt.mayName x
        · rw [hm] at HMN
          have HP2 := HP.out
          rw [if_neg (fun h => by rw [hm] at h; exact absurd h.2 (by decide))] at HP2
          have HP2 := Lib.hid HP2
          clear HP hm
          generalize sb x = bx at *
          go_wp2_with ((with_reducible refine HMN.out.mono ?_); rintro e w1 ⟨rfl, hb⟩; have HO1 := Lib.hid (own_stays HO.out (fun j hj => hb.block j (HO.out.lt j hj).2)); replace HB := Lib.hid (HB.out.trans (hb.mono HB.out.size)); clear hb)
          go_roundw
          case rel => exact ⟨k + 1, by omega, by go_num, ⟨_, _, by rw [HP2.out, HPK.out]⟩, by rw [HP2.out, HPK.out]; exact HO1.out, HB.out⟩
          case measure => simp [intOf] <;> omega
        · rw [hm] at HMN
          have HP2 := HP.out
          rw [if_pos ⟨h40, hm⟩] at HP2
          have HP2 := Lib.hid HP2
          clear HP hm
          generalize sb x = bx at *
          go_wp2_with (first
            | ((with_reducible refine HMN.out.mono ?_); rintro e w1 ⟨rfl, hb⟩; replace HO := Lib.hid (own_stays HO.out (fun j hj => hb.block j (HO.out.lt j hj).2)); replace HB := Lib.hid (HB.out.trans (hb.mono HB.out.size)); clear hb)
            | (refine wpList_appK 31 9 i0 (.string ByteArray.empty) 1 16 Tryd.underlying31 HI0.out.1 HI0.out.2.1 HI0.out.2.2.1 HI0.out.2.2.2 rfl (by decide) (by decide) rfl _ _ rfl w.heap.size (.slice pv np cv) (.slice (some ⟨w1.heap.size, 0, none⟩) 1 1) np 1 _ [.string bx] rfl rfl (by intro y hy; simp at hy; subst hy; rfl) (HO.out.alloc _) (⟨rfl, .inl ⟨w1.heap.size, 0, 1, rfl, Nat.le_refl _, fun i v hi => by rw [Nat.zero_add]; exact (cell_of_row _ _ _ _ _ _ (heap_alloc_new w1 _)).trans (by simpa using hi)⟩⟩) (by have := HB.out.size; simp; omega) (by omega) ?_; intro v' w9 hown hgrow hat; obtain ⟨p9, cap9, hv'⟩ := own_shape hown; have HB9 : Hid (Below w.heap.size w w9) := Lib.hid ((HB.out.alloc HB.out.size _).grown hgrow (by have := HB.out.size; simp; omega) (fun k e => (HO.out.lt k e).1)); have HOW := Lib.hid hown; clear hown hgrow hat; subst hv'))
          go_roundw
          case rel =>
            refine ⟨k + 1, by omega, by go_num, ⟨p9, cap9, by rw [HP2.out, List.length_append, HPK.out]; rfl⟩, ?_, HB9.out⟩
            rw [HP2.out, List.length_append, HPK.out, sl_append, HSX.out]
            exact HOW.out
          case measure => simp [intOf] <;> omega
      · have hd : decide ((k : Int) < 40) = false := decide_eq_false (by omega)
        have HP2 := HP.out
        rw [if_neg (fun h => h40 h.1)] at HP2
        have HP2 := Lib.hid HP2
        clear HP
        generalize sb x = bx at *
        go_wp2_with fail
        go_roundw
        case rel => exact ⟨k + 1, by omega, by go_num, ⟨_, _, by rw [HP2.out, HPK.out]⟩, by rw [HP2.out, HPK.out]; exact HO.out, HB.out⟩
        case measure => simp [intOf] <;> omega
    · obtain rfl : k = N := by omega
      have hz : decide ((k : Int) < (k : Int)) = false := decide_eq_false (by omega)
      obtain ⟨f1, f2, f3⟩ := picks_facts names k
      obtain ⟨l, hl⟩ : ∃ l, picks names k = l := ⟨_, rfl⟩
      rw [hl] at f1 f2 f3 HO hpl ⊢
      obtain ⟨m1, m2, m3⟩ := may_glue f1 f2 f3
      have hg := glue_le 60 l f3
      have hg2 : l.length * (60 + 1) ≤ 40 * 61 := Nat.mul_le_mul f2 (Nat.le_refl _)
      obtain ⟨a1, a2⟩ := above_glue l (fun x hx => (name_facts (List.all_eq_true.1 f1 x hx)).2.2.2.2.1)
      have hup := one_up f1 f2 f3
      obtain ⟨p, hp⟩ : ∃ p, Pt.glue l = p := ⟨_, rfl⟩
      rw [hp] at m1 m2 m3 hg a1 a2 hup
      have hjs := join_self m1
      have hpa := parent_len p
      have hba := base_len p
      have HL : Hid (SlV wr (.slice pv l.length cv) (sl l)) := Lib.hid (own_toV HO.out)
      have CJ : Hid (∀ (v : Value) (w1 : World), SlV w1 v (sl l) → Calls Tryd.prog 19 #[v] w1 fun e w' => e = .returned (.string (sb p)) ∧ Below w1.heap.size w1 w') := Lib.hid (fun v w1 hv => by
        have h := join_walk l (by omega) (by rw [m3]; omega) v w1 hv
        unfold JoinPost at h
        rw [m3] at h; exact h)
      have CM : Hid (∀ w1, Calls Tryd.prog 14 #[.string (sb p)] w1 fun e w' => e = .returned (.bool true) ∧ Below w1.heap.size w1 w') := Lib.hid (fun w1 => by
        have h := may_walk p (by omega) w1
        rw [m1] at h; exact h)
      have CS : Hid (∀ w1, Calls Tryd.prog 17 #[.string (sb p)] w1 fun e w' => ∃ v, e = .returned v ∧ SlV w' v (sl l) ∧ Below w1.heap.size w1 w') := Lib.hid (fun w1 => by
        have h := split_walk p (by omega) w1
        unfold SlPost at h
        rw [m2] at h; exact h)
      have CE : Hid (∀ (v1 v2 : Value) (w1 : World), SlV w1 v1 (sl l) → SlV w1 v2 (sl l) → Calls Tryd.prog 16 #[v1, v2] w1 fun e w' => e = .returned (.bool true) ∧ Below w1.heap.size w1 w') := Lib.hid (fun v1 v2 w1 h1 h2 => by
        have h := eq_walk l l (by omega) v1 v2 w1 h1 h2
        rw [decide_eq_true rfl] at h; exact h)
      have CP : Hid (∀ w1, Calls Tryd.prog 21 #[.string (sb p)] w1 fun e w' => e = .returned (.string (sb (Pt.parent p))) ∧ w' = w1) := Lib.hid (fun w1 => parent_walk p (by omega) w1)
      have CB : Hid (∀ w1, Calls Tryd.prog 23 #[.string (sb p)] w1 fun e w' => e = .returned (.string (sb (Pt.base p))) ∧ w' = w1) := Lib.hid (fun w1 => base_walk p (by omega) w1)
      have CJ2 : Hid (∀ w1 : World, Calls Tryd.prog 19 #[.slice (some ⟨w1.heap.size, 0, none⟩) 2 2] (w1.alloc (.cells #[.string (sb (Pt.parent p)), .string (sb (Pt.base p))] 9)) fun e w' => e = .returned (.string (sb p)) ∧ Below w1.heap.size w1 w') := Lib.hid (fun w1 => by
        have h := join_walk [Pt.parent p, Pt.base p] (by simp) (by rw [hjs]; omega) _ _ (slv_new w1 (sl [Pt.parent p, Pt.base p]) 9)
        unfold JoinPost at h
        rw [hjs] at h
        have hb2 := (Below.refl w1.heap.size w1).alloc (Nat.le_refl _) (.cells #[.string (sb (Pt.parent p)), .string (sb (Pt.base p))] 9)
        exact h.mono fun _ _ ⟨h1, h2⟩ => ⟨h1, hb2.trans (h2.mono (by simp))⟩)
      have CU : Hid (∀ w1, Calls Tryd.prog 27 #[.string (sb p), .string (sb p)] w1 fun e w' => e = .returned (.bool false) ∧ w' = w1) := Lib.hid (fun w1 => by
        have h := under_walk p p w1
        rw [under_self] at h; exact h)
      have CU0 : Hid (∀ w1, Calls Tryd.prog 27 #[.string ⟨#[]⟩, .string (sb p)] w1 fun e w' => e = .returned (.bool (!(p == []))) ∧ w' = w1) := Lib.hid (fun w1 => by
        have h := under_walk [] p w1
        have e : Pt.under [] p = !(p == []) := by unfold Pt.under; simp [bne]
        rw [e] at h; exact h)
      have CA : Hid (∀ w1, Calls Tryd.prog 25 #[.string (sb p)] w1 fun e w' => ∃ v, e = .returned v ∧ SlV w' v (sl (Pt.above p)) ∧ Below w1.heap.size w1 w') := Lib.hid (fun w1 => above_walk p (by omega) w1)
      have HW : Hid (∀ w1, Calls Tryd.prog 33 #[] w1 fun e w' => e = .returned (.bool true) ∧ Below w1.heap.size w1 w') := Lib.hid (fun w1 => wakes_walk w1)
      have hem : ((sb p).toList == []) = (p == []) := by rw [sb_list]
      have hpp : ((sb p).toList == (sb p).toList) = true := beq_self_eq_true _
      obtain ⟨A, hA⟩ : ∃ A, Pt.above p = A := ⟨_, rfl⟩
      rw [hA] at CA a1 a2
      obtain ⟨M, hM⟩ : ∃ M, A.length = M := ⟨_, rfl⟩
      have HM := Lib.hid hM
      rw [hM] at a1
      obtain ⟨n, hn⟩ : ∃ n, l.length = n := ⟨_, rfl⟩
      have HNL := Lib.hid hn
      rw [hn] at a1 a2 hup HL f2 hpl
      have hmx : max ((n : Int) - 1) 0 = (M : Int) := by omega
      have HA1 := Lib.hid a1
      have HA2 := Lib.hid a2
      have HUP := Lib.hid hup
      have HPL : Hid (p.length ≤ 3000) := Lib.hid (by omega)
      have HGL : Hid (Pt.glue (l.take n) = p) := Lib.hid (by rw [← hp, List.take_of_length_le (by rw [hn]; exact Nat.le_refl _)])
      have hn40 : n ≤ 40 := by omega
      rw [hn]
      generalize (p == []) = PE at *
      clear hl f1 f2 f3 m1 m2 m3 hg hg2 a1 a2 hup hp hjs hpa hba hA hM hn HO hpl
      generalize hbp : sb p = bp at *
      have HBP := Lib.hid hbp
      generalize sb (Pt.parent p) = bpar at *
      generalize sb (Pt.base p) = bbas at *
      clear hbp
      cases PE
      · go_wp2_with (first
          | ((with_reducible refine (CJ.out _ _ HL.out).mono ?_); rintro e w1 ⟨rfl, hb⟩; replace HB := Lib.hid (HB.out.trans (hb.mono HB.out.size)); replace HL := Lib.hid (HL.out.below hb (Nat.le_refl _)); clear hb)
          | ((with_reducible refine (CM.out _).mono ?_); rintro e w1 ⟨rfl, hb⟩; replace HB := Lib.hid (HB.out.trans (hb.mono HB.out.size)); replace HL := Lib.hid (HL.out.below hb (Nat.le_refl _)); clear hb)
          | ((with_reducible refine (CS.out _).mono ?_); rintro e w1 ⟨v1, rfl, hv, hb⟩; replace HB := Lib.hid (HB.out.trans (hb.mono HB.out.size)); replace HL := Lib.hid (HL.out.below hb (Nat.le_refl _)); have HV1 := Lib.hid hv; clear hb hv)
          | ((with_reducible refine (CE.out _ _ _ HV1.out HL.out).mono ?_); rintro e w1 ⟨rfl, hb⟩; replace HB := Lib.hid (HB.out.trans (hb.mono HB.out.size)); replace HL := Lib.hid (HL.out.below hb (Nat.le_refl _)); clear hb)
          | ((with_reducible refine (CP.out _).mono ?_); rintro e w1 ⟨rfl, hw⟩; rw [hw]; clear hw)
          | ((with_reducible refine (CB.out _).mono ?_); rintro e w1 ⟨rfl, hw⟩; rw [hw]; clear hw)
          | ((with_reducible refine (CJ2.out _).mono ?_); rintro e w1 ⟨rfl, hb⟩; replace HB := Lib.hid (HB.out.trans (hb.mono HB.out.size)); replace HL := Lib.hid (HL.out.below hb (Nat.le_refl _)); clear hb)
          | ((with_reducible refine (CU.out _).mono ?_); rintro e w1 ⟨rfl, hw⟩; rw [hw]; clear hw)
          | ((with_reducible refine (CU0.out _).mono ?_); rintro e w1 ⟨rfl, hw⟩; rw [hw]; clear hw)
          | ((with_reducible refine (CA.out _).mono ?_); rintro e w1 ⟨v2, rfl, hv, hb⟩; obtain ⟨pa, capa, rfl⟩ := hv.shape; have hnn := HM.out; rw [sl_length, hnn] at hv ⊢; clear hnn; replace HB := Lib.hid (HB.out.trans (hb.mono HB.out.size)); have HVA := Lib.hid hv; clear hb hv))
        go_loopw [81] (fun v81 wr => ∃ j : Nat, j ≤ M ∧ v81 = .int .i64 (j : Int) ∧ Below w1.heap.size w1 wr) (fun v81 _ => M - (intOf v81).toNat)
        case atStart => exact ⟨0, Nat.zero_le _, rfl, Below.refl _ _⟩
        case round =>
          obtain ⟨j, hj, rfl, hb2⟩ := hrel
          have HB2 := Lib.hid hb2
          clear hb2
          by_cases hjM : j < M
          · obtain ⟨ga, oa, rfl, hrow⟩ := HVA.out.some (by omega)
            have hjn : j + 1 < n := by have := HA1.out; omega
            have hjl : j < A.length := by rw [HM.out]; exact hjM
            have hcell := HB2.out.cell (p := ⟨ga, oa + j, none⟩) (block_lt_of_cell (hrow.sl j hjl))
            rw [hrow.sl j hjl, HA2.out j hjn] at hcell
            have hcap := HVA.out.le
            have hjI : (j : Int) < (M : Int) := by omega
            obtain ⟨u1, u2, u3, u4, u5, u6, u7, u8⟩ := HUP.out j hjn
            have HN2 : Hid (j + 1 < M → wr.cell? ⟨ga, oa + (j + 1), none⟩ = some (.string (sb (Pt.glue (l.take (j + 2)))))) := Lib.hid (fun h => by
              have hjl2 : j + 1 < A.length := by rw [HM.out]; exact h
              have hc := HB2.out.cell (p := ⟨ga, oa + (j + 1), none⟩) (block_lt_of_cell (hrow.sl (j + 1) hjl2))
              rw [hrow.sl (j + 1) hjl2, HA2.out (j + 1) (by have := HA1.out; omega)] at hc
              exact hc)
            have HN3 : Hid (¬ j + 1 < M → Pt.glue (l.take (j + 2)) = p) := Lib.hid (fun h => by
              have e : j + 2 = n := by have := HA1.out; omega
              rw [e]; exact HGL.out)
            obtain ⟨d, hd⟩ : ∃ d, Pt.glue (l.take (j + 1)) = d := ⟨_, rfl⟩
            obtain ⟨nx, hnx⟩ : ∃ nx, Pt.glue (l.take (j + 2)) = nx := ⟨_, rfl⟩
            rw [hd] at u1 u2 u3 u4 u5 u6 u8 hcell
            rw [hnx] at u1 u4 u7 HN2 HN3
            have hpl2 := HPL.out
            have HB3 := Lib.hid (HB.out.trans (HB2.out.mono HB.out.size))
            have KP : Hid (∀ w1, Calls Tryd.prog 21 #[.string (sb nx)] w1 fun e w' => e = .returned (.string (sb d)) ∧ w' = w1) := Lib.hid (fun w1 => by
              have h := parent_walk nx (by omega) w1
              rw [u1] at h; exact h)
            have KU : Hid (∀ w1, Calls Tryd.prog 27 #[.string (sb d), .string bp] w1 fun e w' => e = .returned (.bool true) ∧ w' = w1) := Lib.hid (fun w1 => by
              have h := under_walk d p w1
              rw [u2, HBP.out] at h; exact h)
            have KM : Hid (∀ w1, Below w.heap.size w w1 → Calls Tryd.prog 14 #[.string (sb d)] w1 fun e w' => e = .returned (.bool true) ∧ Below w.heap.size w w' ∧ Below w1.heap.size w1 w') := Lib.hid (fun w1 hb => by
              have h := may_walk d (by omega) w1
              rw [u3] at h
              exact h.mono fun _ _ ⟨h1, h2⟩ => ⟨h1, hb.trans (h2.mono hb.size), h2⟩)
            have KX : Hid (∀ w1, Calls Tryd.prog 27 #[.string (sb (d ++ [120])), .string bp] w1 fun e w' => e = .returned (.bool (Pt.under (d ++ [120]) p)) ∧ w' = w1) := Lib.hid (fun w1 => by
              have h := under_walk (d ++ [120]) p w1
              rw [HBP.out] at h; exact h)
            have KH : Hid (∀ w1, Calls Tryd.prog 35 #[.string bp, .string (sb (d ++ [120, 47]))] w1 fun e w' => e = .returned (.bool ((d ++ [120, 47]).isPrefixOf p)) ∧ w' = w1) := Lib.hid (fun w1 => by
              have h := hp_walk bp (sb (d ++ [120, 47])) w1
              rw [sb_data, ← HBP.out, sb_data] at h
              rw [← HBP.out]; exact h)
            have KB : Hid (∀ w1, Calls Tryd.prog 27 #[.string bp, .string (sb d)] w1 fun e w' => e = .returned (.bool false) ∧ w' = w1) := Lib.hid (fun w1 => by
              have h := under_walk p d w1
              rw [u5, HBP.out] at h; exact h)
            have k1 : sb d ++ (⟨#[120]⟩ : ByteArray) = sb (d ++ [120]) := sb_append d [120]
            have k2 : sb d ++ (⟨#[120, 47]⟩ : ByteArray) = sb (d ++ [120, 47]) := sb_append d [120, 47]
            have z1 : ((sb d).size : Int) ≤ 3000 := by rw [sb_size]; omega
            have y1 : ((⟨#[120]⟩ : ByteArray).size : Int) = 1 := rfl
            have y2 : ((⟨#[120, 47]⟩ : ByteArray).size : Int) = 2 := rfl
            have hls : Op.bytesLess (sb d).toList (sb nx).toList = true := by rw [sb_list, sb_list]; exact u4
            have hdd : ((sb d).toList == (sb d).toList) = true := beq_self_eq_true _
            have hux := @under_x d p
            generalize (d ++ [120, 47]).isPrefixOf p = HX at *
            generalize Pt.under (d ++ [120]) p = UX at *
            clear hrow hjl u1 u2 u3 u4 u5 u6 u7 u8 hd hnx hpl2
            generalize sb (d ++ [120]) = bdx at *
            generalize sb (d ++ [120, 47]) = bdy at *
            by_cases hlast : j + 1 < M
            · have hcell2 := HN2.out hlast
              have hl2 : decide ((j : Int) + 1 < (M : Int)) = true := decide_eq_true (by omega)
              have hl3 : (j : Int) + 1 < (M : Int) := by omega
              clear HN2 HN3
              generalize sb nx = bnx at *
              generalize sb d = bd at *
              cases UX
              · go_wp2_with (first
                  | ((with_reducible refine (KP.out _).mono ?_); rintro e w2 ⟨rfl, hw⟩; rw [hw]; clear hw)
                  | ((with_reducible refine (KU.out _).mono ?_); rintro e w2 ⟨rfl, hw⟩; rw [hw]; clear hw)
                  | ((with_reducible refine (KX.out _).mono ?_); rintro e w2 ⟨rfl, hw⟩; rw [hw]; clear hw)
                  | ((with_reducible refine (KH.out _).mono ?_); rintro e w2 ⟨rfl, hw⟩; rw [hw]; clear hw)
                  | ((with_reducible refine (KB.out _).mono ?_); rintro e w2 ⟨rfl, hw⟩; rw [hw]; clear hw)
                  | ((with_reducible refine (KM.out _ HB3.out).mono ?_); rintro e w2 ⟨rfl, hb, hb5⟩; have HB5 := Lib.hid hb5; clear hb hb5))
                go_roundw
                case rel => exact ⟨j + 1, by omega, by go_num, HB2.out.trans (HB5.out.mono HB2.out.size)⟩
                case measure => simp [intOf] <;> omega
              · obtain rfl : HX = true := hux rfl
                go_wp2_with (first
                  | ((with_reducible refine (KP.out _).mono ?_); rintro e w2 ⟨rfl, hw⟩; rw [hw]; clear hw)
                  | ((with_reducible refine (KU.out _).mono ?_); rintro e w2 ⟨rfl, hw⟩; rw [hw]; clear hw)
                  | ((with_reducible refine (KX.out _).mono ?_); rintro e w2 ⟨rfl, hw⟩; rw [hw]; clear hw)
                  | ((with_reducible refine (KH.out _).mono ?_); rintro e w2 ⟨rfl, hw⟩; rw [hw]; clear hw)
                  | ((with_reducible refine (KB.out _).mono ?_); rintro e w2 ⟨rfl, hw⟩; rw [hw]; clear hw)
                  | ((with_reducible refine (KM.out _ HB3.out).mono ?_); rintro e w2 ⟨rfl, hb, hb5⟩; have HB5 := Lib.hid hb5; clear hb hb5))
                go_roundw
                case rel => exact ⟨j + 1, by omega, by go_num, HB2.out.trans (HB5.out.mono HB2.out.size)⟩
                case measure => simp [intOf] <;> omega
            · have hnp := HN3.out hlast
              have hl2 : decide ((j : Int) + 1 < (M : Int)) = false := decide_eq_false (by omega)
              have hl3 : ¬ (j : Int) + 1 < (M : Int) := by omega
              rw [hnp, HBP.out] at KP hls
              clear HN2 HN3 hnp
              generalize sb d = bd at *
              cases UX
              · go_wp2_with (first
                  | ((with_reducible refine (KP.out _).mono ?_); rintro e w2 ⟨rfl, hw⟩; rw [hw]; clear hw)
                  | ((with_reducible refine (KU.out _).mono ?_); rintro e w2 ⟨rfl, hw⟩; rw [hw]; clear hw)
                  | ((with_reducible refine (KX.out _).mono ?_); rintro e w2 ⟨rfl, hw⟩; rw [hw]; clear hw)
                  | ((with_reducible refine (KH.out _).mono ?_); rintro e w2 ⟨rfl, hw⟩; rw [hw]; clear hw)
                  | ((with_reducible refine (KB.out _).mono ?_); rintro e w2 ⟨rfl, hw⟩; rw [hw]; clear hw)
                  | ((with_reducible refine (KM.out _ HB3.out).mono ?_); rintro e w2 ⟨rfl, hb, hb5⟩; have HB5 := Lib.hid hb5; clear hb hb5))
                go_roundw
                case rel => exact ⟨j + 1, by omega, by go_num, HB2.out.trans (HB5.out.mono HB2.out.size)⟩
                case measure => simp [intOf] <;> omega
              · obtain rfl : HX = true := hux rfl
                go_wp2_with (first
                  | ((with_reducible refine (KP.out _).mono ?_); rintro e w2 ⟨rfl, hw⟩; rw [hw]; clear hw)
                  | ((with_reducible refine (KU.out _).mono ?_); rintro e w2 ⟨rfl, hw⟩; rw [hw]; clear hw)
                  | ((with_reducible refine (KX.out _).mono ?_); rintro e w2 ⟨rfl, hw⟩; rw [hw]; clear hw)
                  | ((with_reducible refine (KH.out _).mono ?_); rintro e w2 ⟨rfl, hw⟩; rw [hw]; clear hw)
                  | ((with_reducible refine (KB.out _).mono ?_); rintro e w2 ⟨rfl, hw⟩; rw [hw]; clear hw)
                  | ((with_reducible refine (KM.out _ HB3.out).mono ?_); rintro e w2 ⟨rfl, hb, hb5⟩; have HB5 := Lib.hid hb5; clear hb hb5))
                go_roundw
                case rel => exact ⟨j + 1, by omega, by go_num, HB2.out.trans (HB5.out.mono HB2.out.size)⟩
                case measure => simp [intOf] <;> omega
          · obtain rfl : j = M := by omega
            have hz2 : decide ((j : Int) < (j : Int)) = false := decide_eq_false (by omega)
            have HB3 := Lib.hid (HB.out.trans (HB2.out.mono HB.out.size))
            go_wp2_with ((with_reducible refine (HW.out _).mono ?_); rintro e w2 ⟨rfl, hb⟩; have HB4 := Lib.hid (HB3.out.trans (hb.mono HB3.out.size)); clear hb)
            go_ret
            exact ⟨rfl, HB4.out⟩
      · go_wp2_with (first
          | ((with_reducible refine (CJ.out _ _ HL.out).mono ?_); rintro e w1 ⟨rfl, hb⟩; replace HB := Lib.hid (HB.out.trans (hb.mono HB.out.size)); replace HL := Lib.hid (HL.out.below hb (Nat.le_refl _)); clear hb)
          | ((with_reducible refine (CM.out _).mono ?_); rintro e w1 ⟨rfl, hb⟩; replace HB := Lib.hid (HB.out.trans (hb.mono HB.out.size)); replace HL := Lib.hid (HL.out.below hb (Nat.le_refl _)); clear hb)
          | ((with_reducible refine (CS.out _).mono ?_); rintro e w1 ⟨v1, rfl, hv, hb⟩; replace HB := Lib.hid (HB.out.trans (hb.mono HB.out.size)); replace HL := Lib.hid (HL.out.below hb (Nat.le_refl _)); have HV1 := Lib.hid hv; clear hb hv)
          | ((with_reducible refine (CE.out _ _ _ HV1.out HL.out).mono ?_); rintro e w1 ⟨rfl, hb⟩; replace HB := Lib.hid (HB.out.trans (hb.mono HB.out.size)); replace HL := Lib.hid (HL.out.below hb (Nat.le_refl _)); clear hb)
          | ((with_reducible refine (CP.out _).mono ?_); rintro e w1 ⟨rfl, hw⟩; rw [hw]; clear hw)
          | ((with_reducible refine (CB.out _).mono ?_); rintro e w1 ⟨rfl, hw⟩; rw [hw]; clear hw)
          | ((with_reducible refine (CJ2.out _).mono ?_); rintro e w1 ⟨rfl, hb⟩; replace HB := Lib.hid (HB.out.trans (hb.mono HB.out.size)); replace HL := Lib.hid (HL.out.below hb (Nat.le_refl _)); clear hb)
          | ((with_reducible refine (CU.out _).mono ?_); rintro e w1 ⟨rfl, hw⟩; rw [hw]; clear hw)
          | ((with_reducible refine (CU0.out _).mono ?_); rintro e w1 ⟨rfl, hw⟩; rw [hw]; clear hw)
          | ((with_reducible refine (CA.out _).mono ?_); rintro e w1 ⟨v2, rfl, hv, hb⟩; obtain ⟨pa, capa, rfl⟩ := hv.shape; have hnn := HM.out; rw [sl_length, hnn] at hv ⊢; clear hnn; replace HB := Lib.hid (HB.out.trans (hb.mono HB.out.size)); have HVA := Lib.hid hv; clear hb hv))
        go_loopw [81] (fun v81 wr => ∃ j : Nat, j ≤ M ∧ v81 = .int .i64 (j : Int) ∧ Below w1.heap.size w1 wr) (fun v81 _ => M - (intOf v81).toNat)
        case atStart => exact ⟨0, Nat.zero_le _, rfl, Below.refl _ _⟩
        case round =>
          obtain ⟨j, hj, rfl, hb2⟩ := hrel
          have HB2 := Lib.hid hb2
          clear hb2
          by_cases hjM : j < M
          · obtain ⟨ga, oa, rfl, hrow⟩ := HVA.out.some (by omega)
            have hjn : j + 1 < n := by have := HA1.out; omega
            have hjl : j < A.length := by rw [HM.out]; exact hjM
            have hcell := HB2.out.cell (p := ⟨ga, oa + j, none⟩) (block_lt_of_cell (hrow.sl j hjl))
            rw [hrow.sl j hjl, HA2.out j hjn] at hcell
            have hcap := HVA.out.le
            have hjI : (j : Int) < (M : Int) := by omega
            obtain ⟨u1, u2, u3, u4, u5, u6, u7, u8⟩ := HUP.out j hjn
            have HN2 : Hid (j + 1 < M → wr.cell? ⟨ga, oa + (j + 1), none⟩ = some (.string (sb (Pt.glue (l.take (j + 2)))))) := Lib.hid (fun h => by
              have hjl2 : j + 1 < A.length := by rw [HM.out]; exact h
              have hc := HB2.out.cell (p := ⟨ga, oa + (j + 1), none⟩) (block_lt_of_cell (hrow.sl (j + 1) hjl2))
              rw [hrow.sl (j + 1) hjl2, HA2.out (j + 1) (by have := HA1.out; omega)] at hc
              exact hc)
            have HN3 : Hid (¬ j + 1 < M → Pt.glue (l.take (j + 2)) = p) := Lib.hid (fun h => by
              have e : j + 2 = n := by have := HA1.out; omega
              rw [e]; exact HGL.out)
            obtain ⟨d, hd⟩ : ∃ d, Pt.glue (l.take (j + 1)) = d := ⟨_, rfl⟩
            obtain ⟨nx, hnx⟩ : ∃ nx, Pt.glue (l.take (j + 2)) = nx := ⟨_, rfl⟩
            rw [hd] at u1 u2 u3 u4 u5 u6 u8 hcell
            rw [hnx] at u1 u4 u7 HN2 HN3
            have hpl2 := HPL.out
            have HB3 := Lib.hid (HB.out.trans (HB2.out.mono HB.out.size))
            have KP : Hid (∀ w1, Calls Tryd.prog 21 #[.string (sb nx)] w1 fun e w' => e = .returned (.string (sb d)) ∧ w' = w1) := Lib.hid (fun w1 => by
              have h := parent_walk nx (by omega) w1
              rw [u1] at h; exact h)
            have KU : Hid (∀ w1, Calls Tryd.prog 27 #[.string (sb d), .string bp] w1 fun e w' => e = .returned (.bool true) ∧ w' = w1) := Lib.hid (fun w1 => by
              have h := under_walk d p w1
              rw [u2, HBP.out] at h; exact h)
            have KM : Hid (∀ w1, Below w.heap.size w w1 → Calls Tryd.prog 14 #[.string (sb d)] w1 fun e w' => e = .returned (.bool true) ∧ Below w.heap.size w w' ∧ Below w1.heap.size w1 w') := Lib.hid (fun w1 hb => by
              have h := may_walk d (by omega) w1
              rw [u3] at h
              exact h.mono fun _ _ ⟨h1, h2⟩ => ⟨h1, hb.trans (h2.mono hb.size), h2⟩)
            have KX : Hid (∀ w1, Calls Tryd.prog 27 #[.string (sb (d ++ [120])), .string bp] w1 fun e w' => e = .returned (.bool (Pt.under (d ++ [120]) p)) ∧ w' = w1) := Lib.hid (fun w1 => by
              have h := under_walk (d ++ [120]) p w1
              rw [HBP.out] at h; exact h)
            have KH : Hid (∀ w1, Calls Tryd.prog 35 #[.string bp, .string (sb (d ++ [120, 47]))] w1 fun e w' => e = .returned (.bool ((d ++ [120, 47]).isPrefixOf p)) ∧ w' = w1) := Lib.hid (fun w1 => by
              have h := hp_walk bp (sb (d ++ [120, 47])) w1
              rw [sb_data, ← HBP.out, sb_data] at h
              rw [← HBP.out]; exact h)
            have KB : Hid (∀ w1, Calls Tryd.prog 27 #[.string bp, .string (sb d)] w1 fun e w' => e = .returned (.bool false) ∧ w' = w1) := Lib.hid (fun w1 => by
              have h := under_walk p d w1
              rw [u5, HBP.out] at h; exact h)
            have k1 : sb d ++ (⟨#[120]⟩ : ByteArray) = sb (d ++ [120]) := sb_append d [120]
            have k2 : sb d ++ (⟨#[120, 47]⟩ : ByteArray) = sb (d ++ [120, 47]) := sb_append d [120, 47]
            have z1 : ((sb d).size : Int) ≤ 3000 := by rw [sb_size]; omega
            have y1 : ((⟨#[120]⟩ : ByteArray).size : Int) = 1 := rfl
            have y2 : ((⟨#[120, 47]⟩ : ByteArray).size : Int) = 2 := rfl
            have hls : Op.bytesLess (sb d).toList (sb nx).toList = true := by rw [sb_list, sb_list]; exact u4
            have hdd : ((sb d).toList == (sb d).toList) = true := beq_self_eq_true _
            have hux := @under_x d p
            generalize (d ++ [120, 47]).isPrefixOf p = HX at *
            generalize Pt.under (d ++ [120]) p = UX at *
            clear hrow hjl u1 u2 u3 u4 u5 u6 u7 u8 hd hnx hpl2
            generalize sb (d ++ [120]) = bdx at *
            generalize sb (d ++ [120, 47]) = bdy at *
            by_cases hlast : j + 1 < M
            · have hcell2 := HN2.out hlast
              have hl2 : decide ((j : Int) + 1 < (M : Int)) = true := decide_eq_true (by omega)
              have hl3 : (j : Int) + 1 < (M : Int) := by omega
              clear HN2 HN3
              generalize sb nx = bnx at *
              generalize sb d = bd at *
              cases UX
              · go_wp2_with (first
                  | ((with_reducible refine (KP.out _).mono ?_); rintro e w2 ⟨rfl, hw⟩; rw [hw]; clear hw)
                  | ((with_reducible refine (KU.out _).mono ?_); rintro e w2 ⟨rfl, hw⟩; rw [hw]; clear hw)
                  | ((with_reducible refine (KX.out _).mono ?_); rintro e w2 ⟨rfl, hw⟩; rw [hw]; clear hw)
                  | ((with_reducible refine (KH.out _).mono ?_); rintro e w2 ⟨rfl, hw⟩; rw [hw]; clear hw)
                  | ((with_reducible refine (KB.out _).mono ?_); rintro e w2 ⟨rfl, hw⟩; rw [hw]; clear hw)
                  | ((with_reducible refine (KM.out _ HB3.out).mono ?_); rintro e w2 ⟨rfl, hb, hb5⟩; have HB5 := Lib.hid hb5; clear hb hb5))
                go_roundw
                case rel => exact ⟨j + 1, by omega, by go_num, HB2.out.trans (HB5.out.mono HB2.out.size)⟩
                case measure => simp [intOf] <;> omega
              · obtain rfl : HX = true := hux rfl
                go_wp2_with (first
                  | ((with_reducible refine (KP.out _).mono ?_); rintro e w2 ⟨rfl, hw⟩; rw [hw]; clear hw)
                  | ((with_reducible refine (KU.out _).mono ?_); rintro e w2 ⟨rfl, hw⟩; rw [hw]; clear hw)
                  | ((with_reducible refine (KX.out _).mono ?_); rintro e w2 ⟨rfl, hw⟩; rw [hw]; clear hw)
                  | ((with_reducible refine (KH.out _).mono ?_); rintro e w2 ⟨rfl, hw⟩; rw [hw]; clear hw)
                  | ((with_reducible refine (KB.out _).mono ?_); rintro e w2 ⟨rfl, hw⟩; rw [hw]; clear hw)
                  | ((with_reducible refine (KM.out _ HB3.out).mono ?_); rintro e w2 ⟨rfl, hb, hb5⟩; have HB5 := Lib.hid hb5; clear hb hb5))
                go_roundw
                case rel => exact ⟨j + 1, by omega, by go_num, HB2.out.trans (HB5.out.mono HB2.out.size)⟩
                case measure => simp [intOf] <;> omega
            · have hnp := HN3.out hlast
              have hl2 : decide ((j : Int) + 1 < (M : Int)) = false := decide_eq_false (by omega)
              have hl3 : ¬ (j : Int) + 1 < (M : Int) := by omega
              rw [hnp, HBP.out] at KP hls
              clear HN2 HN3 hnp
              generalize sb d = bd at *
              cases UX
              · go_wp2_with (first
                  | ((with_reducible refine (KP.out _).mono ?_); rintro e w2 ⟨rfl, hw⟩; rw [hw]; clear hw)
                  | ((with_reducible refine (KU.out _).mono ?_); rintro e w2 ⟨rfl, hw⟩; rw [hw]; clear hw)
                  | ((with_reducible refine (KX.out _).mono ?_); rintro e w2 ⟨rfl, hw⟩; rw [hw]; clear hw)
                  | ((with_reducible refine (KH.out _).mono ?_); rintro e w2 ⟨rfl, hw⟩; rw [hw]; clear hw)
                  | ((with_reducible refine (KB.out _).mono ?_); rintro e w2 ⟨rfl, hw⟩; rw [hw]; clear hw)
                  | ((with_reducible refine (KM.out _ HB3.out).mono ?_); rintro e w2 ⟨rfl, hb, hb5⟩; have HB5 := Lib.hid hb5; clear hb hb5))
                go_roundw
                case rel => exact ⟨j + 1, by omega, by go_num, HB2.out.trans (HB5.out.mono HB2.out.size)⟩
                case measure => simp [intOf] <;> omega
              · obtain rfl : HX = true := hux rfl
                go_wp2_with (first
                  | ((with_reducible refine (KP.out _).mono ?_); rintro e w2 ⟨rfl, hw⟩; rw [hw]; clear hw)
                  | ((with_reducible refine (KU.out _).mono ?_); rintro e w2 ⟨rfl, hw⟩; rw [hw]; clear hw)
                  | ((with_reducible refine (KX.out _).mono ?_); rintro e w2 ⟨rfl, hw⟩; rw [hw]; clear hw)
                  | ((with_reducible refine (KH.out _).mono ?_); rintro e w2 ⟨rfl, hw⟩; rw [hw]; clear hw)
                  | ((with_reducible refine (KB.out _).mono ?_); rintro e w2 ⟨rfl, hw⟩; rw [hw]; clear hw)
                  | ((with_reducible refine (KM.out _ HB3.out).mono ?_); rintro e w2 ⟨rfl, hb, hb5⟩; have HB5 := Lib.hid hb5; clear hb hb5))
                go_roundw
                case rel => exact ⟨j + 1, by omega, by go_num, HB2.out.trans (HB5.out.mono HB2.out.size)⟩
                case measure => simp [intOf] <;> omega
          · obtain rfl : j = M := by omega
            have hz2 : decide ((j : Int) < (j : Int)) = false := decide_eq_false (by omega)
            have HB3 := Lib.hid (HB.out.trans (HB2.out.mono HB.out.size))
            go_wp2_with ((with_reducible refine (HW.out _).mono ?_); rintro e w2 ⟨rfl, hb⟩; have HB4 := Lib.hid (HB3.out.trans (hb.mono HB3.out.size)); clear hb)
            go_ret
            exact ⟨rfl, HB4.out⟩
end Go.Proofs.YtgdnemjlmhmhhaaDoor
