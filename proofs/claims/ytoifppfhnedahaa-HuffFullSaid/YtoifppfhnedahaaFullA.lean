/-
  HuffFull: lengths that are full.
-/
import Derived.Test.YtoifppfhnedahaaFullKit
namespace Go.Proofs.Ytoifppfhnedahaa
open Go.RowKit Hf
set_option maxRecDepth 100000 in
set_option maxHeartbeats 4000000 in
theorem full_full (w : World) (v : Value) (bs : List Int) (row : Nat) (hv : SlV w v (n8 bs)) (hb : ∀ z ∈ bs, 0 ≤ z ∧ z < 256) (hr : row < 65536) (hs : st (fz bs) = 0) :
    Calls Try.prog 7 #[v, .int .u16 (row : Int)] w fun e w' => e = .returned (.bool true) ∧ Below w.heap.size w w' := by
  have hmf : ∀ (fn : Fn) (first cap : Array Value) (w : World), (Instr.makeFunc fn first cap).run Try.prog w = .ok (.func fn first cap) w := fun _ _ _ _ => rfl
  obtain ⟨i0, hi, hz0, hz1, hz2⟩ := info_parts info3
  have HI0 := Lib.hid (And.intro hi (And.intro hz0 (And.intro hz1 hz2)))
  clear hi hz0 hz1 hz2
  obtain ⟨i4, hi, hz0, hz1, hz2⟩ := info_parts info4
  have HI4 := Lib.hid (And.intro hi (And.intro hz0 (And.intro hz1 hz2)))
  clear hi hz0 hz1 hz2
  obtain ⟨p, cap, rfl⟩ := hv.shape
  rw [n8_length] at *
  obtain ⟨l, hl0⟩ : ∃ l, l = bs.length := ⟨_, rfl⟩
  rw [← hl0] at hv ⊢
  have HN := Lib.hid hl0
  have HV := Lib.hid hv
  have HBY := Lib.hid hb
  clear hl0 hv hb
  have hr2 : row / 2 < 32768 := by omega
  have HST := Lib.hid hs
  have HMAY : Hid (may (fz bs) = 0) := Lib.hid (by unfold may; rw [if_pos (fz_good bs), if_pos (.inl hs)])
  clear hs
  go_enter Try.func7, Try.ntmps7
  go_wp2_with fail
  go_loopw [5, 6] (fun v5 v wr => ∃ k : Nat, k ≤ l ∧ k ≤ 60 ∧ v = .int .i64 k ∧ wr.ownsRow w.heap.size 3 1 v5 k (ni ((fz bs).take k)) ∧ Below w.heap.size w wr) (fun _ v _ => 60 - (intOf v).toNat)
  case atStart => exact ⟨0, Nat.zero_le _, Nat.zero_le _, rfl, World.ownsRow_nil _ _ _ _, Below.refl _ _⟩
  case round =>
    obtain ⟨k, hk, hk6, rfl, hO, hB⟩ := hrel
    obtain ⟨p5, cap5, rfl⟩ := own_shape hO
    have HO := Lib.hid hO
    have HB := Lib.hid hB
    have hsz : w.heap.size ≤ wr.heap.size := hB.size
    clear hO hB
    by_cases hlt : k < l ∧ k < 60
    · obtain ⟨hlt, hl6⟩ := hlt
      have h1 : (k : Int) < (l : Int) := by omega
      have h2 : (k : Int) < 60 := by omega
      obtain ⟨g, o, rfl, hrow⟩ := (HV.out.below HB.out (Nat.le_refl _)).some (by omega)
      have hcap := HV.out.le
      have hkb : k < bs.length := by rw [← HN.out]; exact hlt
      have hc := hrow.n8 k hkb
      have hzb := HBY.out (bs.getD k 0) (by rw [List.getD_eq_getElem?_getD, List.getElem?_eq_getElem hkb]; exact List.getElem_mem hkb)
      have HP := Lib.hid (fz_step bs k hkb hl6)
      clear hrow hkb
      generalize bs.getD k 0 = z at hc hzb HP
      go_wp2_with (refine wpList_appK 22 3 i0 (.int .i64 0) 1 8 Try.underlying22 HI0.out.1 HI0.out.2.1 HI0.out.2.2.1 HI0.out.2.2.2 rfl (by decide) (by decide) rfl _ _ rfl w.heap.size (.slice p5 k cap5) (.slice (some ⟨wr.heap.size, 0, none⟩) 1 1) k 1 _ [.int .i64 (z % 16)] rfl rfl (one_int _) (HO.out.alloc _) (SlK_new wr _) (by simp; omega) (by omega) ?_; intro v' w9 hown hgrow _; obtain ⟨p9, cap9, hv'⟩ := own_shape hown; have HOW := Lib.hid hown; have HGR := Lib.hid hgrow; clear hown hgrow; subst hv')
      refine ⟨⟨k + 1, by omega, by omega, by go_num, ?_, ((HB.out.alloc HB.out.size _).grown HGR.out (by simp; omega) (fun k e => (HO.out.lt k e).1))⟩, by simp [intOf]; omega⟩
      rw [HP.out, ni_append]
      exact HOW.out
    · have hkz : k = (fz bs).length := by rw [fz_length, ← HN.out]; omega
      have hSL : SlV wr (.slice p5 k cap5) (ni (fz bs)) := by
        have := own_toV HO.out
        have e : (fz bs).take k = fz bs := by rw [hkz, List.take_length]
        rwa [e] at this
      have HK := Lib.hid hkz
      have HSL := Lib.hid hSL
      clear hkz hSL HO
      rcases exits hlt with ⟨h1, h2⟩ | h1 <;> clear hlt
      · go_wp2_with fail
        refine (state_good _ _ _ 0 HSL.out (fz_good bs) HST.out).mono ?_
        rintro e ws ⟨rfl, hBs⟩
        have HB := Lib.hid (bt HB.out hBs)
        have HSL := Lib.hid (HSL.out.below hBs (Nat.le_refl _))
        clear hBs
        go_wp2_with fail
        refine (new_good _ _ _ HSL.out HMAY.out).mono ?_
        rintro e wn ⟨gn, rfl, hBK, hBn⟩
        have HB := Lib.hid (bt HB.out hBn)
        have HSL := Lib.hid (HSL.out.below hBn (Nat.le_refl _))
        have HBK := Lib.hid hBK
        clear hBn hBK
        go_wp2_with fail
        refine (codes_good _ _ _ HSL.out (fz_good bs) (by rw [HST.out]; decide)).mono ?_
        rintro e wc ⟨uc, rfl, hO, hBc⟩
        rw [← HK.out] at hO
        obtain ⟨pc, cc, rfl⟩ := own_shape hO
        have HB := Lib.hid (bt HB.out hBc)
        have HSL := Lib.hid (HSL.out.below hBc (Nat.le_refl _))
        have HBK := Lib.hid (HBK.out.only (OnlyS.of_below (S := fun _ => False) hBc) (fun _ _ _ h => h))
        have HCD := Lib.hid (own_toV hO)
        have HNC : Hid (wn.heap.size ≤ wc.heap.size) := Lib.hid hBc.size
        clear hBc hO
        go_wp2_with fail
        go_loopw [13, 14, 15] (fun v13 v14 v15 wz => ∃ i b s : Nat, i ≤ k ∧ v15 = .int .i64 i ∧ v13 = .int .i64 b ∧ v14 = .int .i64 s ∧ HitSt (fz bs) (row / 2) i b s ∧ Below wc.heap.size wc wz) (fun _ _ v _ => k - (intOf v).toNat)
        case atStart => exact ⟨0, 0, 0, Nat.zero_le _, rfl, rfl, rfl, .inl ⟨rfl, rfl, fun j hj => by omega⟩, Below.refl _ _⟩
        case round =>
          obtain ⟨i, b, s, hik, rfl, rfl, rfl, hst, hBL⟩ := hrel
          have HH := Lib.hid hst
          have HBL := Lib.hid hBL
          clear hst hBL
          by_cases hil : i < k
          · have hili : (i : Int) < (k : Int) := by omega
            obtain ⟨g5, o5, rfl, hrow5⟩ := (HSL.out.below HBL.out (Nat.le_refl _)).some (by omega)
            obtain ⟨g11, o11, rfl, hrow11⟩ := (HCD.out.below HBL.out (Nat.le_refl _)).some (by omega)
            have hcap5 := HSL.out.le
            have hcap11 := HCD.out.le
            have hiz : i < (fz bs).length := by rw [← HK.out]; exact hil
            have hc5 := hrow5.ni i hiz
            have hc11 := hrow11.nu i (by rw [codes_length]; exact hiz)
            rw [codes_getD _ _ hiz] at hc11
            clear hrow5 hrow11
            have hzg := getD_good (fz_good bs) i
            have HD : Hid (hit (fz bs) (row / 2) i ↔ 0 < (fz bs).getD i 0 ∧ row / 2 / 2 ^ (15 - ((fz bs).getD i 0).toNat) = code (fz bs) i) := Lib.hid Iff.rfl
            obtain ⟨z, hz⟩ : ∃ z, z = (fz bs).getD i 0 := ⟨_, rfl⟩
            obtain ⟨c, hcc⟩ : ∃ c, c = code (fz bs) i := ⟨_, rfl⟩
            rw [← hz] at hc5 hzg HD
            rw [← hcc] at hc11 HD
            clear hz hcc hiz
            by_cases hz0 : 0 < z
            · have HE := Lib.hid (shr_eq row c z ⟨hz0, hzg.2⟩)
              by_cases hh : row / 2 / 2 ^ (15 - z.toNat) = c
              · have heq : ((row : Int) / 2 / 2 ^ (15 - z).toNat == (c : Int)) = true := by rw [HE.out]; exact decide_eq_true hh
                have HH2 := Lib.hid (HH.out.more (fz_good bs) (HD.out.2 ⟨hz0, hh⟩))
                have hb1 : b ≤ 1 := by rcases HH.out with ⟨h, _⟩ | ⟨h, _⟩ <;> omega
                clear HH HD HE
                go_wp2_with fail
                go_quiet (fail)
                have HBL := Lib.hid (below_drewN HBL.out nq)
                clear hc5 hc11
                generalize wr.drewN nq = wx at *
                go_wp2_with fail
                exact ⟨⟨i + 1, b + 1, i, by omega, by go_num, by go_num, rfl, HH2.out, HBL.out⟩, by simp [intOf]; omega⟩
              · have heq : ((row : Int) / 2 / 2 ^ (15 - z).toNat == (c : Int)) = false := by rw [HE.out]; exact decide_eq_false hh
                have HH2 := Lib.hid (HH.out.miss (fun h => hh (HD.out.1 h).2))
                clear HH HD HE
                go_wp2_with fail
                go_quiet (fail)
                have HBL := Lib.hid (below_drewN HBL.out nq)
                clear hc5 hc11
                generalize wr.drewN nq = wx at *
                go_wp2_with fail
                exact ⟨⟨i + 1, b, s, by omega, by go_num, rfl, rfl, HH2.out, HBL.out⟩, by simp [intOf]; omega⟩
            · have hz1 : z = 0 := by omega
              subst hz1
              have HH2 := Lib.hid (HH.out.miss (fun h => absurd (HD.out.1 h).1 (by decide)))
              clear HH HD
              go_wp2_with fail
              go_quiet (fail)
              have HBL := Lib.hid (below_drewN HBL.out nq)
              clear hc5 hc11
              generalize wr.drewN nq = wx at *
              go_wp2_with fail
              exact ⟨⟨i + 1, b, s, by omega, by go_num, rfl, rfl, HH2.out, HBL.out⟩, by simp [intOf]; omega⟩
          · obtain rfl : i = k := by omega
            rcases HH.out with ⟨_, _, h3⟩ | ⟨rfl, hsk, hhit⟩
            · exfalso
              obtain ⟨j, hj, hjh⟩ := hit_full (fz_good bs) (row / 2) (by have := full_kr HST.out; omega)
              exact h3 j (by rw [HK.out]; exact hj) hjh
            have HHIT := Lib.hid (And.intro hsk hhit)
            rw [show ((1 : Nat) : Int) = 1 from rfl]
            clear HH hsk hhit
            have HB := Lib.hid (bt HB.out HBL.out)
            have HSL := Lib.hid (HSL.out.below HBL.out (Nat.le_refl _))
            have HBK := Lib.hid (HBK.out.only (OnlyS.of_below (S := fun _ => False) HBL.out) (fun _ _ _ h => h))
            have HLO : Hid (wn.heap.size ≤ wr.heap.size) := Lib.hid (Nat.le_trans HNC.out HBL.out.size)
            have HWS : Hid (w.heap.size ≤ wr.heap.size) := Lib.hid HB.out.size
            clear HCD HBL HNC
            have HRD := Lib.hid (read_is (fz_good bs) (row / 2) s hr2 HHIT.out.2)
            obtain ⟨g5, o5, rfl, hrow5⟩ := HSL.out.some (by have := HHIT.out.1; omega)
            have HCP := Lib.hid HSL.out.le
            have HG5 : Hid (g5 < wr.heap.size) := Lib.hid (hrow5.lt (by rw [ni_length]; have := HHIT.out.1; have := HK.out; omega))
            have HCS := Lib.hid (hrow5.ni s (by rw [← HK.out]; exact HHIT.out.1))
            clear hrow5
            go_wp2_with fail
            have HFS := Lib.hid (FB.start wr)
            generalize hgf : wr.heap.size = gf at *
            have HGF := Lib.hid hgf
            clear hgf
            go_loopw [17] (fun v17 wy => ∃ (q : Nat) (u : Value), q ≤ 15 ∧ v17 = .int .i64 q ∧ FB wr wy gf u ((bits15 (row / 2)).take (15 - q))) (fun v _ => (intOf v).toNat)
            case atStart => exact ⟨15, _, Nat.le_refl _, rfl, HFS.out⟩
            case round =>
              obtain ⟨q, u, hq, rfl, hF⟩ := hrel
              obtain ⟨L, hL⟩ : ∃ L, L = (bits15 (row / 2)).take (15 - q) := ⟨_, rfl⟩
              rw [← hL] at hF
              have hLl : L.length ≤ 15 := by rw [hL, List.length_take]; omega
              have HLL := Lib.hid hL
              clear hL
              obtain ⟨pu, cu, rfl⟩ := own_shape hF.own
              have HF := Lib.hid hF
              clear hF
              by_cases hq0 : 0 < q
              · have hqi : (0 : Int) < (q : Int) := by omega
                have HBS : Hid ((bits15 (row / 2)).take (15 - (q - 1)) = L ++ [bits .and .u16 ((row : Int) / 2 ^ q) 1 == 1]) := Lib.hid (by rw [HLL.out]; exact bits_step row q hr hq0 hq)
                have hc2 := HF.out.c0
                have hc3 : ∀ b, (wr.alloc (.cells #[.bool b] 4)).cell? _ = _ := fun b => (((Below.refl wr.heap.size wr).alloc (Nat.le_refl _) (.cells #[.bool b] 4)).cell (block_lt_of_cell hc2)).trans hc2
                have HWA : ∀ b, Hid (Below wr.heap.size wr (wr.alloc (.cells #[.bool b] 4)).drew) := fun b => Lib.hid (((Below.refl _ _).alloc (Nat.le_refl _) _).trans ⟨rfl, rfl, rfl, Nat.le_refl _, fun _ _ => rfl⟩)
                go_wp2_with fail
                go_region_law (refine step_appK 32 4 i4 (.bool false) 1 1 Try.underlying32 HI4.out.1 HI4.out.2.1 HI4.out.2.2.1 HI4.out.2.2.2 rfl (by decide) (by decide) rfl (.tmp 160) (.tmp 166) rfl _ (.slice pu L.length cu) (.slice (some ⟨wr.heap.size, 0, none⟩) 1 1) L.length 1 (nb L) [.bool _] rfl rfl (one_bool _) (HF.out.own.alloc _).drew (SlK_bool wr _) (Nat.le_trans HF.out.below.size (by simp)) (by omega) ?_; intro v' w6 hown hgrow _; obtain ⟨e1, f1, hF3⟩ := HF.out.app _ (HWA _).out hown hgrow; obtain ⟨p6, cap6, hv'⟩ := own_shape hown; have HF3 := Lib.hid hF3; clear hF3 hown hgrow; subst hv')
                all_goals go_wp2_with fail
                all_goals exact ⟨⟨q - 1, _, by omega, by go_num, by rw [HBS.out]; exact HF3.out⟩, by simp [intOf]; omega⟩
              · obtain rfl : q = 0 := by omega
                have hLb : L = bits15 (row / 2) := by rw [HLL.out]; exact List.take_of_length_le (by rw [bits15_length]; omega)
                clear HLL
                subst hLb
                have hlen : (bits15 (row / 2)).length = 15 := bits15_length _
                have hfd := HF.out.feed (by omega)
                rw [hlen] at hfd
                have HFD := Lib.hid hfd
                have hbl := HF.out.below
                have HB := Lib.hid (bt HB.out hbl)
                have HBK := Lib.hid (HBK.out.only (OnlyS.of_below (S := fun _ => False) hbl) (fun _ _ _ h => h))
                have HVB : Hid (∀ p n cap, Value.slice pu (bits15 (row / 2)).length cu = .slice (some p) n cap → 0 < n → p.block < wr.heap.size) := Lib.hid HF.out.lt
                rw [hlen] at HVB
                have HCS := Lib.hid (hbl.cell (p := ⟨g5, o5 + s, none⟩) (block_lt_of_cell HCS.out) |>.trans HCS.out)
                have HLO2 : Hid (wn.heap.size ≤ wr.heap.size) := Lib.hid (by have h := hbl.size; rw [HGF.out] at h; exact Nat.le_trans HLO.out h)
                clear hbl hfd HF HFS hlen
                go_wp2_with fail
                refine (Next_walk _ _ _ _ _ _ _ _ 0 HBK.out (deep_15 (fz_good bs)) HFD.out (.inr HLO.out) HLO2.out HVB.out (fz_good bs).1).mono ?_
                rintro e wt ⟨rfl, hft, hon⟩
                rw [List.drop_zero, HRD.out] at hft ⊢
                dsimp only at hft ⊢
                have HB := Lib.hid (HB.out.trans (hon.below HB.out.size (fun k e => by rw [e]; exact HWS.out)))
                have hz := getD_good (fz_good bs) s
                have hcs := hon.cell HCS.out (by have := HG5.out; simp only; omega)
                have hc1 := hft.c1
                generalize (fz bs).getD s 0 = z at hcs hc1 hz
                rw [show ((0 + z.toNat : Nat) : Int) = z by omega] at hc1
                clear hft hon HFD HVB HBK HCS HRD hz
                have hsi : (s : Int) < (i : Int) := by have := HHIT.out.1; omega
                have hcp := HCP.out
                have hc1d : wt.drew.cell? ⟨gf, 1, none⟩ = some (.int .i64 z) := hc1
                have hcsd : wt.drew.cell? ⟨g5, o5 + s, none⟩ = some (.int .i64 z) := hcs
                have HBd : Hid (Below w.heap.size w wt.drew) := Lib.hid (Below.drew' HB.out)
                go_wp2_with fail
                go_region_held3 (fun w' => w'.cell? ⟨gf, 1, none⟩ = some (.int .i64 z) ∧ w'.cell? ⟨g5, o5 + s, none⟩ = some (.int .i64 z))
                  (first | go_keep | (refine ⟨?_, ?_⟩ <;> assumption))
                  (first | (go_at_call 14; refine (tells_walk _).mono ?_; rintro e wo ⟨rfl, hBo⟩; have z1 : wo.cell? ⟨gf, 1, none⟩ = some (.int .i64 z) := (hBo.cell (block_lt_of_cell hc1d)).trans hc1d; have z2 : wo.cell? ⟨g5, o5 + s, none⟩ = some (.int .i64 z) := (hBo.cell (block_lt_of_cell hcsd)).trans hcsd; have HBo := Lib.hid (bt HBd.out hBo); clear hBo))
                all_goals go_wp2_with fail
                all_goals go_ret
                all_goals exact ⟨rfl, HBo.out⟩
      · go_wp2_with fail
        refine (state_good _ _ _ 0 HSL.out (fz_good bs) HST.out).mono ?_
        rintro e ws ⟨rfl, hBs⟩
        have HB := Lib.hid (bt HB.out hBs)
        have HSL := Lib.hid (HSL.out.below hBs (Nat.le_refl _))
        clear hBs
        go_wp2_with fail
        refine (new_good _ _ _ HSL.out HMAY.out).mono ?_
        rintro e wn ⟨gn, rfl, hBK, hBn⟩
        have HB := Lib.hid (bt HB.out hBn)
        have HSL := Lib.hid (HSL.out.below hBn (Nat.le_refl _))
        have HBK := Lib.hid hBK
        clear hBn hBK
        go_wp2_with fail
        refine (codes_good _ _ _ HSL.out (fz_good bs) (by rw [HST.out]; decide)).mono ?_
        rintro e wc ⟨uc, rfl, hO, hBc⟩
        rw [← HK.out] at hO
        obtain ⟨pc, cc, rfl⟩ := own_shape hO
        have HB := Lib.hid (bt HB.out hBc)
        have HSL := Lib.hid (HSL.out.below hBc (Nat.le_refl _))
        have HBK := Lib.hid (HBK.out.only (OnlyS.of_below (S := fun _ => False) hBc) (fun _ _ _ h => h))
        have HCD := Lib.hid (own_toV hO)
        have HNC : Hid (wn.heap.size ≤ wc.heap.size) := Lib.hid hBc.size
        clear hBc hO
        go_wp2_with fail
        go_loopw [13, 14, 15] (fun v13 v14 v15 wz => ∃ i b s : Nat, i ≤ k ∧ v15 = .int .i64 i ∧ v13 = .int .i64 b ∧ v14 = .int .i64 s ∧ HitSt (fz bs) (row / 2) i b s ∧ Below wc.heap.size wc wz) (fun _ _ v _ => k - (intOf v).toNat)
        case atStart => exact ⟨0, 0, 0, Nat.zero_le _, rfl, rfl, rfl, .inl ⟨rfl, rfl, fun j hj => by omega⟩, Below.refl _ _⟩
        case round =>
          obtain ⟨i, b, s, hik, rfl, rfl, rfl, hst, hBL⟩ := hrel
          have HH := Lib.hid hst
          have HBL := Lib.hid hBL
          clear hst hBL
          by_cases hil : i < k
          · have hili : (i : Int) < (k : Int) := by omega
            obtain ⟨g5, o5, rfl, hrow5⟩ := (HSL.out.below HBL.out (Nat.le_refl _)).some (by omega)
            obtain ⟨g11, o11, rfl, hrow11⟩ := (HCD.out.below HBL.out (Nat.le_refl _)).some (by omega)
            have hcap5 := HSL.out.le
            have hcap11 := HCD.out.le
            have hiz : i < (fz bs).length := by rw [← HK.out]; exact hil
            have hc5 := hrow5.ni i hiz
            have hc11 := hrow11.nu i (by rw [codes_length]; exact hiz)
            rw [codes_getD _ _ hiz] at hc11
            clear hrow5 hrow11
            have hzg := getD_good (fz_good bs) i
            have HD : Hid (hit (fz bs) (row / 2) i ↔ 0 < (fz bs).getD i 0 ∧ row / 2 / 2 ^ (15 - ((fz bs).getD i 0).toNat) = code (fz bs) i) := Lib.hid Iff.rfl
            obtain ⟨z, hz⟩ : ∃ z, z = (fz bs).getD i 0 := ⟨_, rfl⟩
            obtain ⟨c, hcc⟩ : ∃ c, c = code (fz bs) i := ⟨_, rfl⟩
            rw [← hz] at hc5 hzg HD
            rw [← hcc] at hc11 HD
            clear hz hcc hiz
            by_cases hz0 : 0 < z
            · have HE := Lib.hid (shr_eq row c z ⟨hz0, hzg.2⟩)
              by_cases hh : row / 2 / 2 ^ (15 - z.toNat) = c
              · have heq : ((row : Int) / 2 / 2 ^ (15 - z).toNat == (c : Int)) = true := by rw [HE.out]; exact decide_eq_true hh
                have HH2 := Lib.hid (HH.out.more (fz_good bs) (HD.out.2 ⟨hz0, hh⟩))
                have hb1 : b ≤ 1 := by rcases HH.out with ⟨h, _⟩ | ⟨h, _⟩ <;> omega
                clear HH HD HE
                go_wp2_with fail
                go_quiet (fail)
                have HBL := Lib.hid (below_drewN HBL.out nq)
                clear hc5 hc11
                generalize wr.drewN nq = wx at *
                go_wp2_with fail
                exact ⟨⟨i + 1, b + 1, i, by omega, by go_num, by go_num, rfl, HH2.out, HBL.out⟩, by simp [intOf]; omega⟩
              · have heq : ((row : Int) / 2 / 2 ^ (15 - z).toNat == (c : Int)) = false := by rw [HE.out]; exact decide_eq_false hh
                have HH2 := Lib.hid (HH.out.miss (fun h => hh (HD.out.1 h).2))
                clear HH HD HE
                go_wp2_with fail
                go_quiet (fail)
                have HBL := Lib.hid (below_drewN HBL.out nq)
                clear hc5 hc11
                generalize wr.drewN nq = wx at *
                go_wp2_with fail
                exact ⟨⟨i + 1, b, s, by omega, by go_num, rfl, rfl, HH2.out, HBL.out⟩, by simp [intOf]; omega⟩
            · have hz1 : z = 0 := by omega
              subst hz1
              have HH2 := Lib.hid (HH.out.miss (fun h => absurd (HD.out.1 h).1 (by decide)))
              clear HH HD
              go_wp2_with fail
              go_quiet (fail)
              have HBL := Lib.hid (below_drewN HBL.out nq)
              clear hc5 hc11
              generalize wr.drewN nq = wx at *
              go_wp2_with fail
              exact ⟨⟨i + 1, b, s, by omega, by go_num, rfl, rfl, HH2.out, HBL.out⟩, by simp [intOf]; omega⟩
          · obtain rfl : i = k := by omega
            rcases HH.out with ⟨_, _, h3⟩ | ⟨rfl, hsk, hhit⟩
            · exfalso
              obtain ⟨j, hj, hjh⟩ := hit_full (fz_good bs) (row / 2) (by have := full_kr HST.out; omega)
              exact h3 j (by rw [HK.out]; exact hj) hjh
            have HHIT := Lib.hid (And.intro hsk hhit)
            rw [show ((1 : Nat) : Int) = 1 from rfl]
            clear HH hsk hhit
            have HB := Lib.hid (bt HB.out HBL.out)
            have HSL := Lib.hid (HSL.out.below HBL.out (Nat.le_refl _))
            have HBK := Lib.hid (HBK.out.only (OnlyS.of_below (S := fun _ => False) HBL.out) (fun _ _ _ h => h))
            have HLO : Hid (wn.heap.size ≤ wr.heap.size) := Lib.hid (Nat.le_trans HNC.out HBL.out.size)
            have HWS : Hid (w.heap.size ≤ wr.heap.size) := Lib.hid HB.out.size
            clear HCD HBL HNC
            have HRD := Lib.hid (read_is (fz_good bs) (row / 2) s hr2 HHIT.out.2)
            obtain ⟨g5, o5, rfl, hrow5⟩ := HSL.out.some (by have := HHIT.out.1; omega)
            have HCP := Lib.hid HSL.out.le
            have HG5 : Hid (g5 < wr.heap.size) := Lib.hid (hrow5.lt (by rw [ni_length]; have := HHIT.out.1; have := HK.out; omega))
            have HCS := Lib.hid (hrow5.ni s (by rw [← HK.out]; exact HHIT.out.1))
            clear hrow5
            go_wp2_with fail
            have HFS := Lib.hid (FB.start wr)
            generalize hgf : wr.heap.size = gf at *
            have HGF := Lib.hid hgf
            clear hgf
            go_loopw [17] (fun v17 wy => ∃ (q : Nat) (u : Value), q ≤ 15 ∧ v17 = .int .i64 q ∧ FB wr wy gf u ((bits15 (row / 2)).take (15 - q))) (fun v _ => (intOf v).toNat)
            case atStart => exact ⟨15, _, Nat.le_refl _, rfl, HFS.out⟩
            case round =>
              obtain ⟨q, u, hq, rfl, hF⟩ := hrel
              obtain ⟨L, hL⟩ : ∃ L, L = (bits15 (row / 2)).take (15 - q) := ⟨_, rfl⟩
              rw [← hL] at hF
              have hLl : L.length ≤ 15 := by rw [hL, List.length_take]; omega
              have HLL := Lib.hid hL
              clear hL
              obtain ⟨pu, cu, rfl⟩ := own_shape hF.own
              have HF := Lib.hid hF
              clear hF
              by_cases hq0 : 0 < q
              · have hqi : (0 : Int) < (q : Int) := by omega
                have HBS : Hid ((bits15 (row / 2)).take (15 - (q - 1)) = L ++ [bits .and .u16 ((row : Int) / 2 ^ q) 1 == 1]) := Lib.hid (by rw [HLL.out]; exact bits_step row q hr hq0 hq)
                have hc2 := HF.out.c0
                have hc3 : ∀ b, (wr.alloc (.cells #[.bool b] 4)).cell? _ = _ := fun b => (((Below.refl wr.heap.size wr).alloc (Nat.le_refl _) (.cells #[.bool b] 4)).cell (block_lt_of_cell hc2)).trans hc2
                have HWA : ∀ b, Hid (Below wr.heap.size wr (wr.alloc (.cells #[.bool b] 4)).drew) := fun b => Lib.hid (((Below.refl _ _).alloc (Nat.le_refl _) _).trans ⟨rfl, rfl, rfl, Nat.le_refl _, fun _ _ => rfl⟩)
                go_wp2_with fail
                go_region_law (refine step_appK 32 4 i4 (.bool false) 1 1 Try.underlying32 HI4.out.1 HI4.out.2.1 HI4.out.2.2.1 HI4.out.2.2.2 rfl (by decide) (by decide) rfl (.tmp 160) (.tmp 166) rfl _ (.slice pu L.length cu) (.slice (some ⟨wr.heap.size, 0, none⟩) 1 1) L.length 1 (nb L) [.bool _] rfl rfl (one_bool _) (HF.out.own.alloc _).drew (SlK_bool wr _) (Nat.le_trans HF.out.below.size (by simp)) (by omega) ?_; intro v' w6 hown hgrow _; obtain ⟨e1, f1, hF3⟩ := HF.out.app _ (HWA _).out hown hgrow; obtain ⟨p6, cap6, hv'⟩ := own_shape hown; have HF3 := Lib.hid hF3; clear hF3 hown hgrow; subst hv')
                all_goals go_wp2_with fail
                all_goals exact ⟨⟨q - 1, _, by omega, by go_num, by rw [HBS.out]; exact HF3.out⟩, by simp [intOf]; omega⟩
              · obtain rfl : q = 0 := by omega
                have hLb : L = bits15 (row / 2) := by rw [HLL.out]; exact List.take_of_length_le (by rw [bits15_length]; omega)
                clear HLL
                subst hLb
                have hlen : (bits15 (row / 2)).length = 15 := bits15_length _
                have hfd := HF.out.feed (by omega)
                rw [hlen] at hfd
                have HFD := Lib.hid hfd
                have hbl := HF.out.below
                have HB := Lib.hid (bt HB.out hbl)
                have HBK := Lib.hid (HBK.out.only (OnlyS.of_below (S := fun _ => False) hbl) (fun _ _ _ h => h))
                have HVB : Hid (∀ p n cap, Value.slice pu (bits15 (row / 2)).length cu = .slice (some p) n cap → 0 < n → p.block < wr.heap.size) := Lib.hid HF.out.lt
                rw [hlen] at HVB
                have HCS := Lib.hid (hbl.cell (p := ⟨g5, o5 + s, none⟩) (block_lt_of_cell HCS.out) |>.trans HCS.out)
                have HLO2 : Hid (wn.heap.size ≤ wr.heap.size) := Lib.hid (by have h := hbl.size; rw [HGF.out] at h; exact Nat.le_trans HLO.out h)
                clear hbl hfd HF HFS hlen
                go_wp2_with fail
                refine (Next_walk _ _ _ _ _ _ _ _ 0 HBK.out (deep_15 (fz_good bs)) HFD.out (.inr HLO.out) HLO2.out HVB.out (fz_good bs).1).mono ?_
                rintro e wt ⟨rfl, hft, hon⟩
                rw [List.drop_zero, HRD.out] at hft ⊢
                dsimp only at hft ⊢
                have HB := Lib.hid (HB.out.trans (hon.below HB.out.size (fun k e => by rw [e]; exact HWS.out)))
                have hz := getD_good (fz_good bs) s
                have hcs := hon.cell HCS.out (by have := HG5.out; simp only; omega)
                have hc1 := hft.c1
                generalize (fz bs).getD s 0 = z at hcs hc1 hz
                rw [show ((0 + z.toNat : Nat) : Int) = z by omega] at hc1
                clear hft hon HFD HVB HBK HCS HRD hz
                have hsi : (s : Int) < (i : Int) := by have := HHIT.out.1; omega
                have hcp := HCP.out
                have hc1d : wt.drew.cell? ⟨gf, 1, none⟩ = some (.int .i64 z) := hc1
                have hcsd : wt.drew.cell? ⟨g5, o5 + s, none⟩ = some (.int .i64 z) := hcs
                have HBd : Hid (Below w.heap.size w wt.drew) := Lib.hid (Below.drew' HB.out)
                go_wp2_with fail
                go_region_held3 (fun w' => w'.cell? ⟨gf, 1, none⟩ = some (.int .i64 z) ∧ w'.cell? ⟨g5, o5 + s, none⟩ = some (.int .i64 z))
                  (first | go_keep | (refine ⟨?_, ?_⟩ <;> assumption))
                  (first | (go_at_call 14; refine (tells_walk _).mono ?_; rintro e wo ⟨rfl, hBo⟩; have z1 : wo.cell? ⟨gf, 1, none⟩ = some (.int .i64 z) := (hBo.cell (block_lt_of_cell hc1d)).trans hc1d; have z2 : wo.cell? ⟨g5, o5 + s, none⟩ = some (.int .i64 z) := (hBo.cell (block_lt_of_cell hcsd)).trans hcsd; have HBo := Lib.hid (bt HBd.out hBo); clear hBo))
                all_goals go_wp2_with fail
                all_goals go_ret
                all_goals exact ⟨rfl, HBo.out⟩
end Go.Proofs.Ytoifppfhnedahaa
