/-
  HuffFull: lengths that are want.
-/
import Derived.Test.YtoifppfhnedahaaFullKit
namespace Go.Proofs.Ytoifppfhnedahaa
open Go.RowKit Hf
set_option maxRecDepth 100000 in
set_option maxHeartbeats 4000000 in
theorem full_want (w : World) (v : Value) (bs : List Int) (row : Nat) (hv : SlV w v (n8 bs)) (hb : ∀ z ∈ bs, 0 ≤ z ∧ z < 256) (hr : row < 65536) (hs : st (fz bs) = -1) (hn : Hf.lone (fz bs) = false) :
    Calls Try.prog 7 #[v, .int .u16 (row : Int)] w fun e w' => e = .returned (.bool true) ∧ Below w.heap.size w w' := by
  have hmf : ∀ (fn : Fn) (first cap : Array Value) (w : World), (Instr.makeFunc fn first cap).run Try.prog w = .ok (.func fn first cap) w := fun _ _ _ _ => rfl
  obtain ⟨i0, hi, hz0, hz1, hz2⟩ := info_parts info3
  have HI0 := Lib.hid (And.intro hi (And.intro hz0 (And.intro hz1 hz2)))
  clear hi hz0 hz1 hz2
  obtain ⟨p, cap, rfl⟩ := hv.shape
  rw [n8_length] at *
  obtain ⟨l, hl0⟩ : ∃ l, l = bs.length := ⟨_, rfl⟩
  rw [← hl0] at hv ⊢
  have HN := Lib.hid hl0
  have HV := Lib.hid hv
  have HBY := Lib.hid hb
  clear hl0 hv hb
  have HST := Lib.hid hs
  have HMAY : Hid (may (fz bs) = 20) := Lib.hid (by unfold may; rw [if_pos (fz_good bs), if_neg (by rintro (h | h) <;> simp_all)])
  clear hs hn
  go_enter Try.func7, Try.ntmps7
  go_wp2_with fail
  go_loopw [5, 6] (fun v5 v wr => ∃ k : Nat, k ≤ l ∧ k ≤ 60 ∧ v = .int .i64 k ∧ wr.ownsRow w.heap.size 3 1 v5 k (ni ((fz bs).take k)) ∧ Below w.heap.size w wr) (fun _ v _ => 60 - (intOf v).toNat)
  case atStart => exact ⟨0, Nat.zero_le _, Nat.zero_le _, rfl, World.ownsRow_nil _ _ _ _, Below.refl _ _⟩
  case round =>
    obtain ⟨k, hk, hk6, rfl, hO, hB⟩ := hrel
    obtain ⟨p5, cap5, rfl⟩ := own_shape hO
    have HO := Lib.hid hO
    have HB := Lib.hid hB
    have hsz : w.heap.size ≤ wr.heap.size := hB.size
    clear hO hB
    by_cases hlt : k < l ∧ k < 60
    · obtain ⟨hlt, hl6⟩ := hlt
      have h1 : (k : Int) < (l : Int) := by omega
      have h2 : (k : Int) < 60 := by omega
      obtain ⟨g, o, rfl, hrow⟩ := (HV.out.below HB.out (Nat.le_refl _)).some (by omega)
      have hcap := HV.out.le
      have hkb : k < bs.length := by rw [← HN.out]; exact hlt
      have hc := hrow.n8 k hkb
      have hzb := HBY.out (bs.getD k 0) (by rw [List.getD_eq_getElem?_getD, List.getElem?_eq_getElem hkb]; exact List.getElem_mem hkb)
      have HP := Lib.hid (fz_step bs k hkb hl6)
      clear hrow hkb
      generalize bs.getD k 0 = z at hc hzb HP
      go_wp2_with (refine wpList_appK 22 3 i0 (.int .i64 0) 1 8 Try.underlying22 HI0.out.1 HI0.out.2.1 HI0.out.2.2.1 HI0.out.2.2.2 rfl (by decide) (by decide) rfl _ _ rfl w.heap.size (.slice p5 k cap5) (.slice (some ⟨wr.heap.size, 0, none⟩) 1 1) k 1 _ [.int .i64 (z % 16)] rfl rfl (one_int _) (HO.out.alloc _) (SlK_new wr _) (by simp; omega) (by omega) ?_; intro v' w9 hown hgrow _; obtain ⟨p9, cap9, hv'⟩ := own_shape hown; have HOW := Lib.hid hown; have HGR := Lib.hid hgrow; clear hown hgrow; subst hv')
      refine ⟨⟨k + 1, by omega, by omega, by go_num, ?_, ((HB.out.alloc HB.out.size _).grown HGR.out (by simp; omega) (fun k e => (HO.out.lt k e).1))⟩, by simp [intOf]; omega⟩
      rw [HP.out, ni_append]
      exact HOW.out
    · have hkz : k = (fz bs).length := by rw [fz_length, ← HN.out]; omega
      have hSL : SlV wr (.slice p5 k cap5) (ni (fz bs)) := by
        have := own_toV HO.out
        have e : (fz bs).take k = fz bs := by rw [hkz, List.take_length]
        rwa [e] at this
      have HK := Lib.hid hkz
      have HSL := Lib.hid hSL
      clear hkz hSL HO
      rcases exits hlt with ⟨h1, h2⟩ | h1 <;> clear hlt
      · go_wp2_with fail
        refine (state_good _ _ _ (-1) HSL.out (fz_good bs) HST.out).mono ?_
        rintro e ws ⟨rfl, hBs⟩
        have HB := Lib.hid (bt HB.out hBs)
        have HSL := Lib.hid (HSL.out.below hBs (Nat.le_refl _))
        clear hBs
        go_wp2_with fail
        refine (new_bad _ _ _ 20 HSL.out HMAY.out (by decide)).mono ?_
        rintro e wn ⟨rfl, hBn⟩
        have HB := Lib.hid (bt HB.out hBn)
        have HSL := Lib.hid (HSL.out.below hBn (Nat.le_refl _))
        clear hBn
        go_wp2_with fail
        refine (codes_good _ _ _ HSL.out (fz_good bs) (by rw [HST.out]; decide)).mono ?_
        rintro e wc ⟨uc, rfl, hO, hBc⟩
        rw [← HK.out] at hO
        obtain ⟨pc, cc, rfl⟩ := own_shape hO
        have HB := Lib.hid (bt HB.out hBc)
        have HSL := Lib.hid (HSL.out.below hBc (Nat.le_refl _))
        have HCD := Lib.hid (own_toV hO)
        clear hBc hO
        go_wp2_with fail
        go_loopw [13, 14, 15] (fun v13 v14 v15 wz => ∃ i b s : Nat, i ≤ k ∧ v15 = .int .i64 i ∧ v13 = .int .i64 b ∧ v14 = .int .i64 s ∧ HitSt (fz bs) (row / 2) i b s ∧ Below wc.heap.size wc wz) (fun _ _ v _ => k - (intOf v).toNat)
        case atStart => exact ⟨0, 0, 0, Nat.zero_le _, rfl, rfl, rfl, .inl ⟨rfl, rfl, fun j hj => by omega⟩, Below.refl _ _⟩
        case round =>
          obtain ⟨i, b, s, hik, rfl, rfl, rfl, hst, hBL⟩ := hrel
          have HH := Lib.hid hst
          have HBL := Lib.hid hBL
          clear hst hBL
          by_cases hil : i < k
          · have hili : (i : Int) < (k : Int) := by omega
            obtain ⟨g5, o5, rfl, hrow5⟩ := (HSL.out.below HBL.out (Nat.le_refl _)).some (by omega)
            obtain ⟨g11, o11, rfl, hrow11⟩ := (HCD.out.below HBL.out (Nat.le_refl _)).some (by omega)
            have hcap5 := HSL.out.le
            have hcap11 := HCD.out.le
            have hiz : i < (fz bs).length := by rw [← HK.out]; exact hil
            have hc5 := hrow5.ni i hiz
            have hc11 := hrow11.nu i (by rw [codes_length]; exact hiz)
            rw [codes_getD _ _ hiz] at hc11
            clear hrow5 hrow11
            have hzg := getD_good (fz_good bs) i
            have HD : Hid (hit (fz bs) (row / 2) i ↔ 0 < (fz bs).getD i 0 ∧ row / 2 / 2 ^ (15 - ((fz bs).getD i 0).toNat) = code (fz bs) i) := Lib.hid Iff.rfl
            obtain ⟨z, hz⟩ : ∃ z, z = (fz bs).getD i 0 := ⟨_, rfl⟩
            obtain ⟨c, hcc⟩ : ∃ c, c = code (fz bs) i := ⟨_, rfl⟩
            rw [← hz] at hc5 hzg HD
            rw [← hcc] at hc11 HD
            clear hz hcc hiz
            by_cases hz0 : 0 < z
            · have HE := Lib.hid (shr_eq row c z ⟨hz0, hzg.2⟩)
              by_cases hh : row / 2 / 2 ^ (15 - z.toNat) = c
              · have heq : ((row : Int) / 2 / 2 ^ (15 - z).toNat == (c : Int)) = true := by rw [HE.out]; exact decide_eq_true hh
                have HH2 := Lib.hid (HH.out.more (fz_good bs) (HD.out.2 ⟨hz0, hh⟩))
                have hb1 : b ≤ 1 := by rcases HH.out with ⟨h, _⟩ | ⟨h, _⟩ <;> omega
                clear HH HD HE
                go_wp2_with fail
                go_quiet (fail)
                have HBL := Lib.hid (below_drewN HBL.out nq)
                clear hc5 hc11
                generalize wr.drewN nq = wx at *
                go_wp2_with fail
                exact ⟨⟨i + 1, b + 1, i, by omega, by go_num, by go_num, rfl, HH2.out, HBL.out⟩, by simp [intOf]; omega⟩
              · have heq : ((row : Int) / 2 / 2 ^ (15 - z).toNat == (c : Int)) = false := by rw [HE.out]; exact decide_eq_false hh
                have HH2 := Lib.hid (HH.out.miss (fun h => hh (HD.out.1 h).2))
                clear HH HD HE
                go_wp2_with fail
                go_quiet (fail)
                have HBL := Lib.hid (below_drewN HBL.out nq)
                clear hc5 hc11
                generalize wr.drewN nq = wx at *
                go_wp2_with fail
                exact ⟨⟨i + 1, b, s, by omega, by go_num, rfl, rfl, HH2.out, HBL.out⟩, by simp [intOf]; omega⟩
            · have hz1 : z = 0 := by omega
              subst hz1
              have HH2 := Lib.hid (HH.out.miss (fun h => absurd (HD.out.1 h).1 (by decide)))
              clear HH HD
              go_wp2_with fail
              go_quiet (fail)
              have HBL := Lib.hid (below_drewN HBL.out nq)
              clear hc5 hc11
              generalize wr.drewN nq = wx at *
              go_wp2_with fail
              exact ⟨⟨i + 1, b, s, by omega, by go_num, rfl, rfl, HH2.out, HBL.out⟩, by simp [intOf]; omega⟩
          · obtain rfl : i = k := by omega
            rcases HH.out with ⟨rfl, rfl, h3⟩ | ⟨rfl, hsk, hhit⟩
            · clear HH h3
              rw [show ((0 : Nat) : Int) = 0 from rfl]
              have HB := Lib.hid (bt HB.out HBL.out)
              clear HCD HBL
              go_wp2_with fail
              refine (tells_walk _).mono ?_
              rintro e wo ⟨rfl, hBo⟩
              have HBo := Lib.hid (bt HB.out hBo)
              clear hBo
              go_wp2_with fail
              go_ret
              exact ⟨rfl, HBo.out⟩
            · clear HH hsk hhit
              rw [show ((1 : Nat) : Int) = 1 from rfl]
              have HB := Lib.hid (bt HB.out HBL.out)
              clear HCD HBL
              go_wp2_with fail
              refine (tells_walk _).mono ?_
              rintro e wo ⟨rfl, hBo⟩
              have HBo := Lib.hid (bt HB.out hBo)
              clear hBo
              go_wp2_with fail
              go_ret
              exact ⟨rfl, HBo.out⟩
      · go_wp2_with fail
        refine (state_good _ _ _ (-1) HSL.out (fz_good bs) HST.out).mono ?_
        rintro e ws ⟨rfl, hBs⟩
        have HB := Lib.hid (bt HB.out hBs)
        have HSL := Lib.hid (HSL.out.below hBs (Nat.le_refl _))
        clear hBs
        go_wp2_with fail
        refine (new_bad _ _ _ 20 HSL.out HMAY.out (by decide)).mono ?_
        rintro e wn ⟨rfl, hBn⟩
        have HB := Lib.hid (bt HB.out hBn)
        have HSL := Lib.hid (HSL.out.below hBn (Nat.le_refl _))
        clear hBn
        go_wp2_with fail
        refine (codes_good _ _ _ HSL.out (fz_good bs) (by rw [HST.out]; decide)).mono ?_
        rintro e wc ⟨uc, rfl, hO, hBc⟩
        rw [← HK.out] at hO
        obtain ⟨pc, cc, rfl⟩ := own_shape hO
        have HB := Lib.hid (bt HB.out hBc)
        have HSL := Lib.hid (HSL.out.below hBc (Nat.le_refl _))
        have HCD := Lib.hid (own_toV hO)
        clear hBc hO
        go_wp2_with fail
        go_loopw [13, 14, 15] (fun v13 v14 v15 wz => ∃ i b s : Nat, i ≤ k ∧ v15 = .int .i64 i ∧ v13 = .int .i64 b ∧ v14 = .int .i64 s ∧ HitSt (fz bs) (row / 2) i b s ∧ Below wc.heap.size wc wz) (fun _ _ v _ => k - (intOf v).toNat)
        case atStart => exact ⟨0, 0, 0, Nat.zero_le _, rfl, rfl, rfl, .inl ⟨rfl, rfl, fun j hj => by omega⟩, Below.refl _ _⟩
        case round =>
          obtain ⟨i, b, s, hik, rfl, rfl, rfl, hst, hBL⟩ := hrel
          have HH := Lib.hid hst
          have HBL := Lib.hid hBL
          clear hst hBL
          by_cases hil : i < k
          · have hili : (i : Int) < (k : Int) := by omega
            obtain ⟨g5, o5, rfl, hrow5⟩ := (HSL.out.below HBL.out (Nat.le_refl _)).some (by omega)
            obtain ⟨g11, o11, rfl, hrow11⟩ := (HCD.out.below HBL.out (Nat.le_refl _)).some (by omega)
            have hcap5 := HSL.out.le
            have hcap11 := HCD.out.le
            have hiz : i < (fz bs).length := by rw [← HK.out]; exact hil
            have hc5 := hrow5.ni i hiz
            have hc11 := hrow11.nu i (by rw [codes_length]; exact hiz)
            rw [codes_getD _ _ hiz] at hc11
            clear hrow5 hrow11
            have hzg := getD_good (fz_good bs) i
            have HD : Hid (hit (fz bs) (row / 2) i ↔ 0 < (fz bs).getD i 0 ∧ row / 2 / 2 ^ (15 - ((fz bs).getD i 0).toNat) = code (fz bs) i) := Lib.hid Iff.rfl
            obtain ⟨z, hz⟩ : ∃ z, z = (fz bs).getD i 0 := ⟨_, rfl⟩
            obtain ⟨c, hcc⟩ : ∃ c, c = code (fz bs) i := ⟨_, rfl⟩
            rw [← hz] at hc5 hzg HD
            rw [← hcc] at hc11 HD
            clear hz hcc hiz
            by_cases hz0 : 0 < z
            · have HE := Lib.hid (shr_eq row c z ⟨hz0, hzg.2⟩)
              by_cases hh : row / 2 / 2 ^ (15 - z.toNat) = c
              · have heq : ((row : Int) / 2 / 2 ^ (15 - z).toNat == (c : Int)) = true := by rw [HE.out]; exact decide_eq_true hh
                have HH2 := Lib.hid (HH.out.more (fz_good bs) (HD.out.2 ⟨hz0, hh⟩))
                have hb1 : b ≤ 1 := by rcases HH.out with ⟨h, _⟩ | ⟨h, _⟩ <;> omega
                clear HH HD HE
                go_wp2_with fail
                go_quiet (fail)
                have HBL := Lib.hid (below_drewN HBL.out nq)
                clear hc5 hc11
                generalize wr.drewN nq = wx at *
                go_wp2_with fail
                exact ⟨⟨i + 1, b + 1, i, by omega, by go_num, by go_num, rfl, HH2.out, HBL.out⟩, by simp [intOf]; omega⟩
              · have heq : ((row : Int) / 2 / 2 ^ (15 - z).toNat == (c : Int)) = false := by rw [HE.out]; exact decide_eq_false hh
                have HH2 := Lib.hid (HH.out.miss (fun h => hh (HD.out.1 h).2))
                clear HH HD HE
                go_wp2_with fail
                go_quiet (fail)
                have HBL := Lib.hid (below_drewN HBL.out nq)
                clear hc5 hc11
                generalize wr.drewN nq = wx at *
                go_wp2_with fail
                exact ⟨⟨i + 1, b, s, by omega, by go_num, rfl, rfl, HH2.out, HBL.out⟩, by simp [intOf]; omega⟩
            · have hz1 : z = 0 := by omega
              subst hz1
              have HH2 := Lib.hid (HH.out.miss (fun h => absurd (HD.out.1 h).1 (by decide)))
              clear HH HD
              go_wp2_with fail
              go_quiet (fail)
              have HBL := Lib.hid (below_drewN HBL.out nq)
              clear hc5 hc11
              generalize wr.drewN nq = wx at *
              go_wp2_with fail
              exact ⟨⟨i + 1, b, s, by omega, by go_num, rfl, rfl, HH2.out, HBL.out⟩, by simp [intOf]; omega⟩
          · obtain rfl : i = k := by omega
            rcases HH.out with ⟨rfl, rfl, h3⟩ | ⟨rfl, hsk, hhit⟩
            · clear HH h3
              rw [show ((0 : Nat) : Int) = 0 from rfl]
              have HB := Lib.hid (bt HB.out HBL.out)
              clear HCD HBL
              go_wp2_with fail
              refine (tells_walk _).mono ?_
              rintro e wo ⟨rfl, hBo⟩
              have HBo := Lib.hid (bt HB.out hBo)
              clear hBo
              go_wp2_with fail
              go_ret
              exact ⟨rfl, HBo.out⟩
            · clear HH hsk hhit
              rw [show ((1 : Nat) : Int) = 1 from rfl]
              have HB := Lib.hid (bt HB.out HBL.out)
              clear HCD HBL
              go_wp2_with fail
              refine (tells_walk _).mono ?_
              rintro e wo ⟨rfl, hBo⟩
              have HBo := Lib.hid (bt HB.out hBo)
              clear hBo
              go_wp2_with fail
              go_ret
              exact ⟨rfl, HBo.out⟩
end Go.Proofs.Ytoifppfhnedahaa
