/-
  Merged, in the order in which they build: Wrx.
-/
import Derived.Test.YtefeilgbofphjaaDoorMg25
/-
  Written: the walk.
-/
namespace Go.Proofs.YtefeilgbofphjaaDoor
open Go.RowKit Hf
set_option maxRecDepth 100000 in
set_option maxHeartbeats 20000000 in
theorem written_walk (w : World) (lv : Value) (ps : List Prt) (hps : PartsAt w w.heap.size lv ps) (hpl : ps.length ≤ 9223372036854775807) :
    Calls Tryd.prog 6 #[lv] w (WrPost ps w) := by
  obtain ⟨i3, hi, hz0, hz1, hz2⟩ := info_parts info3
  have HI3 := Lib.hid (And.intro hi (And.intro hz0 (And.intro hz1 hz2)))
  clear hi hz0 hz1 hz2
  obtain ⟨i5, hi, hz0, hz1, hz2⟩ := info_parts info5
  have HI5 := Lib.hid (And.intro hi (And.intro hz0 (And.intro hz1 hz2)))
  clear hi hz0 hz1 hz2
  obtain ⟨pl, cl, hsl, hlc⟩ := hps.shape
  obtain ⟨m, hm⟩ : ∃ m, m = ps.length := ⟨_, rfl⟩
  rw [← hm] at hsl hpl
  subst hsl
  have HPS := Lib.hid hps
  have HM := Lib.hid hm
  clear hps hm
  go_enter Tryd.func6, Tryd.ntmps6
  refine cut_seq (Pre0 (.slice pl m cl) w) ?_ ?_
  · go_wp2_with fail
    exact ⟨rfl, rfl⟩
  rintro _ W0 ⟨rfl, rfl⟩
  refine cut_seq (PreW ps w) ?_ ?_
  · by_cases hm0 : m = 0
    · subst hm0
      go_wp2_with fail
      have hp0 : ps = [] := List.length_eq_zero_iff.1 HM.out.symm
      exact ⟨1, _, 1, [nop], _, _, _, _, _, rfl, rfl, by decide, by decide, parts_one w, by rw [partsOf, if_pos hp0], OnlyS.alloc _ _⟩
    · have hm0i : ((m : Int) == 0) = false := beq_eq_false_iff_ne.2 (by omega)
      go_wp2_with fail
      have hp0 : ps ≠ [] := fun e => hm0 (by rw [HM.out, e]; rfl)
      exact ⟨m, pl, cl, ps, _, _, _, _, _, rfl, HM.out, by omega, hpl, HPS.out, by rw [partsOf, if_neg hp0], OnlyS.refl _ _⟩
  · clear HM HPS hlc hpl
    rintro a w1 ⟨m, pl, cl, ps2, v15, v16, v17, v18, v19, rfl, hm, hm1, hm2, hps, htk, ho⟩
    have HW1 := Lib.hid ho
    obtain ⟨n, hn⟩ : ∃ n, n = min m 5 := ⟨_, rfl⟩
    have hni : min (m : Int) 5 = (n : Int) := by omega
    have hcut := cut22 hps n (by omega)
    obtain ⟨qs, hqs⟩ : ∃ qs, qs = ps2.take n := ⟨_, rfl⟩
    have HQ : Hid (PartsAt w1 w1.heap.size (.slice pl n cl) qs) := Lib.hid (by rw [hqs]; exact hps.cut n (by omega))
    have HNQ : Hid (n = qs.length) := Lib.hid (by rw [hqs, List.length_take]; omega)
    have HQS : Hid (qs = partsOf ps) := Lib.hid (by
      rw [hqs, ← htk, hn, hm]
      rcases Nat.le_total ps2.length 5 with h | h
      · rw [Nat.min_eq_left h, List.take_of_length_le (Nat.le_refl _), List.take_of_length_le h]
      · rw [Nat.min_eq_right h])
    have hn5 : n ≤ 5 ∧ 1 ≤ n := by omega
    obtain ⟨gp, hgp⟩ : ∃ gp, gp = w1.heap.size := ⟨_, rfl⟩
    have H0 : Hid (∃ sv L out, WrI w1 gp n qs 0 (w1.alloc (.cells #[.slice none 0 0, .int .i64 0] 46)) sv (.slice none 0 0) L out) := Lib.hid ⟨.slice none 0 0, [], [], wri_zero w1 gp n qs hgp⟩
    clear hps hm htk hqs hn ho
    go_wp2_with fail
    rw [← hgp]
    have HGP := Lib.hid hgp
    clear hgp hcut hni
    go_loopw [5, 29] (fun v5 v29 wr => ∃ (i : Nat) (sv : Value) (L : List Bool) (out : List UInt8), i ≤ n ∧ v29 = .int .i64 (i : Int) ∧ WrI w1 gp n qs i wr sv v5 L out) (fun _ v29 _ => n - (intOf v29).toNat)
    case atStart =>
      obtain ⟨sv, L, out, h⟩ := H0.out
      exact ⟨0, sv, L, out, Nat.zero_le _, rfl, h⟩
    case round =>
      clear H0
      obtain ⟨i, sv, L, out, hin, rfl, hI⟩ := hrel
      have HI := Lib.hid hI
      by_cases hlt : i < n
      · have hlti : (i : Int) < (n : Int) := by omega
        have hQ := HQ.out.only hI.only (fun _ h => h.elim)
        obtain ⟨gq, oq, hpq, e0, e1, e2⟩ := part_cells hQ i (by rw [← HNQ.out]; exact hlt)
        subst hpq
        obtain ⟨pt, hpt⟩ : ∃ pt, pt = qs.getD i nop := ⟨_, rfl⟩
        rw [← hpt] at e0 e1 e2
        have hmem : pt ∈ qs := by rw [hpt, List.getD_eq_getElem?_getD, List.getElem?_eq_getElem (by rw [← HNQ.out]; exact hlt)]; exact List.getElem_mem _
        have hpart := hQ.each pt hmem
        obtain ⟨kd, bv, cv, bs, cs⟩ := pt
        simp only at e0 e1 e2 hpart
        obtain ⟨pb, cb, hsb⟩ := hpart.1.b.shape
        obtain ⟨pc, cc, hsc⟩ : ∃ p c, cv = .slice p cs.length c := by
          obtain ⟨_, ⟨g, o, cap, h2, _⟩ | ⟨p, h2, h3⟩⟩ := hpart.1.c
          · exact ⟨_, _, h2⟩
          · exact ⟨p, 0, by rw [h3]; exact h2⟩
        rw [bl_length] at hsb
        subst hsb hsc
        have HPT := Lib.hid hpt
        have HPART := Lib.hid hpart
        have HPARTS : Hid (SlV w1 (.slice pb bs.length cb) (bl bs)) := Lib.hid (by
          have h := (HQ.out.each (qs.getD i nop) (by rw [← hpt]; exact hmem)).1.b
          rw [← hpt] at h; exact h)
        have HPARTC : Hid (PartAt w1 w1.heap.size (.slice pb bs.length cb) (.slice pc cs.length cc) bs cs) := Lib.hid (by
          have h := (HQ.out.each (qs.getD i nop) (by rw [← hpt]; exact hmem)).1
          rw [← hpt] at h; exact h)
        obtain ⟨wa, hwa⟩ : ∃ wa, wa = wr.alloc (.cells #[.int .u8 (kd : Int), .slice pb bs.length cb, .slice pc cs.length cc] 36) := ⟨_, rfl⟩
        have hal : OnlyS (fun _ => False) wr wa := by rw [hwa]; exact OnlyS.alloc _ _
        have hra : wa.heap[wr.heap.size]? = some (.cells #[.int .u8 (kd : Int), .slice pb bs.length cb, .slice pc cs.length cc] 36 (0, 0)) := by rw [hwa]; exact heap_alloc_new wr _
        have hL5 : L.length ≤ 100000 := by have := hI.size; omega
        have hBw : w1.heap.size ≤ wa.heap.size := Nat.le_trans hI.only.size hal.size
        have HC0 : Hid (Calls Tryd.prog 10 #[.pointer (some ⟨gp, 0, none⟩), .int .i64 0, .int .i64 1] wa (PenPost w1.heap.size gp (L ++ num 0 1) (penX gp sv) wa)) := Lib.hid (pnum_walk wa w1.heap.size gp 0 1 sv L (hI.pen.stay hal (fun _ h => h.elim)) (by omega) (by decide) (by decide) hBw)
        have HWA := Lib.hid hwa
        have HAL := Lib.hid hal
        have HRA := Lib.hid hra
        have HL5 := Lib.hid hL5
        have HNX : Hid (¬ penX gp sv wr.heap.size) := Lib.hid (fun h => by have := (hI.pen.x_lt _ h).2; omega)
        clear hI hQ hpt hmem hpart hwa hal hra hL5 hBw
        have hxx : ∀ W : World, OnlyS (penX gp sv) wa W → W.heap[wr.heap.size]? = some (.cells #[.int .u8 (kd : Int), .slice pb bs.length cb, .slice pc cs.length cc] 36 (0, 0)) := fun W h => (h.block wr.heap.size (Array.getElem?_eq_some_iff.1 HRA.out).1 HNX.out).trans HRA.out
        have HXX := Lib.hid hxx
        obtain ⟨l, hl⟩ : ∃ l, l = L.length := ⟨_, rfl⟩
        have HLl := Lib.hid hl
        obtain ⟨nb, hnb⟩ : ∃ nb, nb = bs.length := ⟨_, rfl⟩
        have HNB := Lib.hid hnb
        have hnbl : nb ≤ 9223372036854775807 := by rw [hnb]; exact HPART.out.2.2
        obtain ⟨nc, hnc⟩ : ∃ nc, nc = cs.length := ⟨_, rfl⟩
        have HNC := Lib.hid hnc
        rw [← hnb, ← hnc] at HXX HWA HRA
        rw [← hnb] at e1
        rw [← hnc] at e2
        obtain ⟨lb, hlb⟩ : ∃ lb : Bool, lb = decide (i + 1 = n) := ⟨_, rfl⟩
        have hll : l ≤ 100000 := by rw [hl]; exact HL5.out
        clear hxx hl hnb hnc
        have hk3 : kd % 3 = 0 ∨ kd % 3 = 1 ∨ kd % 3 = 2 := by omega
        rcases hk3 with hk | hk | hk
        · have hki : (kd : Int) % 3 = 0 := by omega
          have HK3 := Lib.hid hk
          clear hk
          by_cases hin1 : i + 1 = n
          rotate_left
          case' neg =>
            have hb : ((i : Int) == (n : Int) - 1) = false := beq_eq_false_iff_ne.2 (by omega)
            rw [decide_eq_false hin1] at hlb
            have HLBE : Hid (lb = decide (i + 1 = n)) := Lib.hid (by rw [hlb, decide_eq_false hin1])
            have HIN1 := Lib.hid hin1
            clear hin1
            go_wp2_with (go_at_call 10; rw [← HWA.out]; refine HC0.out.mono ?_; rintro e w3 ⟨rfl, ho3, sv3, hp3, hg3⟩; have HO4 := Lib.hid ho3; have HP4 : Hid (PenAt w3 w1.heap.size gp sv3 (L ++ [lb])) := Lib.hid (by rw [hlb]; exact hp3); have HG4 : Hid (Grew wa (penX gp sv) (penX gp sv3)) := Lib.hid hg3; obtain ⟨x0, x1, x2, -, -, -⟩ := row3 (HXX.out w3 ho3); clear ho3 hp3 hg3)
            obtain ⟨w4, rfl⟩ : ∃ w4, w4 = w3 := ⟨_, rfl⟩
            clear hb hlb HC0
          rotate_left
          case' pos =>
            have hb : ((i : Int) == (n : Int) - 1) = true := by rw [beq_iff_eq]; omega
            rw [decide_eq_true hin1] at hlb
            have HLBE : Hid (lb = decide (i + 1 = n)) := Lib.hid (by rw [hlb, decide_eq_true hin1])
            have HIN1 := Lib.hid hin1
            clear hin1
            go_wp2_with (go_at_call 10; rw [← HWA.out]; refine HC0.out.mono ?_; rintro e w3 ⟨rfl, ho3, sv3, hp3, hg3⟩; have HO3 := Lib.hid ho3; have hp3' : PenAt w3 w1.heap.size gp sv3 (L ++ [false]) := hp3; have HG3 := Lib.hid hg3; clear ho3 hp3 hg3)
            obtain ⟨km, cm, y, hsm, d2, d3, hmk⟩ := pen_mark hp3'
            have d0 := hp3'.c0
            have d1 := hp3'.c1
            rw [List.length_append, List.length_singleton, ← HLl.out] at d1
            rw [← HLl.out] at hsm d2 d3 hmk
            rw [hsm] at d0
            obtain ⟨z, hz⟩ : ∃ z, z = y ||| UInt8.ofNat (2 ^ (l % 8)) := ⟨_, rfl⟩
            have hmk2 := hmk z hz
            have HMK := Lib.hid hmk2
            have hv : bits .or .u8 (bi y) (2 ^ (l % 8) % 256) = bi z := by
              rw [hz, ← u8_or]
              congr 1
            have hlw : IntKind.i64.wrap (((l + 1 : Nat) : Int) - 1) = (l : Int) := by rw [show ((l + 1 : Nat) : Int) - 1 = (l : Int) by omega]; exact IntWalk.i64_in _ (by omega)
            have hlw2 : ((l + 1 : Nat) : Int) - 1 = (l : Int) := by omega
            have HV := Lib.hid hv
            clear hmk hmk2 hz hv
            go_region
            rw [HV.out]
            obtain ⟨w4, hw4⟩ : ∃ w4, w4 = (w3.setCell ⟨km, l / 8, none⟩ (.int .u8 (bi z))).drew := ⟨_, rfl⟩
            rw [← hw4] at HMK ⊢
            have HP4 : Hid (PenAt w4 w1.heap.size gp sv3 (L ++ [lb])) := Lib.hid (by rw [hlb]; exact HMK.out.1)
            have HO4 : Hid (OnlyS (penX gp sv) wa w4) := Lib.hid (HO3.out.trans' HMK.out.2 (fun i hi => HG3.out i hi))
            have HG4 : Hid (Grew wa (penX gp sv) (penX gp sv3)) := Lib.hid HG3.out
            obtain ⟨x0, x1, x2, -, -, -⟩ := row3 (HXX.out w4 HO4.out)
            clear hw4 HMK HV HO3 HG3 hlw hlw2 d0 d1 d2 d3 hb hlb HC0 hp3' hsm
            simp only [Exit.then]
            go_wp2_with fail
          all_goals
            have HC1 : Hid (Calls Tryd.prog 10 #[.pointer (some ⟨gp, 0, none⟩), .int .i64 0, .int .i64 2] w4 (PenPost w1.heap.size gp (L ++ [lb] ++ num 0 2) (penX gp sv) wa)) := Lib.hid ((pnum_walk w4 w1.heap.size gp 0 2 sv3 _ HP4.out (by have := HL5.out; simp; omega) (by decide) (by decide) (Nat.le_trans HI.out.only.size (Nat.le_trans HAL.out.size HO4.out.size))).mono (fun e w' h => h.before HO4.out HG4.out))
            clear HP4 HG4
            refine HC1.out.mono ?_
            rintro e w5 ⟨rfl, ho5, sv5, hp5, hg5⟩
            have HO5 := Lib.hid ho5
            have HP5 := Lib.hid hp5
            have HG5 := Lib.hid hg5
            obtain ⟨x0', x1', x2', -, -, -⟩ := row3 (HXX.out w5 ho5)
            clear ho5 hp5 hg5 HC1 x0 x1 x2 HO4
            obtain ⟨k, hkk⟩ : ∃ k, k = min nb 80 := ⟨_, rfl⟩
            have hmin : min (nb : Int) 80 = (k : Int) := by omega
            have hk80 : k ≤ 80 ∧ k ≤ nb := by omega
            have hSB : SlV w1 (.slice pb nb cb) (bl bs) := by
              have h := HPARTS.out
              rw [← HNB.out] at h
              exact h
            have hcut2 := to23 hSB k hk80.2
            have HSB : Hid (SlV w1 (.slice pb k cb) (bl (bs.take k))) := Lib.hid (by rw [← bl_take]; exact hSB.take k hk80.2)
            have HKK := Lib.hid hkk
            obtain ⟨L3, hL3⟩ : ∃ L3, L3 = L ++ [lb] ++ num 0 2 := ⟨_, rfl⟩
            have HL3 := Lib.hid hL3
            have hp5 := HP5.out
            rw [← hL3] at hp5
            have hL3l : L3.length = l + 3 := by rw [hL3, HLl.out, List.length_append, List.length_append, num_length]; rfl
            have HL3l := Lib.hid hL3l
            have H0 : Hid (∃ (c : Nat) (svc : Value), c ≤ pad8 (l + 3) ∧ PenAt w5 w1.heap.size gp svc (L3 ++ List.replicate c true) ∧ OnlyS (penX gp sv) wa w5 ∧ Grew wa (penX gp sv) (penX gp svc)) := Lib.hid ⟨0, sv5, Nat.zero_le _, by rw [show List.replicate 0 true = [] from rfl, List.append_nil]; exact hp5, HO5.out, HG5.out⟩
            clear hkk hSB hL3 hp5 hL3l HP5 HG5 HO5
            go_wp2_with fail
            clear x0' x1' x2' hcut2
            obtain ⟨wo, rfl⟩ : ∃ wo, wo = wr := ⟨_, rfl⟩
            go_loopw [] (fun wr => ∃ (c : Nat) (svc : Value), c ≤ pad8 (l + 3) ∧ PenAt wr w1.heap.size gp svc (L3 ++ List.replicate c true) ∧ OnlyS (penX gp sv) wa wr ∧ Grew wa (penX gp sv) (penX gp svc)) (fun wr => match wr.cell? ⟨gp, 1, none⟩ with | some v => l + 16 - (intOf v).toNat | none => 0)
            case atStart => exact H0.out
            case round =>
              clear H0
              obtain ⟨c, svc, hcd, hpc, hoc, hgc⟩ := hrel
              have c1 := hpc.c1
              obtain ⟨x, hx⟩ : ∃ x, x = l + 3 + c := ⟨_, rfl⟩
              have hxl : (L3 ++ List.replicate c true).length = x := by rw [List.length_append, List.length_replicate, HL3l.out, hx]
              rw [hxl] at c1
              have hp8 := pad8_lt (l + 3)
              have HPC := Lib.hid hpc
              have HOC := Lib.hid hoc
              have HGC := Lib.hid hgc
              have HXL := Lib.hid hxl
              by_cases hq : c = pad8 (l + 3)
              · have hxm : ((x : Int) % 8 == 0) = true := by
                  have := pad8_at (l + 3)
                  rw [beq_iff_eq]; omega
                clear hxl
                have hB0 : w1.heap.size ≤ wr.heap.size := Nat.le_trans HI.out.only.size (Nat.le_trans HAL.out.size hoc.size)
                have HC3 : Hid (Calls Tryd.prog 10 #[.pointer (some ⟨gp, 0, none⟩), .int .i64 (k : Int), .int .i64 16] wr (PenPost w1.heap.size gp (L3 ++ List.replicate c true ++ num k 16) (penX gp sv) wa)) := Lib.hid ((pnum_walk wr w1.heap.size gp k 16 svc _ hpc (by rw [HXL.out]; omega) (by omega) (by decide) hB0).mono (fun e w' h => h.before hoc hgc))
                clear hpc hoc hgc hB0
                go_wp2_with fail
                clear c1 hxm
                refine HC3.out.mono ?_
                rintro e w6 ⟨rfl, ho6, sv6, hp6, hg6⟩
                have hx16 : bits .xor .i64 (k : Int) 65535 = ((65535 - k : Nat) : Int) := by
                  rw [show (65535 : Int) = ((65535 : Nat) : Int) from rfl, i64_xor_nat k 65535 (by omega) (by decide), xor_16 k (by omega)]
                have HX16 := Lib.hid hx16
                have HC4 : Hid (Calls Tryd.prog 10 #[.pointer (some ⟨gp, 0, none⟩), .int .i64 ((65535 - k : Nat) : Int), .int .i64 16] w6 (PenPost w1.heap.size gp (L3 ++ List.replicate c true ++ num k 16 ++ num (65535 - k) 16) (penX gp sv) wa)) := Lib.hid ((pnum_walk w6 w1.heap.size gp (65535 - k) 16 sv6 _ hp6 (by rw [List.length_append, HXL.out, num_length]; omega) (by omega) (by decide) (Nat.le_trans HI.out.only.size (Nat.le_trans HAL.out.size ho6.size))).mono (fun e w' h => h.before ho6 hg6))
                clear HC3 ho6 hp6 hg6 hx16
                go_wp2_with fail
                rw [HX16.out]
                refine HC4.out.mono ?_
                rintro e w7 ⟨rfl, ho7, sv7, hp7, hg7⟩
                obtain ⟨L4, hL4⟩ : ∃ L4, L4 = L3 ++ List.replicate c true ++ num k 16 ++ num (65535 - k) 16 := ⟨_, rfl⟩
                rw [← hL4] at hp7
                have HL4l : Hid (L4.length ≤ l + 50) := Lib.hid (by rw [hL4, List.length_append, List.length_append, HXL.out, num_length, num_length]; omega)
                have HL4 := Lib.hid hL4
                have H0 : Hid (∃ svq : Value, PenAt w7 w1.heap.size gp svq (L4 ++ Inf.bits ((bs.take k).take 0)) ∧ OnlyS (penX gp sv) wa w7 ∧ Grew wa (penX gp sv) (penX gp svq)) := Lib.hid ⟨sv7, by show PenAt w7 w1.heap.size gp sv7 (L4 ++ []); rw [List.append_nil]; exact hp7, ho7, hg7⟩
                clear HC4 HX16 hL4 hp7 ho7 hg7 HPC HOC HGC
                go_wp2_with fail
                obtain ⟨wp, rfl⟩ : ∃ wp, wp = wr := ⟨_, rfl⟩
                go_loopw [97] (fun v97 wr => ∃ q : Nat, q ≤ k ∧ v97 = .int .i64 (q : Int) ∧ ∃ svq, PenAt wr w1.heap.size gp svq (L4 ++ Inf.bits ((bs.take k).take q)) ∧ OnlyS (penX gp sv) wa wr ∧ Grew wa (penX gp sv) (penX gp svq)) (fun v97 _ => k - (intOf v97).toNat)
                case atStart => exact ⟨0, Nat.zero_le _, rfl, H0.out⟩
                case round =>
                  clear H0
                  obtain ⟨q, hqk, rfl, svq, hpq, hoq, hgq⟩ := hrel
                  have HPQ := Lib.hid hpq
                  have HOQ := Lib.hid hoq
                  have HGQ := Lib.hid hgq
                  have hbw : w1.heap.size ≤ wr.heap.size := Nat.le_trans HI.out.only.size (Nat.le_trans HAL.out.size hoq.size)
                  have hkl : (bs.take k).length = k := by rw [List.length_take, ← HNB.out]; omega
                  have hsb : SlV wr (.slice pb k cb) (bl (bs.take k)) := by
                    have h := (HPARTC.out.only (wri_only HI.out HAL.out hoq) (fun _ h => h.elim)).b
                    rw [← HNB.out] at h
                    rw [← bl_take]
                    exact h.take k hk80.2
                  have HBW := Lib.hid hbw
                  have HKL := Lib.hid hkl
                  by_cases hqlt : q < k
                  · have hqi : (q : Int) < (k : Int) := by omega
                    obtain ⟨gy, oy, hpb, ey⟩ := slv_at hsb q (by rw [hkl]; exact hqlt)
                    subst hpb
                    have hbt := bits_take (bs.take k) q (by rw [hkl]; exact hqlt)
                    obtain ⟨y, hy⟩ : ∃ y, y = (bs.take k).getD q 0 := ⟨_, rfl⟩
                    rw [← hy] at ey hbt
                    have HC5 : Hid (Calls Tryd.prog 10 #[.pointer (some ⟨gp, 0, none⟩), .int .i64 (bi y), .int .i64 8] wr (PenPost w1.heap.size gp (L4 ++ Inf.bits ((bs.take k).take (q + 1))) (penX gp sv) wa)) := Lib.hid (by
                      have hyl := y.toNat_lt
                      have h := (pnum_walk wr w1.heap.size gp y.toNat 8 svq _ hpq (by rw [List.length_append, bits_length, List.length_take, hkl]; have := HL4l.out; omega) (by omega) (by decide) hbw).mono (fun e w' h => h.before hoq hgq)
                      rw [List.append_assoc, ← hbt] at h
                      exact h)
                    have hbi := bi_lt y
                    clear hpq hoq hgq hy hbt hbw hkl hsb
                    go_wp2_with fail
                    refine HC5.out.mono ?_
                    rintro e w8 ⟨rfl, ho8, sv8, hp8, hg8⟩
                    go_wp2_with fail
                    exact ⟨⟨q + 1, by omega, by go_num, sv8, hp8, ho8, hg8⟩, by simp [intOf]; omega⟩
                  · obtain rfl : q = k := by omega
                    have HW0 : Hid (wr.ownsRow w1.heap.size 5 1 u5 out.length (bl out)) := Lib.hid (own_far HI.out HAL.out hoq)
                    have HW2 : Hid (SlK 1 wr (.slice pb q cb) q (bl (bs.take q))) := Lib.hid (by
                      have h := hsb.toK
                      rw [bl_length, hkl] at h
                      exact h)
                    have hol : out.length ≤ 10000 := by rw [HI.out.len]; have := ol_le qs i; omega
                    have hqq : (q : Int) < (q : Int) ↔ False := by simp
                    clear hpq hoq hgq hbw hkl hsb
                    go_wp2_with (refine wpList_appK 23 5 i5 (.int .u8 0) 1 1 Tryd.underlying23 HI5.out.1 HI5.out.2.1 HI5.out.2.2.1 HI5.out.2.2.2 rfl (by decide) (by decide) rfl (.tmp 106) (.tmp 107) rfl w1.heap.size u5 (.slice pb q cb) out.length q (bl out) (bl (bs.take q)) rfl rfl (bl_one _) HW0.out HW2.out HBW.out (by omega) ?_; intro ov' w9 hown hgrow hat; have HOWN := Lib.hid hown; have HGROW := Lib.hid hgrow; have HAT := Lib.hid hat; clear hown hgrow hat)
                    have hLM : L4 ++ Inf.bits ((bs.take q).take q) = L ++ (lb :: (num 0 2 ++ (List.replicate c true ++ (num (bs.take q).length 16 ++ (num (65535 - (bs.take q).length) 16 ++ Inf.bits (bs.take q)))))) := by
                      rw [HKL.out, List.take_of_length_le (Nat.le_of_eq HKL.out), HL4.out, HL3.out]
                      simp only [List.append_assoc, List.cons_append, List.nil_append]
                    have hpx := HPQ.out
                    rw [hLM] at hpx
                    have hkd : (qs.getD i nop).kd % 3 = 0 := by rw [← HPT.out]; exact HK3.out
                    have hbk := blkw_of (p := L.length) (out := out) lb (by decide : 0 < 4) (kindw_stored (L.length + 3) (List.replicate c true) (bs.take q) out (by rw [List.length_replicate, hq]; exact pad8_lt _) (by rw [List.length_replicate, hq, ← HLl.out]; exact pad8_at _) (by rw [HKL.out]; omega))
                    rw [HLBE.out] at hbk
                    have hnx := stored_next HI.out hlt HAL.out HOQ.out (by rw [HLBE.out] at hpx; exact hpx) HGQ.out (by rw [HKL.out]; exact HOWN.out) HGROW.out HAT.out
                      (by
                        rw [← HPT.out]
                        unfold wlen
                        rw [if_pos HK3.out, List.length_append, HKL.out, ← HNB.out, ← HKK.out])
                      (by
                        simp only [List.length_cons, List.length_append, num_length, List.length_replicate, bits_length, HKL.out]
                        omega)
                      (by rw [hkd]; exact hbk)
                    exact ⟨⟨i + 1, svq, _, _, by omega, by go_num, hnx⟩, by simp [intOf]; omega⟩
              · have hxm : ((x : Int) % 8 == 0) = false := by
                  have := pad8_not (l + 3) c (by omega)
                  rw [beq_eq_false_iff_ne]; omega
                have HC2 : Hid (Calls Tryd.prog 11 #[.pointer (some ⟨gp, 0, none⟩), .int .u32 1] wr (PenPost w1.heap.size gp (L3 ++ List.replicate (c + 1) true) (penX gp sv) wa)) := Lib.hid (by
                  have h := (pbit_walk wr w1.heap.size gp 1 svc _ hpc (by rw [hxl]; omega) (by decide) (Nat.le_trans HI.out.only.size (Nat.le_trans HAL.out.size hoc.size))).mono (fun e w' h => h.before hoc hgc)
                  rw [List.append_assoc, show [Nat.testBit 1 0] = [true] from rfl, ← List.replicate_succ'] at h
                  exact h)
                have HM : Hid ((match wr.cell? ⟨gp, 1, none⟩ with | some v => l + 16 - (intOf v).toNat | none => 0) = l + 16 - x) := Lib.hid (by rw [c1]; rfl)
                clear hpc hoc hgc hxl
                go_wp2_with fail
                refine HC2.out.mono ?_
                rintro e w6 ⟨rfl, ho6, sv6, hp6, hg6⟩
                clear c1
                go_wp2_with fail
                rw [HM.out]
                refine ⟨⟨c + 1, sv6, by omega, hp6, ho6, hg6⟩, ?_⟩
                rw [hp6.c1, List.length_append, List.length_replicate, HL3l.out]
                simp [intOf]
                omega
        · have hki : (kd : Int) % 3 = 1 := by omega
          have HK3 := Lib.hid hk
          clear hk
          by_cases hin1 : i + 1 = n
          rotate_left
          case' neg =>
            have hb : ((i : Int) == (n : Int) - 1) = false := beq_eq_false_iff_ne.2 (by omega)
            rw [decide_eq_false hin1] at hlb
            have HLBE : Hid (lb = decide (i + 1 = n)) := Lib.hid (by rw [hlb, decide_eq_false hin1])
            have HIN1 := Lib.hid hin1
            clear hin1
            go_wp2_with (go_at_call 10; rw [← HWA.out]; refine HC0.out.mono ?_; rintro e w3 ⟨rfl, ho3, sv3, hp3, hg3⟩; have HO4 := Lib.hid ho3; have HP4 : Hid (PenAt w3 w1.heap.size gp sv3 (L ++ [lb])) := Lib.hid (by rw [hlb]; exact hp3); have HG4 : Hid (Grew wa (penX gp sv) (penX gp sv3)) := Lib.hid hg3; obtain ⟨x0, x1, x2, -, -, -⟩ := row3 (HXX.out w3 ho3); clear ho3 hp3 hg3)
            obtain ⟨w4, rfl⟩ : ∃ w4, w4 = w3 := ⟨_, rfl⟩
            clear hb hlb HC0
          rotate_left
          case' pos =>
            have hb : ((i : Int) == (n : Int) - 1) = true := by rw [beq_iff_eq]; omega
            rw [decide_eq_true hin1] at hlb
            have HLBE : Hid (lb = decide (i + 1 = n)) := Lib.hid (by rw [hlb, decide_eq_true hin1])
            have HIN1 := Lib.hid hin1
            clear hin1
            go_wp2_with (go_at_call 10; rw [← HWA.out]; refine HC0.out.mono ?_; rintro e w3 ⟨rfl, ho3, sv3, hp3, hg3⟩; have HO3 := Lib.hid ho3; have hp3' : PenAt w3 w1.heap.size gp sv3 (L ++ [false]) := hp3; have HG3 := Lib.hid hg3; clear ho3 hp3 hg3)
            obtain ⟨km, cm, y, hsm, d2, d3, hmk⟩ := pen_mark hp3'
            have d0 := hp3'.c0
            have d1 := hp3'.c1
            rw [List.length_append, List.length_singleton, ← HLl.out] at d1
            rw [← HLl.out] at hsm d2 d3 hmk
            rw [hsm] at d0
            obtain ⟨z, hz⟩ : ∃ z, z = y ||| UInt8.ofNat (2 ^ (l % 8)) := ⟨_, rfl⟩
            have hmk2 := hmk z hz
            have HMK := Lib.hid hmk2
            have hv : bits .or .u8 (bi y) (2 ^ (l % 8) % 256) = bi z := by
              rw [hz, ← u8_or]
              congr 1
            have hlw : IntKind.i64.wrap (((l + 1 : Nat) : Int) - 1) = (l : Int) := by rw [show ((l + 1 : Nat) : Int) - 1 = (l : Int) by omega]; exact IntWalk.i64_in _ (by omega)
            have hlw2 : ((l + 1 : Nat) : Int) - 1 = (l : Int) := by omega
            have HV := Lib.hid hv
            clear hmk hmk2 hz hv
            go_region
            rw [HV.out]
            obtain ⟨w4, hw4⟩ : ∃ w4, w4 = (w3.setCell ⟨km, l / 8, none⟩ (.int .u8 (bi z))).drew := ⟨_, rfl⟩
            rw [← hw4] at HMK ⊢
            have HP4 : Hid (PenAt w4 w1.heap.size gp sv3 (L ++ [lb])) := Lib.hid (by rw [hlb]; exact HMK.out.1)
            have HO4 : Hid (OnlyS (penX gp sv) wa w4) := Lib.hid (HO3.out.trans' HMK.out.2 (fun i hi => HG3.out i hi))
            have HG4 : Hid (Grew wa (penX gp sv) (penX gp sv3)) := Lib.hid HG3.out
            obtain ⟨x0, x1, x2, -, -, -⟩ := row3 (HXX.out w4 HO4.out)
            clear hw4 HMK HV HO3 HG3 hlw hlw2 d0 d1 d2 d3 hb hlb HC0 hp3' hsm
            simp only [Exit.then]
            go_wp2_with fail
          all_goals
            have HC1 : Hid (Calls Tryd.prog 10 #[.pointer (some ⟨gp, 0, none⟩), .int .i64 1, .int .i64 2] w4 (PenPost w1.heap.size gp (L ++ [lb] ++ num 1 2) (penX gp sv) wa)) := Lib.hid ((pnum_walk w4 w1.heap.size gp 1 2 sv3 _ HP4.out (by have := HL5.out; simp; omega) (by decide) (by decide) (Nat.le_trans HI.out.only.size (Nat.le_trans HAL.out.size HO4.out.size))).mono (fun e w' h => h.before HO4.out HG4.out))
            clear HP4 HG4
            refine HC1.out.mono ?_
            rintro e w5 ⟨rfl, ho5, sv5, hp5, hg5⟩
            have HO5 := Lib.hid ho5
            have HP5 := Lib.hid hp5
            have HG5 := Lib.hid hg5
            obtain ⟨x0', x1', x2', -, -, -⟩ := row3 (HXX.out w5 ho5)
            clear ho5 hp5 hg5 HC1 x0 x1 x2 HO4
            have hown5 := own_far HI.out HAL.out HO5.out
            have hpart5 := HPARTC.out.only (wri_only HI.out HAL.out HO5.out) (fun _ h => h.elim)
            rw [← HNB.out, ← HNC.out] at hpart5
            have hbw5 : w1.heap.size ≤ w5.heap.size := Nat.le_trans HI.out.only.size (Nat.le_trans HAL.out.size HO5.out.size)
            have hol : out.length ≤ 10000 := by rw [HI.out.len]; have := ol_le qs i; omega
            have HS1 : Hid (Calls Tryd.prog 12 #[.agg #[.int .u8 (kd : Int), .slice pb nb cb, .slice pc nc cc], u5] w5 (SgPost w5 w1.heap.size u5 out bs cs)) := Lib.hid (signs_walk w5 w1.heap.size kd _ _ u5 bs cs out hpart5 hown5 hbw5 (by omega) HPART.out.2.2)
            have HBW5 := Lib.hid hbw5
            have HOL := Lib.hid hol
            clear hown5 hpart5 hbw5 hol
            go_wp2_with fail
            refine HS1.out.mono ?_
            rintro e w6 ⟨lv, ov', ts, rfl, hS, hok, hel, htl⟩
            have HS := Lib.hid hS
            have HOK := Lib.hid hok
            have HEL := Lib.hid hel
            have HTL := Lib.hid htl
            have HF1 := Lib.hid (fixedLens_walk w6)
            clear HS1 hS hok hel htl x0' x1' x2'
            go_wp2_with fail
            refine HF1.out.mono ?_
            rintro e w7 ⟨av, bv, rfl, hT⟩
            obtain ⟨pa, ca, hsa⟩ := (own_toV hT.ra).shape
            obtain ⟨pd, cd, hsd⟩ := (own_toV hT.rb).shape
            rw [show (ni Inf.fixS).length = 288 from rfl] at hsa
            rw [show (ni Inf.fixD).length = 32 from rfl] at hsd
            subst hsa hsd
            have HT := Lib.hid hT
            clear HF1 hT
            obtain ⟨w8, hw8⟩ : ∃ w8, w8 = (w7.alloc (.cells #[.slice pa 288 ca] 53)).alloc (.cells #[.slice pd 32 cd] 53) := ⟨_, rfl⟩
            have ho78 : OnlyS (fun _ => False) w7 w8 := by rw [hw8]; exact (OnlyS.alloc _ _).trans (OnlyS.alloc _ _)
            have ho68 : OnlyS (fun _ => False) w6 w8 := (OnlyS.of_below HT.out.below).trans ho78
            have hux : ∀ j, u5.ownBlock = some j → ¬ penX gp sv5 j := fun j hj h => by
              rcases HG5.out j h with h1 | h1
              · exact HI.out.apart j hj h1
              · have h2 := (own_lt HI.out.own j hj).2; have := HAL.out.size; omega
            have hbr := body_ready HP5.out HS.out hux ho68
            have hto := two_off HT.out ho78 (fun i hi => Nat.lt_of_lt_of_le (HP5.out.x_lt i hi).2 HS.out.size)
            have hhas := has_fixed HOK.out
            have hsm := sg_m HOK.out hhas (fixS_pos 256 (by decide)) coded_fixS.1 coded_fixD.1 HTL.out
            have hsl : (ssg ts).length ≤ 173 := by have := ssg_length ts; have := HTL.out; omega
            have HB0 : Hid (Calls Tryd.prog 18 #[.pointer (some ⟨gp, 0, none⟩), lv, .slice pa 288 ca, .slice pd 32 cd] w8 (PenPost w1.heap.size gp (L ++ [lb] ++ num 1 2 ++ wds Inf.fixS Inf.fixD (ssg ts) (ssg ts).length) (penX gp sv5) w6)) := Lib.hid ((body_walk w8 w1.heap.size gp sv5 lv _ _ (L ++ [lb] ++ num 1 2) (ssg ts) Inf.fixS Inf.fixD hbr.1 hbr.2 hto.1 hto.2.1 hto.2.2.1 hto.2.2.2 coded_fixS coded_fixD (sg_ok HOK.out hhas (fixS_pos 256 (by decide)))
              (fun k hk => by have := hsm k hk; have := HL5.out; simp only [List.length_append, num_length, List.length_cons, List.length_nil]; omega) (by omega) (Nat.le_trans HBW5.out (Nat.le_trans HS.out.size ho68.size))).mono (fun e w' h => PenPost.before h (ho68.mono (fun _ _ h => h.elim)) (Grew.refl _ _)))
            have HSM := Lib.hid (hsm _ (Nat.le_refl _))
            have HW8 := Lib.hid hw8
            clear hw8 ho78 ho68 hux hbr hto hhas hsm hsl
            go_wp2_with fail
            rw [← HW8.out]
            refine HB0.out.mono ?_
            rintro e w9 ⟨rfl, ho9, sv9, hp9, hg9⟩
            have HO9 := Lib.hid ho9
            have HP9 := Lib.hid hp9
            have HG9 := Lib.hid hg9
            clear ho9 hp9 hg9 HB0 HW8
            go_wp2_with fail
            have hwb := wds_body Inf.fixS Inf.fixD ts out HOK.out
            have hpx := HP9.out
            have hsm := HSM.out
            rw [hwb] at hpx hsm
            have hLM : L ++ [lb] ++ num 1 2 ++ body Inf.fixS Inf.fixD ts = L ++ (lb :: (num 1 2 ++ body Inf.fixS Inf.fixD ts)) := by
              simp only [List.append_assoc, List.cons_append, List.nil_append]
            rw [hLM] at hpx
            have hkd : (qs.getD i nop).kd % 3 = 1 := by rw [← HPT.out]; exact HK3.out
            have hbk := blkw_of (p := L.length) (out := out) lb (by decide : 1 < 4) (kindw_fixed (L.length + 3) rfl rfl coded_fixS coded_fixD (fixS_pos 256 (by decide)) HOK.out (has_fixed HOK.out))
            rw [HLBE.out] at hbk hpx
            have hnx := coded_next HI.out hlt HAL.out HO5.out (M1 := [lb] ++ num 1 2) (by rw [← List.append_assoc]; exact HP5.out) HG5.out HS.out HO9.out hpx HG9.out
              (by
                rw [← HPT.out]
                unfold wlen
                rw [if_neg (by show ¬ kd % 3 = 0; have := HK3.out; omega)]
                exact HEL.out)
              (by
                simp only [List.length_cons, List.length_append, num_length]
                omega)
              (by rw [hkd]; exact hbk)
            exact ⟨⟨i + 1, sv9, _, _, by omega, by go_num, hnx⟩, by simp [intOf]; omega⟩
        · have hki : (kd : Int) % 3 = 2 := by omega
          have HK3 := Lib.hid hk
          clear hk
          by_cases hin1 : i + 1 = n
          rotate_left
          case' neg =>
            have hb : ((i : Int) == (n : Int) - 1) = false := beq_eq_false_iff_ne.2 (by omega)
            rw [decide_eq_false hin1] at hlb
            have HLBE : Hid (lb = decide (i + 1 = n)) := Lib.hid (by rw [hlb, decide_eq_false hin1])
            have HIN1 := Lib.hid hin1
            clear hin1
            go_wp2_with (go_at_call 10; rw [← HWA.out]; refine HC0.out.mono ?_; rintro e w3 ⟨rfl, ho3, sv3, hp3, hg3⟩; have HO4 := Lib.hid ho3; have HP4 : Hid (PenAt w3 w1.heap.size gp sv3 (L ++ [lb])) := Lib.hid (by rw [hlb]; exact hp3); have HG4 : Hid (Grew wa (penX gp sv) (penX gp sv3)) := Lib.hid hg3; obtain ⟨x0, x1, x2, -, -, -⟩ := row3 (HXX.out w3 ho3); clear ho3 hp3 hg3)
            obtain ⟨w4, rfl⟩ : ∃ w4, w4 = w3 := ⟨_, rfl⟩
            clear hb hlb HC0
          rotate_left
          case' pos =>
            have hb : ((i : Int) == (n : Int) - 1) = true := by rw [beq_iff_eq]; omega
            rw [decide_eq_true hin1] at hlb
            have HLBE : Hid (lb = decide (i + 1 = n)) := Lib.hid (by rw [hlb, decide_eq_true hin1])
            have HIN1 := Lib.hid hin1
            clear hin1
            go_wp2_with (go_at_call 10; rw [← HWA.out]; refine HC0.out.mono ?_; rintro e w3 ⟨rfl, ho3, sv3, hp3, hg3⟩; have HO3 := Lib.hid ho3; have hp3' : PenAt w3 w1.heap.size gp sv3 (L ++ [false]) := hp3; have HG3 := Lib.hid hg3; clear ho3 hp3 hg3)
            obtain ⟨km, cm, y, hsm, d2, d3, hmk⟩ := pen_mark hp3'
            have d0 := hp3'.c0
            have d1 := hp3'.c1
            rw [List.length_append, List.length_singleton, ← HLl.out] at d1
            rw [← HLl.out] at hsm d2 d3 hmk
            rw [hsm] at d0
            obtain ⟨z, hz⟩ : ∃ z, z = y ||| UInt8.ofNat (2 ^ (l % 8)) := ⟨_, rfl⟩
            have hmk2 := hmk z hz
            have HMK := Lib.hid hmk2
            have hv : bits .or .u8 (bi y) (2 ^ (l % 8) % 256) = bi z := by
              rw [hz, ← u8_or]
              congr 1
            have hlw : IntKind.i64.wrap (((l + 1 : Nat) : Int) - 1) = (l : Int) := by rw [show ((l + 1 : Nat) : Int) - 1 = (l : Int) by omega]; exact IntWalk.i64_in _ (by omega)
            have hlw2 : ((l + 1 : Nat) : Int) - 1 = (l : Int) := by omega
            have HV := Lib.hid hv
            clear hmk hmk2 hz hv
            go_region
            rw [HV.out]
            obtain ⟨w4, hw4⟩ : ∃ w4, w4 = (w3.setCell ⟨km, l / 8, none⟩ (.int .u8 (bi z))).drew := ⟨_, rfl⟩
            rw [← hw4] at HMK ⊢
            have HP4 : Hid (PenAt w4 w1.heap.size gp sv3 (L ++ [lb])) := Lib.hid (by rw [hlb]; exact HMK.out.1)
            have HO4 : Hid (OnlyS (penX gp sv) wa w4) := Lib.hid (HO3.out.trans' HMK.out.2 (fun i hi => HG3.out i hi))
            have HG4 : Hid (Grew wa (penX gp sv) (penX gp sv3)) := Lib.hid HG3.out
            obtain ⟨x0, x1, x2, -, -, -⟩ := row3 (HXX.out w4 HO4.out)
            clear hw4 HMK HV HO3 HG3 hlw hlw2 d0 d1 d2 d3 hb hlb HC0 hp3' hsm
            simp only [Exit.then]
            go_wp2_with fail
          all_goals
            have HC1 : Hid (Calls Tryd.prog 10 #[.pointer (some ⟨gp, 0, none⟩), .int .i64 2, .int .i64 2] w4 (PenPost w1.heap.size gp (L ++ [lb] ++ num 2 2) (penX gp sv) wa)) := Lib.hid ((pnum_walk w4 w1.heap.size gp 2 2 sv3 _ HP4.out (by have := HL5.out; simp; omega) (by decide) (by decide) (Nat.le_trans HI.out.only.size (Nat.le_trans HAL.out.size HO4.out.size))).mono (fun e w' h => h.before HO4.out HG4.out))
            clear HP4 HG4
            refine HC1.out.mono ?_
            rintro e w5 ⟨rfl, ho5, sv5, hp5, hg5⟩
            have HO5 := Lib.hid ho5
            have HP5 := Lib.hid hp5
            have HG5 := Lib.hid hg5
            obtain ⟨x0', x1', x2', -, -, -⟩ := row3 (HXX.out w5 ho5)
            clear ho5 hp5 hg5 HC1 x0 x1 x2 HO4
            have hown5 := own_far HI.out HAL.out HO5.out
            have hpart5 := HPARTC.out.only (wri_only HI.out HAL.out HO5.out) (fun _ h => h.elim)
            rw [← HNB.out, ← HNC.out] at hpart5
            have hbw5 : w1.heap.size ≤ w5.heap.size := Nat.le_trans HI.out.only.size (Nat.le_trans HAL.out.size HO5.out.size)
            have hol : out.length ≤ 10000 := by rw [HI.out.len]; have := ol_le qs i; omega
            have HS1 : Hid (Calls Tryd.prog 12 #[.agg #[.int .u8 (kd : Int), .slice pb nb cb, .slice pc nc cc], u5] w5 (SgPost w5 w1.heap.size u5 out bs cs)) := Lib.hid (signs_walk w5 w1.heap.size kd _ _ u5 bs cs out hpart5 hown5 hbw5 (by omega) HPART.out.2.2)
            have HBW5 := Lib.hid hbw5
            have HOL := Lib.hid hol
            clear hown5 hpart5 hbw5 hol
            go_wp2_with fail
            refine HS1.out.mono ?_
            rintro e w6 ⟨lv, ov', ts, rfl, hS, hok, hel, htl⟩
            have HS := Lib.hid hS
            have HOK := Lib.hid hok
            have HEL := Lib.hid hel
            have HTL := Lib.hid htl
            have HF1 := Lib.hid (fixedLens_walk w6)
            clear HS1 hS hok hel htl x0' x1' x2'
            go_wp2_with fail
            refine HF1.out.mono ?_
            rintro e w7 ⟨av, bv, rfl, hT⟩
            obtain ⟨pa, ca, hsa⟩ := (own_toV hT.ra).shape
            obtain ⟨pd, cd, hsd⟩ := (own_toV hT.rb).shape
            rw [show (ni Inf.fixS).length = 288 from rfl] at hsa
            rw [show (ni Inf.fixD).length = 32 from rfl] at hsd
            subst hsa hsd
            have HT := Lib.hid hT
            clear HF1 hT
            obtain ⟨ga, hga⟩ : ∃ ga, ga = w7.heap.size := ⟨_, rfl⟩
            obtain ⟨c, hc, hcl, hcm⟩ := made_zeros 286
            have hm1 := hcm i3 HI3.out.1 HI3.out.2.1 HI3.out.2.2.1 HI3.out.2.2.2 (by decide)
            obtain ⟨d, hd, hdl, hdm⟩ := made_zeros 30
            have hm2 := hdm i3 HI3.out.1 HI3.out.2.1 HI3.out.2.2.1 HI3.out.2.2.2 (by decide)
            clear hcm hdm
            have HC := Lib.hid hc
            have HCL := Lib.hid hcl
            have HD := Lib.hid hd
            have HDL := Lib.hid hdl
            clear hc hcl hd hdl
            have hm1' : ∀ w : World, (Instr.makeSlice 53 (.int .i64 286) (.int .i64 286)).run Tryd.prog w = .ok (.slice (some ⟨w.heap.size, 0, none⟩) 286 286) (w.alloc (.cells c 3)) := hm1
            have hm2' : ∀ w : World, (Instr.makeSlice 53 (.int .i64 30) (.int .i64 30)).run Tryd.prog w = .ok (.slice (some ⟨w.heap.size, 0, none⟩) 30 30) (w.alloc (.cells d 3)) := hm2
            clear hm1 hm2
            go_wp2_with fail
            have hsl : (ssg ts).length ≤ 173 := by have := ssg_length ts; have := HTL.out; omega
            have HSL := Lib.hid hsl
            clear hsl
            go_region
            rotate_left
            case' _ =>
              obtain ⟨w8, hw8⟩ : ∃ w8, w8 = ((((w7.alloc (.cells #[.slice (some ⟨w7.heap.size + 1 + 1 + 1, 0, none⟩) 286 286] 53)).alloc (.cells #[.slice (some ⟨w7.heap.size + 1 + 1, 0, none⟩) 30 30] 53)).alloc (.cells d 3)).alloc (.cells c 3)).drew := ⟨_, rfl⟩
              rw [← hw8]
              have HI8 : Hid (∃ X, CntI w7.heap.size (w7.heap.size + 1) w7.heap.size (ssg ts) w8 X 0 ∧ OnlyS (fun _ => False) w7 w8) := Lib.hid ⟨_, cnt_madeB (ssg ts) HC.out HCL.out HD.out HDL.out hw8⟩
              clear hw8
            rotate_left
            case' _ =>
              obtain ⟨w8, hw8⟩ : ∃ w8, w8 = ((((w7.alloc (.cells #[.slice (some ⟨w7.heap.size + 1 + 1, 0, none⟩) 286 286] 53)).alloc (.cells #[.slice (some ⟨w7.heap.size + 1 + 1 + 1, 0, none⟩) 30 30] 53)).alloc (.cells c 3)).alloc (.cells d 3)).drew := ⟨_, rfl⟩
              rw [← hw8]
              have HI8 : Hid (∃ X, CntI w7.heap.size (w7.heap.size + 1) w7.heap.size (ssg ts) w8 X 0 ∧ OnlyS (fun _ => False) w7 w8) := Lib.hid ⟨_, cnt_madeA (ssg ts) HC.out HCL.out HD.out HDL.out hw8⟩
              clear hw8
            all_goals
              have hmf : ∀ (fn : Fn) (first cap : Array Value) (w : World), (Instr.makeFunc fn first cap).run Tryd.prog w = .ok (.func fn first cap) w := fun _ _ _ _ => rfl
              clear hm1' hm2' HC HCL HD HDL
              obtain ⟨X8, hI8, h78⟩ := HI8.out
              have HC14 := Lib.hid (cnt_calls HS.out HOK.out HSL.out (OnlyS.of_below HT.out.below) h78 hI8)
              clear hI8 h78 HI8
              simp only [Exit.then]
              go_wp2_with fail
              refine HC14.out.mono ?_
              rintro e w9 ⟨rfl, h79, X9, ka, kb, xa, xb, r1, r2, o3, o4, n1, n2, n3, n4, n5, -⟩
              clear HC14 hmf
              have H79 := Lib.hid h79
              have R1 := Lib.hid r1
              have R2 := Lib.hid r2
              obtain ⟨sa, hsa⟩ : ∃ sa, sa = spl (ssg ts) false (ssg ts).length := ⟨_, rfl⟩
              obtain ⟨sb, hsb⟩ : ∃ sb, sb = spl (ssg ts) true (ssg ts).length := ⟨_, rfl⟩
              have HPA := Lib.hid (plen_calls o3 (by decide) (Nat.le_trans (spl_length _ _ _) (by have := HSL.out; omega)))
              have HPB := Lib.hid (plen_calls o4 (by decide) (Nat.le_trans (spl_length _ _ _) (by have := HSL.out; omega)))
              have c13 := cell_of_row _ _ 0 _ _ _ r1
              have c14 := cell_of_row _ _ 0 _ _ _ r2
              clear h79 r1 r2 o3 o4 n1 n2 n3 n4 n5 hsa hsb
              go_wp2_with fail
              go_region_law (first
                | (go_simp; go_at_call 16; refine (HPB.out _ HO10.out).mono ?_; rintro e w11 ⟨u2, rfl, ho2, hu2, hl2⟩; obtain ⟨p2, q2, hs2⟩ := own_shape hu2; subst hs2; have HO11 : Hid (OnlyS (fun _ => False) w9 w11) := Lib.hid (HO10.out.trans ho2); have HO12 := Lib.hid ho2; have HU2 := Lib.hid hu2; have HL2 := Lib.hid hl2; have d13 := cell_of_row _ _ 0 _ _ _ (row_keep HO11.out R1.out); have d14 := cell_of_row _ _ 0 _ _ _ (row_keep HO11.out R2.out); have f13 := frozen_of_row _ _ 0 _ _ (row_keep HO11.out R1.out); have f14 := frozen_of_row _ _ 0 _ _ (row_keep HO11.out R2.out); clear ho2 hu2 hl2)
                | (go_simp; go_at_call 16; refine (HPA.out _ (OnlyS.drew _)).mono ?_; rintro e w10 ⟨u1, rfl, ho1, hu1, hl1⟩; obtain ⟨p1, q1, hs1⟩ := own_shape hu1; subst hs1; have HO10 : Hid (OnlyS (fun _ => False) w9 w10) := Lib.hid ((OnlyS.drew w9).trans ho1); have HU1 := Lib.hid hu1; have HL1 := Lib.hid hl1; have c14' := cell_of_row _ _ 0 _ _ _ (row_keep HO10.out R2.out); clear ho1 hu1 hl1))
              all_goals
                obtain ⟨w12, hw12⟩ : ∃ w12, w12 = (w11.setCell ⟨w7.heap.size, 0, none⟩ (.slice p1 286 q1)).setCell ⟨w7.heap.size + 1, 0, none⟩ (.slice p2 30 q2) := ⟨_, rfl⟩
                rw [← hw12]
                have hT := told_made rfl H79.out HO10.out HO12.out R1.out R2.out HU1.out HU2.out hw12
                obtain ⟨zs, hzs⟩ : ∃ zs, zs = lensF (cnt (spl (ssg ts) false (ssg ts).length) 286) 15 := ⟨_, rfl⟩
                obtain ⟨ds, hds⟩ : ∃ ds, ds = lensF (cnt (spl (ssg ts) true (ssg ts).length) 30) 15 := ⟨_, rfl⟩
                rw [← hzs] at HL1
                rw [← hds] at HL2
                rw [← hzs, ← hds] at hT
                have hux : ∀ j, u5.ownBlock = some j → ¬ penX gp sv5 j := fun j hj h => by
                  rcases HG5.out j h with h1 | h1
                  · exact HI.out.apart j hj h1
                  · have h2 := (own_lt HI.out.own j hj).2; have := HAL.out.size; omega
                have h67 : OnlyS (fun _ => False) w6 w7 := OnlyS.of_below HT.out.below
                have h6c : OnlyS (fun _ => False) w6 w12 := h67.trans hT.2.2.1
                have hbr := body_ready HP5.out HS.out hux h6c
                have hxl : ∀ i, penX gp sv5 i → i < w7.heap.size := fun i hi => Nat.lt_of_lt_of_le (HP5.out.x_lt i hi).2 (Nat.le_trans HS.out.size h67.size)
                have hoff := hT.2.2.2.2.2 _ hxl
                have hhc := has_counted HOK.out HL1.out HL2.out
                have hll1 : zs.length = 286 := by rw [HL1.out.len, cnt_length]
                have hll2 : ds.length = 30 := by rw [HL2.out.len, cnt_length]
                have hgz : good zs := HL1.out.good (by decide) (by rw [cnt_length]; decide)
                have hgd : good ds := HL2.out.good (by decide) (by rw [cnt_length]; decide)
                have hmz : may zs = 0 := HL1.out.may (by decide) (by rw [cnt_length]; decide)
                have hmd : may ds = 0 := HL2.out.may (by decide) (by rw [cnt_length]; decide)
                have hlow : low (zs ++ ds) := fun z hz => by
                  rcases List.mem_append.1 hz with h | h
                  · exact hgz.2 z h
                  · exact hgd.2 z h
                have hBw : w1.heap.size ≤ w12.heap.size := Nat.le_trans HBW5.out (Nat.le_trans HS.out.size h6c.size)
                have hL1l : (L ++ [lb] ++ num 2 2).length ≤ 200000 := by have := HL5.out; simp only [List.length_append, num_length, List.length_cons, List.length_nil]; omega
                have HH := Lib.hid (heads_walk w12 w1.heap.size gp sv5 (.slice p1 286 q1) (.slice p2 30 q2) (L ++ [lb] ++ num 2 2) zs ds hbr.1 hT.2.2.2.1 hT.2.2.2.2.1 hll1 hll2 hlow (by have := hhc.2; omega) hmz hmd (by omega) hBw)
                have d13 := cell_of_row _ _ 0 _ _ _ hT.1
                have d14 := cell_of_row _ _ 0 _ _ _ hT.2.1
                have HTT := Lib.hid hT
                have HBR := Lib.hid hbr
                have HXL := Lib.hid hxl
                have HOFF := Lib.hid hoff
                have HHC := Lib.hid hhc
                have HGZ := Lib.hid hgz
                have HGD := Lib.hid hgd
                have H6C := Lib.hid h6c
                have HL1L := Lib.hid hL1l
                clear hw12 hT hzs hds hux h67 h6c hbr hxl hoff hhc hll1 hll2 hgz hgd hmz hmd hlow hBw hL1l HPA HPB H79 R1 R2 HO10 HO11 HO12 HU1 HU2 f13 f14 c13 c14 c14'
                simp only [Exit.then]
                go_wp2_with fail
                refine HH.out.mono ?_
                rintro e w13 ⟨first, rows, hho, hhl, rfl, ho13, sv13, hp13, hg13⟩
                clear HH d13 d14
                have e13 := cell_of_row _ _ 0 _ _ _ ((ho13.block w7.heap.size (Array.getElem?_eq_some_iff.1 HTT.out.1).1 (fun h => by have := HXL.out _ h; omega)).trans HTT.out.1)
                have e14 := cell_of_row _ _ 0 _ _ _ ((ho13.block (w7.heap.size + 1) (Array.getElem?_eq_some_iff.1 HTT.out.2.1).1 (fun h => by have := HXL.out _ h; omega)).trans HTT.out.2.1)
                have hrow13 := HBR.out.2.next ho13 hg13
                have hz13 : SlV w13 (.slice p1 286 q1) (ni zs) := HTT.out.2.2.2.1.only ho13 (fun p n c e h0 => (HOFF.out.1 p n c e h0).1)
                have hd13 : SlV w13 (.slice p2 30 q2) (ni ds) := HTT.out.2.2.2.2.1.only ho13 (fun p n c e h0 => (HOFF.out.2 p n c e h0).1)
                have hsm := sg_m HOK.out HHC.out.1 HHC.out.2 HGZ.out HGD.out HTL.out
                have h613 : OnlyS (penX gp sv5) w6 w13 := (H6C.out.mono (fun _ _ h => h.elim)).trans' ho13 (fun i hi => .inl hi)
                have HB0 : Hid (Calls Tryd.prog 18 #[.pointer (some ⟨gp, 0, none⟩), lv, .slice p1 286 q1, .slice p2 30 q2] w13 (PenPost w1.heap.size gp (L ++ [lb] ++ num 2 2 ++ headBits zs ds first 19 rows ++ wds zs ds (ssg ts) (ssg ts).length) (penX gp sv5) w6)) := Lib.hid ((body_walk w13 w1.heap.size gp sv13 lv _ _ (L ++ [lb] ++ num 2 2 ++ headBits zs ds first 19 rows) (ssg ts) zs ds hp13 hrow13 hz13 hd13 (HOFF.out.1.next ho13.size hg13) (HOFF.out.2.next ho13.size hg13) ⟨HGZ.out, HL1.out.kr⟩ ⟨HGD.out, HL2.out.kr⟩ (sg_ok HOK.out HHC.out.1 HHC.out.2)
                  (fun k hk => by have := hsm k hk; have := HL1L.out; rw [List.length_append, List.length_append]; omega) (by have := HSL.out; omega) (Nat.le_trans HBW5.out (Nat.le_trans HS.out.size h613.size))).mono (fun e w' h => PenPost.before h h613 (Grew.trans (Grew.refl _ _) hg13 H6C.out.size)))
                have HSM := Lib.hid (hsm _ (Nat.le_refl _))
                have HHO := Lib.hid hho
                have HHL := Lib.hid hhl
                clear ho13 hp13 hg13 hho hhl hrow13 hz13 hd13 hsm h613
                go_wp2_with fail
                refine HB0.out.mono ?_
                rintro e w14 ⟨rfl, ho9, sv9, hp9, hg9⟩
                have HO9 := Lib.hid ho9
                have HP9 := Lib.hid hp9
                have HG9 := Lib.hid hg9
                clear ho9 hp9 hg9 HB0 e13 e14
                go_wp2_with fail
                have hwb := wds_body zs ds ts out HOK.out
                have hpx := HP9.out
                have hsm := HSM.out
                rw [hwb] at hpx hsm
                have hLM : L ++ [lb] ++ num 2 2 ++ headBits zs ds first 19 rows ++ body zs ds ts = L ++ (lb :: (num 2 2 ++ (headBits zs ds first 19 rows ++ body zs ds ts))) := by
                  simp only [List.append_assoc, List.cons_append, List.nil_append]
                rw [hLM] at hpx
                have hkd : (qs.getD i nop).kd % 3 = 2 := by rw [← HPT.out]; exact HK3.out
                have hbk := blkw_of (p := L.length) (out := out) lb (by decide : 2 < 4) (kindw_dyn (L.length + 3) HHO.out HL1.out.kr HL2.out.kr HHC.out.2 HOK.out HHC.out.1)
                rw [HLBE.out] at hbk hpx
                have hnx := coded_next HI.out hlt HAL.out HO5.out (M1 := [lb] ++ num 2 2) (by rw [← List.append_assoc]; exact HP5.out) HG5.out HS.out HO9.out hpx HG9.out
                  (by
                    rw [← HPT.out]
                    unfold wlen
                    rw [if_neg (by show ¬ kd % 3 = 0; have := HK3.out; omega)]
                    exact HEL.out)
                  (by
                    have := HHL.out
                    simp only [List.length_cons, List.length_append, num_length]
                    omega)
                  (by rw [hkd]; exact hbk)
                exact ⟨⟨i + 1, sv9, _, _, by omega, by go_num, hnx⟩, by simp [intOf]; omega⟩
      · obtain rfl : i = n := by omega
        have c0 := HI.out.pen.c0
        go_wp2_with fail
        refine bodyPost_ret (results_tmp2 rfl _ _ _) rfl ?_
        have hown := HI.out.pen.own
        rw [← pack_length] at hown
        have hf := HI.out.fin rfl (by omega)
        have hle := HW1.out.size
        refine ⟨sv, u5, L, out, rfl, HW1.out.trans HI.out.only, own_le hown (fun k hk => Nat.le_trans hle (own_lt hown k hk).1), own_le HI.out.own (fun k hk => Nat.le_trans hle (own_lt HI.out.own k hk).1), fun j hj hb => HI.out.apart j hj (.inr hb), ?_, ?_, ?_⟩
        · rw [← HQS.out, ← HNQ.out]; exact hf
        · rw [← HQS.out, ← HNQ.out]; exact HI.out.len
        · have := HI.out.size; omega
end Go.Proofs.YtefeilgbofphjaaDoor
