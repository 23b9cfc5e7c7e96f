/-
  InflateCaps, walked.
-/
import Derived.Test.YtefeilgbofphjaaDoorMg25
namespace Go.Proofs.YtefeilgbofphjaaDoor
open Go.RowKit Hf
/-- The last part of the law: any bytes. -/
def CapEnd (w : World) (e : Ending) (w' : World) : Prop := e = .returned (.bool true) ∧ OnlyS (fun _ => False) w w'
set_option maxRecDepth 100000 in
set_option maxHeartbeats 8000000 in
theorem caps_walk (w : World) (lv hv : Value) (ps : List Prt) (most : Nat) (ay : List UInt8) (hord : OrdAt w) (hps : PartsAt w w.heap.size lv ps) (_hpl : ps.length ≤ 9223372036854775807) (hmo : most < 65536) (hay : SlV w hv (bl ay)) (hao : ∀ p n cap, hv = .slice (some p) n cap → 0 < n → p.block < w.heap.size) (hayl : ay.length ≤ 9223372036854775807) (HW : Calls Tryd.prog 6 #[lv] w (WrPost ps w)) :
    Calls Tryd.prog 4 #[lv, .int .u16 (most : Int), hv] w (CapEnd w) := by
  obtain ⟨pl, cl, hsl, hlc⟩ := hps.shape
  obtain ⟨m, hm⟩ : ∃ m, m = ps.length := ⟨_, rfl⟩
  rw [← hm] at hsl
  subst hsl
  obtain ⟨ph, ch, hsh⟩ := hay.shape
  rw [bl_length] at hsh
  obtain ⟨nh, hnh⟩ : ∃ nh, nh = ay.length := ⟨_, rfl⟩
  rw [← hnh] at hsh hayl
  subst hsh
  obtain ⟨kh, hkh⟩ : ∃ kh, kh = min nh 300 := ⟨_, rfl⟩
  have hmin : min (nh : Int) 300 = (kh : Int) := by omega
  have hcut2 := to23 hay kh (by omega)
  have hayk : SlV w (.slice ph kh ch) (bl (ay.take kh)) := by
    have h := hay.take kh (by omega)
    rwa [bl_take] at h
  have hlk : (ay.take kh).length = kh := by rw [List.length_take]; omega
  obtain ⟨an, han⟩ : ∃ an, an = ay.take kh := ⟨_, rfl⟩
  rw [← han] at hayk hlk
  have hk300 : kh ≤ 300 := by omega
  have hkb : ∀ p n cap, (Value.slice ph kh ch) = .slice (some p) n cap → 0 < n → p.block < w.heap.size := fun p n cap e h0 => by
    cases e
    exact hao _ _ _ rfl (by omega)
  have HM := Lib.hid hm
  have HAY := Lib.hid hayk
  have HLK := Lib.hid hlk
  have HKB := Lib.hid hkb
  have HORD := Lib.hid hord
  have HW0 := Lib.hid HW
  clear HW hps hm hnh hkh hay hao hayk hlk hkb hord hlc han
  go_enter Tryd.func4, Tryd.ntmps4
  go_wp2_with fail
  refine HW0.out.mono ?_
  rintro e w1 ⟨bv, ov, L, out, rfl, ho1, hb1, hv1, hne, hE, hol, hL⟩
  obtain ⟨pb, cb, hsb⟩ := own_shape hb1
  obtain ⟨po, co, hso⟩ := own_shape hv1
  obtain ⟨nb, hnb⟩ : ∃ nb, nb = (pack L).length := ⟨_, rfl⟩
  obtain ⟨no, hno⟩ : ∃ no, no = out.length := ⟨_, rfl⟩
  rw [← hnb] at hsb hb1
  rw [← hno] at hso hv1
  have hnbl : nb ≤ 20000 := by rw [hnb, pack_length]; omega
  have hnol : no ≤ 10000 := by
    rw [hno, hol]
    have := ol_le (partsOf ps) (partsOf ps).length
    have h2 : (partsOf ps).length ≤ 5 := by rw [wrote_len rfl]; omega
    omega
  subst hsb hso
  have hbv : ∀ W, OnlyS (fun _ => False) w1 W → SlV W (.slice pb nb cb) (bl (pack L)) := fun W h => (own_toV hb1).only h (fun _ _ _ _ _ h => h)
  have hbb : ∀ W, OnlyS (fun _ => False) w1 W → ∀ p m cap, (Value.slice pb nb cb) = .slice (some p) m cap → 0 < m → p.block < W.heap.size := fun W h p m cap e h0 => Nat.lt_of_lt_of_le (own_blk hb1 p m cap e h0) h.size
  have hall : ∀ mo, no ≤ mo → ∃ r, Inf.all (pack L) mo = .ok ((kb (partsOf ps).length (partsOf ps) (partsOf ps).length, out), r) ∧ r.length / 8 = 0 := fun mo h => by
    obtain ⟨r, h1, h2⟩ := hE.all [] mo (by omega)
    rw [List.append_nil] at h1
    exact ⟨r, h1, h2⟩
  have hcap : ∀ mo, mo < no → Inf.all (pack L) mo = .error 22 := fun mo h => by
    have h1 := hE.caps [] mo (by omega)
    rwa [List.append_nil] at h1
  have HCO : Hid (∀ W mo, OnlyS (fun _ => False) w1 W → no ≤ mo → mo ≤ 1073741824 → Calls Tryd.prog 7 #[.slice pb nb cb, .int .i64 (mo : Int)] W (fun e w' => OnlyS (fun _ => False) W w' ∧ ∃ p c, e = .returned (.tuple #[.slice p no c, .int .i64 (nb : Int), .int .i64 0]) ∧ SlV w' (.slice p no c) (bl out))) := Lib.hid (fun W mo h h1 h2 => by
    obtain ⟨r, e1, e2⟩ := hall mo h1
    refine (all_ok (HORD.out.only (ho1.trans h) (fun h => h)) _ (pack L) mo (hbv W h) (by omega) (hbb W h) h2 _ out r (nb : Int) e1 (by omega)).mono (fun e w' h => ?_)
    rw [hno]
    exact h)
  have HCE : Hid (∀ W mo, OnlyS (fun _ => False) w1 W → mo < no → Calls Tryd.prog 7 #[.slice pb nb cb, .int .i64 (mo : Int)] W (GotEr W 22)) := Lib.hid (fun W mo h h1 => all_er (HORD.out.only (ho1.trans h) (fun h => h)) _ (pack L) mo (hbv W h) (by omega) (hbb W h) (by omega) 22 (hcap mo h1))
  have HV1 := Lib.hid (own_toV hv1)
  have HO1 := Lib.hid ho1
  clear HW0 ho1 hb1 hv1 hE hol hL hnb hno hne hbv hbb hall hcap
  rcases Nat.lt_or_ge most no with hlt | hge
  · -- the cap is too small
    have hn0 : 0 < no := by omega
    have HC1 := Lib.hid (HCE.out w1 most (OnlyS.refl _ _) hlt)
    have hd0 : decide ((most : Int) ≥ (no : Int)) = false := decide_eq_false (by omega)
    have hd00 : decide ((no : Int) ≤ (most : Int)) = false := decide_eq_false (by omega)
    have hdp : decide ((no : Int) > 0) = true := decide_eq_true (by omega)
    have hdp2 : decide ((0 : Int) < (no : Int)) = true := decide_eq_true (by omega)
    go_wp2_with fail
    refine HC1.out.mono ?_
    rintro e w2 ⟨ho2, rfl⟩
    have HC2 := Lib.hid (HCE.out w2 (no - 1) ho2 (by omega))
    rw [show ((no - 1 : Nat) : Int) = (no : Int) - 1 by omega] at HC2
    have HO2 := Lib.hid (HO1.out.trans ho2)
    clear HC1 ho2 HCE HCO
    go_wp2_with fail
    refine HC2.out.mono ?_
    rintro e w3 ⟨ho3, rfl⟩
    have HO3 := Lib.hid (HO2.out.trans ho3)
    clear HC2 ho3 HO2
    go_wp2_with fail
    have hayW : SlV w3 (.slice ph kh ch) (bl an) := HAY.out.only HO3.out (fun _ _ _ _ _ h => h)
    have hcutW := fun u (h : u ≤ kh) => to23 hayW u h
    cases hR : Inf.all an most with
    | error er =>
      have her := all_ers hR
      have HCA := Lib.hid (all_er (HORD.out.only HO3.out (fun h => h)) (.slice ph kh ch) an most hayW (by rw [HLK.out]; omega) (fun p n c e h0 => Nat.lt_of_lt_of_le (HKB.out p n c e h0) HO3.out.size) (by omega) er hR)
      clear hR hayW hcutW
      go_wp2_with fail
      refine HCA.out.mono ?_
      rintro e w5 ⟨ho5, rfl⟩
      have HT := Lib.hid (tells_walk w5 (HORD.out.only (HO3.out.trans ho5) (fun h => h)))
      have HO5 := Lib.hid (HO3.out.trans ho5)
      clear HCA ho5
      rcases her with rfl | rfl | rfl
      all_goals go_wp2_with (go_at_call 9; refine HT.out.mono ?_; rintro e w7 ⟨rfl, ho7⟩; have HO7 := Lib.hid ho7; clear ho7)
      all_goals go_ret
      all_goals exact ⟨rfl, HO5.out.trans HO7.out⟩
    | ok p =>
      obtain ⟨⟨ks, o⟩, r⟩ := p
      obtain ⟨a1, a2, r2, a3, a4⟩ := all_again hR
      rw [HLK.out] at a2 a3
      obtain ⟨u, hu⟩ : ∃ u, u = kh - r.length / 8 := ⟨_, rfl⟩
      rw [← hu] at a3
      have huk : u ≤ kh := by omega
      have HCA := Lib.hid (all_ok (HORD.out.only HO3.out (fun h => h)) (.slice ph kh ch) an most hayW (by rw [HLK.out]; omega) (fun p n c e h0 => Nat.lt_of_lt_of_le (HKB.out p n c e h0) HO3.out.size) (by omega) ks o r (u : Int) hR (by rw [HLK.out]; omega))
      have hcut5 := hcutW u huk
      have hlu : (an.take u).length = u := by rw [List.length_take, HLK.out]; omega
      have HAU : Hid (SlV w3 (.slice ph u ch) (bl (an.take u))) := Lib.hid (by rw [← bl_take]; exact hayW.take u huk)
      obtain ⟨n5, hn5⟩ : ∃ n5, n5 = o.length := ⟨_, rfl⟩
      have HN5 := Lib.hid hn5
      have HA3 := Lib.hid a3
      have HA4 := Lib.hid a4
      have HLU := Lib.hid hlu
      have hom : n5 ≤ most := by omega
      unfold GotOk at HCA
      rw [← hn5] at HCA
      clear hR hayW hcutW hu hlu hn5 a1 a2 a3 a4
      go_wp2_with fail
      refine HCA.out.mono ?_
      rintro e w5 ⟨ho5, p5, c5, rfl, s5⟩
      have hau5 := HAU.out.only ho5 (fun _ _ _ _ _ h => h)
      have HCB := Lib.hid (all_ok (HORD.out.only (HO3.out.trans ho5) (fun h => h)) (.slice ph u ch) (an.take u) n5 hau5 (by rw [HLU.out]; omega) (fun p n c e h0 => by cases e; exact Nat.lt_of_lt_of_le (HKB.out p kh ch rfl (by omega)) (HO3.out.trans ho5).size) (by omega) ks o r2 (u : Int) (by rw [HN5.out]; exact HA3.out) (by rw [HLU.out, HA4.out]; omega))
      unfold GotOk at HCB
      rw [← HN5.out] at HCB
      have HO5 := Lib.hid (HO3.out.trans ho5)
      have HS5 := Lib.hid s5
      clear HCA ho5 s5 hau5
      go_wp2_with fail
      refine HCB.out.mono ?_
      rintro e w6 ⟨ho6, p6, c6, rfl, s6⟩
      have k5 : (convert 23 9 (.slice p5 n5 c5)).run Tryd.prog w6 = .ok (.string ⟨o.toArray⟩) w6 := run_toStr (HS5.out.only ho6 (fun _ _ _ _ _ h => h))
      have k6 : (convert 23 9 (.slice p6 n5 c6)).run Tryd.prog w6 = .ok (.string ⟨o.toArray⟩) w6 := run_toStr s6
      have HT := Lib.hid (tells_walk w6 (HORD.out.only (HO5.out.trans ho6) (fun h => h)))
      have HO6 := Lib.hid (HO5.out.trans ho6)
      have hd1 : decide ((n5 : Int) ≤ (most : Int)) = true := decide_eq_true (by omega)
      have hd2 : decide ((u : Int) ≤ (kh : Int)) = true := decide_eq_true (by omega)
      clear HCB ho6 s6 hcut5
      go_wp2_with (go_at_call 9; refine HT.out.mono ?_; rintro e w7 ⟨rfl, ho7⟩; have HO7 := Lib.hid ho7; clear ho7)
      all_goals go_ret
      all_goals exact ⟨rfl, HO6.out.trans HO7.out⟩
  · have HC1 := Lib.hid (HCO.out w1 most (OnlyS.refl _ _) hge (by omega))
    have hd0 : decide ((most : Int) ≥ (no : Int)) = true := decide_eq_true (by omega)
    have hd00 : decide ((no : Int) ≤ (most : Int)) = true := decide_eq_true (by omega)
    go_wp2_with fail
    refine HC1.out.mono ?_
    rintro e w2 ⟨ho2, p2, c2, rfl, s2⟩
    have k2 : (convert 23 9 (.slice p2 no c2)).run Tryd.prog w2 = .ok (.string ⟨out.toArray⟩) w2 := run_toStr s2
    have kv : (convert 23 9 (.slice po no co)).run Tryd.prog w2 = .ok (.string ⟨out.toArray⟩) w2 := run_toStr (HV1.out.only ho2 (fun _ _ _ _ _ h => h))
    have HQ2 := Lib.hid ho2
    have HO2 := Lib.hid (HO1.out.trans ho2)
    clear HC1 ho2 s2 HCO
    rcases Nat.eq_zero_or_pos no with hz | hn0
    · have hdp : decide ((no : Int) > 0) = false := decide_eq_false (by omega)
      have hdp2 : decide ((0 : Int) < (no : Int)) = false := decide_eq_false (by omega)
      have hdp3 : decide (0 < no) = false := decide_eq_false (by omega)
      clear HCE hz
      go_wp2_with fail
      clear k2 kv hd0 hd00 hdp hdp2 hdp3
      have hayW : SlV w2 (.slice ph kh ch) (bl an) := HAY.out.only HO2.out (fun _ _ _ _ _ h => h)
      have hcutW := fun u (h : u ≤ kh) => to23 hayW u h
      cases hR : Inf.all an most with
      | error er =>
        have her := all_ers hR
        have HCA := Lib.hid (all_er (HORD.out.only HO2.out (fun h => h)) (.slice ph kh ch) an most hayW (by rw [HLK.out]; omega) (fun p n c e h0 => Nat.lt_of_lt_of_le (HKB.out p n c e h0) HO2.out.size) (by omega) er hR)
        clear hR hayW hcutW
        go_wp2_with fail
        refine HCA.out.mono ?_
        rintro e w5 ⟨ho5, rfl⟩
        have HT := Lib.hid (tells_walk w5 (HORD.out.only (HO2.out.trans ho5) (fun h => h)))
        have HO5 := Lib.hid (HO2.out.trans ho5)
        clear HCA ho5
        rcases her with rfl | rfl | rfl
        all_goals go_wp2_with (go_at_call 9; refine HT.out.mono ?_; rintro e w7 ⟨rfl, ho7⟩; have HO7 := Lib.hid ho7; clear ho7)
        all_goals go_ret
        all_goals exact ⟨rfl, HO5.out.trans HO7.out⟩
      | ok p =>
        obtain ⟨⟨ks, o⟩, r⟩ := p
        obtain ⟨a1, a2, r2, a3, a4⟩ := all_again hR
        rw [HLK.out] at a2 a3
        obtain ⟨u, hu⟩ : ∃ u, u = kh - r.length / 8 := ⟨_, rfl⟩
        rw [← hu] at a3
        have huk : u ≤ kh := by omega
        have HCA := Lib.hid (all_ok (HORD.out.only HO2.out (fun h => h)) (.slice ph kh ch) an most hayW (by rw [HLK.out]; omega) (fun p n c e h0 => Nat.lt_of_lt_of_le (HKB.out p n c e h0) HO2.out.size) (by omega) ks o r (u : Int) hR (by rw [HLK.out]; omega))
        have hcut5 := hcutW u huk
        have hlu : (an.take u).length = u := by rw [List.length_take, HLK.out]; omega
        have HAU : Hid (SlV w2 (.slice ph u ch) (bl (an.take u))) := Lib.hid (by rw [← bl_take]; exact hayW.take u huk)
        obtain ⟨n5, hn5⟩ : ∃ n5, n5 = o.length := ⟨_, rfl⟩
        have HN5 := Lib.hid hn5
        have HA3 := Lib.hid a3
        have HA4 := Lib.hid a4
        have HLU := Lib.hid hlu
        have hom : n5 ≤ most := by omega
        unfold GotOk at HCA
        rw [← hn5] at HCA
        clear hR hayW hcutW hu hlu hn5 a1 a2 a3 a4
        go_wp2_with fail
        refine HCA.out.mono ?_
        rintro e w5 ⟨ho5, p5, c5, rfl, s5⟩
        have hau5 := HAU.out.only ho5 (fun _ _ _ _ _ h => h)
        have HCB := Lib.hid (all_ok (HORD.out.only (HO2.out.trans ho5) (fun h => h)) (.slice ph u ch) (an.take u) n5 hau5 (by rw [HLU.out]; omega) (fun p n c e h0 => by cases e; exact Nat.lt_of_lt_of_le (HKB.out p kh ch rfl (by omega)) (HO2.out.trans ho5).size) (by omega) ks o r2 (u : Int) (by rw [HN5.out]; exact HA3.out) (by rw [HLU.out, HA4.out]; omega))
        unfold GotOk at HCB
        rw [← HN5.out] at HCB
        have HO5 := Lib.hid (HO2.out.trans ho5)
        have HS5 := Lib.hid s5
        clear HCA ho5 s5 hau5
        go_wp2_with fail
        refine HCB.out.mono ?_
        rintro e w6 ⟨ho6, p6, c6, rfl, s6⟩
        have k5 : (convert 23 9 (.slice p5 n5 c5)).run Tryd.prog w6 = .ok (.string ⟨o.toArray⟩) w6 := run_toStr (HS5.out.only ho6 (fun _ _ _ _ _ h => h))
        have k6 : (convert 23 9 (.slice p6 n5 c6)).run Tryd.prog w6 = .ok (.string ⟨o.toArray⟩) w6 := run_toStr s6
        have HT := Lib.hid (tells_walk w6 (HORD.out.only (HO5.out.trans ho6) (fun h => h)))
        have HO6 := Lib.hid (HO5.out.trans ho6)
        have hd1 : decide ((n5 : Int) ≤ (most : Int)) = true := decide_eq_true (by omega)
        have hd2 : decide ((u : Int) ≤ (kh : Int)) = true := decide_eq_true (by omega)
        clear HCB ho6 s6 hcut5
        go_wp2_with (go_at_call 9; refine HT.out.mono ?_; rintro e w7 ⟨rfl, ho7⟩; have HO7 := Lib.hid ho7; clear ho7)
        all_goals go_ret
        all_goals exact ⟨rfl, HO6.out.trans HO7.out⟩
    · have hdp : decide ((no : Int) > 0) = true := decide_eq_true (by omega)
      have hdp2 : decide ((0 : Int) < (no : Int)) = true := decide_eq_true (by omega)
      have HC2 := Lib.hid (HCE.out w2 (no - 1) HQ2.out (by omega))
      rw [show ((no - 1 : Nat) : Int) = (no : Int) - 1 by omega] at HC2
      clear HCE
      go_wp2_with fail
      clear k2 kv
      refine HC2.out.mono ?_
      rintro e w3 ⟨ho3, rfl⟩
      have HO3 := Lib.hid (HO2.out.trans ho3)
      clear HC2 ho3 HO2 hd0 hd00 hdp hdp2
      go_wp2_with fail
      have hayW : SlV w3 (.slice ph kh ch) (bl an) := HAY.out.only HO3.out (fun _ _ _ _ _ h => h)
      have hcutW := fun u (h : u ≤ kh) => to23 hayW u h
      cases hR : Inf.all an most with
      | error er =>
        have her := all_ers hR
        have HCA := Lib.hid (all_er (HORD.out.only HO3.out (fun h => h)) (.slice ph kh ch) an most hayW (by rw [HLK.out]; omega) (fun p n c e h0 => Nat.lt_of_lt_of_le (HKB.out p n c e h0) HO3.out.size) (by omega) er hR)
        clear hR hayW hcutW
        go_wp2_with fail
        refine HCA.out.mono ?_
        rintro e w5 ⟨ho5, rfl⟩
        have HT := Lib.hid (tells_walk w5 (HORD.out.only (HO3.out.trans ho5) (fun h => h)))
        have HO5 := Lib.hid (HO3.out.trans ho5)
        clear HCA ho5
        rcases her with rfl | rfl | rfl
        all_goals go_wp2_with (go_at_call 9; refine HT.out.mono ?_; rintro e w7 ⟨rfl, ho7⟩; have HO7 := Lib.hid ho7; clear ho7)
        all_goals go_ret
        all_goals exact ⟨rfl, HO5.out.trans HO7.out⟩
      | ok p =>
        obtain ⟨⟨ks, o⟩, r⟩ := p
        obtain ⟨a1, a2, r2, a3, a4⟩ := all_again hR
        rw [HLK.out] at a2 a3
        obtain ⟨u, hu⟩ : ∃ u, u = kh - r.length / 8 := ⟨_, rfl⟩
        rw [← hu] at a3
        have huk : u ≤ kh := by omega
        have HCA := Lib.hid (all_ok (HORD.out.only HO3.out (fun h => h)) (.slice ph kh ch) an most hayW (by rw [HLK.out]; omega) (fun p n c e h0 => Nat.lt_of_lt_of_le (HKB.out p n c e h0) HO3.out.size) (by omega) ks o r (u : Int) hR (by rw [HLK.out]; omega))
        have hcut5 := hcutW u huk
        have hlu : (an.take u).length = u := by rw [List.length_take, HLK.out]; omega
        have HAU : Hid (SlV w3 (.slice ph u ch) (bl (an.take u))) := Lib.hid (by rw [← bl_take]; exact hayW.take u huk)
        obtain ⟨n5, hn5⟩ : ∃ n5, n5 = o.length := ⟨_, rfl⟩
        have HN5 := Lib.hid hn5
        have HA3 := Lib.hid a3
        have HA4 := Lib.hid a4
        have HLU := Lib.hid hlu
        have hom : n5 ≤ most := by omega
        unfold GotOk at HCA
        rw [← hn5] at HCA
        clear hR hayW hcutW hu hlu hn5 a1 a2 a3 a4
        go_wp2_with fail
        refine HCA.out.mono ?_
        rintro e w5 ⟨ho5, p5, c5, rfl, s5⟩
        have hau5 := HAU.out.only ho5 (fun _ _ _ _ _ h => h)
        have HCB := Lib.hid (all_ok (HORD.out.only (HO3.out.trans ho5) (fun h => h)) (.slice ph u ch) (an.take u) n5 hau5 (by rw [HLU.out]; omega) (fun p n c e h0 => by cases e; exact Nat.lt_of_lt_of_le (HKB.out p kh ch rfl (by omega)) (HO3.out.trans ho5).size) (by omega) ks o r2 (u : Int) (by rw [HN5.out]; exact HA3.out) (by rw [HLU.out, HA4.out]; omega))
        unfold GotOk at HCB
        rw [← HN5.out] at HCB
        have HO5 := Lib.hid (HO3.out.trans ho5)
        have HS5 := Lib.hid s5
        clear HCA ho5 s5 hau5
        go_wp2_with fail
        refine HCB.out.mono ?_
        rintro e w6 ⟨ho6, p6, c6, rfl, s6⟩
        have k5 : (convert 23 9 (.slice p5 n5 c5)).run Tryd.prog w6 = .ok (.string ⟨o.toArray⟩) w6 := run_toStr (HS5.out.only ho6 (fun _ _ _ _ _ h => h))
        have k6 : (convert 23 9 (.slice p6 n5 c6)).run Tryd.prog w6 = .ok (.string ⟨o.toArray⟩) w6 := run_toStr s6
        have HT := Lib.hid (tells_walk w6 (HORD.out.only (HO5.out.trans ho6) (fun h => h)))
        have HO6 := Lib.hid (HO5.out.trans ho6)
        have hd1 : decide ((n5 : Int) ≤ (most : Int)) = true := decide_eq_true (by omega)
        have hd2 : decide ((u : Int) ≤ (kh : Int)) = true := decide_eq_true (by omega)
        clear HCB ho6 s6 hcut5
        go_wp2_with (go_at_call 9; refine HT.out.mono ?_; rintro e w7 ⟨rfl, ho7⟩; have HO7 := Lib.hid ho7; clear ho7)
        all_goals go_ret
        all_goals exact ⟨rfl, HO6.out.trans HO7.out⟩
end Go.Proofs.YtefeilgbofphjaaDoor
