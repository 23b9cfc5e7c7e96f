/-
  Merged, in the order in which they build: Bkw Wrq.
-/
import Derived.Deep.QuietTactic
import Derived.BigQuiet
import Derived.Test.YtefeilgbofphjaaDoorMg24
/-
  InflateBack, walked.
-/
namespace Go.Proofs.YtefeilgbofphjaaDoor
open Go.RowKit Hf
theorem drewN_only {S : Nat → Prop} (w : World) (n : Nat) : OnlyS S w (w.drewN n) := ⟨rfl, rfl, rfl, Nat.le_refl _, fun _ _ _ => rfl⟩
theorem kcs_at : ∀ (ks : List Inf.Blk) (i : Nat) (d : Inf.Blk), i < ks.length → (kcs ks)[i * 4]? = some (.int .i64 ((ks.getD i d).kind : Int)) ∧ (kcs ks)[i * 4 + 1]? = some (.bool (ks.getD i d).last) ∧ (kcs ks)[i * 4 + 2]? = some (.int .i64 ((ks.getD i d).from_ : Int)) ∧ (kcs ks)[i * 4 + 3]? = some (.int .i64 ((ks.getD i d).to : Int))
  | [], i, d, h => by simp at h
  | c :: cs, 0, d, _ => ⟨rfl, rfl, rfl, rfl⟩
  | c :: cs, i + 1, d, h => by
    have := kcs_at cs i d (by simpa using h)
    have e : kcs (c :: cs) = .int .i64 (c.kind : Int) :: .bool c.last :: .int .i64 (c.from_ : Int) :: .int .i64 (c.to : Int) :: kcs cs := rfl
    rw [e, List.getD_cons_succ, show (i + 1) * 4 = i * 4 + 1 + 1 + 1 + 1 by omega]
    exact this
theorem kb_length (n : Nat) (ps : List Prt) : ∀ i, (kb n ps i).length = i
  | 0 => rfl
  | i + 1 => by rw [kb, List.length_append, kb_length n ps i]; rfl
theorem kb_getD (n : Nat) (ps : List Prt) (d : Inf.Blk) : ∀ m i, i < m → (kb n ps m).getD i d = ⟨(ps.getD i nop).kd % 3, decide (i + 1 = n), ol ps i, ol ps (i + 1)⟩
  | 0, i, h => by omega
  | m + 1, i, h => by
    rw [kb, List.getD_eq_getElem?_getD]
    by_cases hi : i < m
    · rw [List.getElem?_append_left (by rw [kb_length]; exact hi), ← List.getD_eq_getElem?_getD]
      exact kb_getD n ps d m i hi
    · obtain rfl : i = m := by omega
      rw [List.getElem?_append_right (by rw [kb_length]; exact Nat.le_refl _), kb_length, Nat.sub_self]
      rfl
theorem ol_mono (ps : List Prt) (i : Nat) : ol ps i ≤ ol ps (i + 1) := by
  rw [ol]
  unfold wlen
  split
  · omega
  · unfold plen
    have : ∀ (cs : List (Nat × Nat)) (l : Nat), l ≤ olen l cs := fun cs => by
      induction cs with
      | nil => intro l; exact Nat.le_refl _
      | cons c cs ih =>
        intro l
        have h1 : l ≤ olen1 l c := by unfold olen1; split <;> omega
        exact Nat.le_trans h1 (ih _)
    have := this ((ps.getD i nop).cs.take 6) (ol ps i + min (ps.getD i nop).bs.length 80)
    omega
theorem wrote_len {ps : List Prt} {m : Nat} (hm : m = ps.length) : (partsOf ps).length = max 1 (min m 5) := by
  unfold partsOf
  split
  · rename_i h
    subst h
    subst hm
    rfl
  · rename_i h
    rw [List.length_take]
    have : 0 < ps.length := List.length_pos_iff.2 h
    omega
set_option maxRecDepth 100000 in
set_option maxHeartbeats 8000000 in
theorem back_walk (w : World) (lv hv : Value) (ps : List Prt) (bh : List UInt8) (hord : OrdAt w) (hps : PartsAt w w.heap.size lv ps) (hpl : ps.length ≤ 9223372036854775807) (hbh : SlV w hv (bl bh)) (hbo : ∀ p n cap, hv = .slice (some p) n cap → 0 < n → p.block < w.heap.size) (hbl : bh.length ≤ 9223372036854775807) (HW : Calls Tryd.prog 6 #[lv] w (WrPost ps w)) :
    Calls Tryd.prog 3 #[lv, hv] w fun e w' => e = .returned (.bool true) ∧ OnlyS (fun _ => False) w w' := by
  obtain ⟨i5, hi, hz0, hz1, hz2⟩ := info_parts info5
  have HI5 := Lib.hid (And.intro hi (And.intro hz0 (And.intro hz1 hz2)))
  clear hi hz0 hz1 hz2
  obtain ⟨pl, cl, hsl, hlc⟩ := hps.shape
  obtain ⟨m, hm⟩ : ∃ m, m = ps.length := ⟨_, rfl⟩
  rw [← hm] at hsl hpl
  subst hsl
  obtain ⟨ph, ch, hsh⟩ := hbh.shape
  rw [bl_length] at hsh
  obtain ⟨nh, hnh⟩ : ∃ nh, nh = bh.length := ⟨_, rfl⟩
  rw [← hnh] at hsh hbl
  subst hsh
  have HPS := Lib.hid hps
  have HM := Lib.hid hm
  have HNH := Lib.hid hnh
  have HBH := Lib.hid hbh
  have HBO := Lib.hid hbo
  have HORD := Lib.hid hord
  have HW0 := Lib.hid HW
  have hcut := to23 hbh
  clear HW hps hm hnh hbh hbo hord hlc
  go_enter Tryd.func3, Tryd.ntmps3
  go_wp2_with fail
  refine HW0.out.mono ?_
  rintro e w1 ⟨bv, ov, L, out, rfl, ho1, hb1, hv1, hne, hE, hol, hL⟩
  obtain ⟨pb, cb, hsb⟩ := own_shape hb1
  obtain ⟨po, co, hso⟩ := own_shape hv1
  obtain ⟨nb, hnb⟩ : ∃ nb, nb = (pack L).length := ⟨_, rfl⟩
  obtain ⟨no, hno⟩ : ∃ no, no = out.length := ⟨_, rfl⟩
  rw [← hnb] at hsb hb1
  rw [← hno] at hso hv1
  have hnbl : nb ≤ 20000 := by rw [hnb, pack_length]; omega
  have hnol : no ≤ 10000 := by
    rw [hno, hol]
    have := ol_le (partsOf ps) (partsOf ps).length
    have h2 : (partsOf ps).length ≤ 5 := by rw [wrote_len rfl]; omega
    omega
  have hnb1 : 1 ≤ nb := by rw [hnb, pack_length]; have := hE.pos; omega
  subst hsb hso
  obtain ⟨kh, hkh⟩ : ∃ kh, kh = min nh 20 := ⟨_, rfl⟩
  have hmin : min (nh : Int) 20 = (kh : Int) := by omega
  have hcut2 := hcut kh (by omega)
  have HO1 := Lib.hid ho1
  have HB1 := Lib.hid hb1
  have HV1 := Lib.hid hv1
  have HE := Lib.hid hE
  have HOL := Lib.hid hol
  have HNB := Lib.hid hnb
  have HNO := Lib.hid hno
  have HKH := Lib.hid hkh
  have HA1 : Hid (w1.ownsRow w1.heap.size 5 1 (.slice none 0 0) 0 (bl [])) := Lib.hid (World.ownsRow_nil _ _ _ _)
  have HA2 : Hid (SlK 1 w1 (.slice pb nb cb) nb (bl (pack L))) := Lib.hid (own_SlK hb1)
  clear HW0 hcut ho1 hb1 hv1 hE hol hL hnb hno hkh hne
  have HX2 : ∀ (w2 : World), OnlyS (fun _ => False) w1 w2 → SlK 1 w2 (.slice ph kh ch) kh (bl (bh.take kh)) := fun w2 ho => by
    have h := ((HBH.out.only HO1.out (fun _ _ _ _ _ h => h)).only ho (fun _ _ _ _ _ h => h)).take kh (by have := HKH.out; omega)
    rw [bl_take] at h
    have h2 := h.toK
    rw [bl_length, List.length_take, ← HNH.out, Nat.min_eq_left (by have := HKH.out; omega)] at h2
    exact h2
  have HX2 := Lib.hid HX2
  go_wp2_with (first
    | (refine wpList_appK 23 5 i5 (.int .u8 0) 1 1 Tryd.underlying23 HI5.out.1 HI5.out.2.1 HI5.out.2.2.1 HI5.out.2.2.2 rfl (by decide) (by decide) rfl (.tmp 30) (.tmp 31) rfl w1.heap.size (.slice p2 nb c2) (.slice ph kh ch) nb kh (bl [] ++ bl (pack L)) (bl (bh.take kh)) rfl rfl (bl_one _) HV2.out (HX2.out _ HG2.out) HG2.out.size (by omega) ?_; intro v3 w3 hown hgrow hat; have HO3 : Hid (OnlyS (fun _ => False) w1 w3) := Lib.hid (HG2.out.trans' (OnlyS.grown hgrow (fun k hk => hk)) (fun i hi => .inr (own_lt HV2.out i hi).1)); obtain ⟨p3, c3, hs3⟩ := own_shape hown; subst hs3; have HV3 := Lib.hid hown; clear hown hgrow hat)
    | (refine wpList_appK 23 5 i5 (.int .u8 0) 1 1 Tryd.underlying23 HI5.out.1 HI5.out.2.1 HI5.out.2.2.1 HI5.out.2.2.2 rfl (by decide) (by decide) rfl (.const (.slice none 0 0)) (.tmp 29) rfl w1.heap.size (.slice none 0 0) (.slice pb nb cb) 0 nb (bl []) (bl (pack L)) rfl rfl (bl_one _) HA1.out HA2.out (Nat.le_refl _) (by omega) ?_; intro v2 w2 hown hgrow hat; rw [Nat.zero_add] at hown; obtain ⟨p2, c2, hs2⟩ := own_shape hown; subst hs2; have HV2 := Lib.hid hown; have HG2 : Hid (OnlyS (fun _ => False) w1 w2) := Lib.hid (OnlyS.grown hgrow (fun k hk => by simp [Value.ownBlock] at hk)); clear hown hgrow hat))
  have hall := HE.out.all (bh.take kh) no (by rw [HNO.out]; exact Nat.le_refl _)
  obtain ⟨r3, hall3, hr3⟩ := hall
  have hlk : (bh.take kh).length = kh := by rw [List.length_take, ← HNH.out]; have := HKH.out; omega
  have hsv3 : SlV w3 (.slice p3 (nb + kh) c3) (bl (pack L ++ bh.take kh)) := by
    have h := own_toV HV3.out
    rw [← bl_append, ← bl_append, List.nil_append] at h
    exact h
  have hO3 : OnlyS (fun _ => False) w w3 := HO1.out.trans HO3.out
  have HC7 : Hid (Calls Tryd.prog 7 #[.slice p3 (nb + kh) c3, .int .i64 (no : Int)] w3 fun e w' => OnlyS (fun _ => False) w3 w' ∧ ∃ p c, e = .returned (.tuple #[.slice p no c, .int .i64 (nb : Int), .int .i64 0]) ∧ SlV w' (.slice p no c) (bl out)) := Lib.hid ((all_ok (HORD.out.only hO3 (fun h => h)) (.slice p3 (nb + kh) c3) (pack L ++ bh.take kh) no hsv3 (by rw [List.length_append, hlk, ← HNB.out]; have := HKH.out; omega) (fun p m c e h0 => own_blk HV3.out p m c e h0) (by omega) _ out r3 (nb : Int) hall3 (by rw [List.length_append, hr3, hlk, ← HNB.out]; omega)).mono (fun e w' h => by rw [HNO.out]; exact h))
  have HO3' := Lib.hid hO3
  clear hall3 hr3 hlk hsv3 hO3
  go_wp2_with fail
  refine HC7.out.mono ?_
  rintro e w4 ⟨ho4, p4, c4, rfl, s4⟩
  have hb4 : w4.ownsRow w.heap.size 5 1 (.slice pb nb cb) nb (bl (pack L)) := own_stays HB1.out (fun k hk => (HO3.out.trans ho4).block k (own_lt HB1.out k hk).2 (fun h => h))
  have hcut4 : ∀ w', (Instr.sliceAt 23 (.slice pb nb cb) none (some (.int .i64 ((nb : Int) - 1))) none).run Tryd.prog w' = .ok (.slice pb (nb - 1) cb) w' := by
    have h := to23 (own_toV hb4) (nb - 1) (by omega)
    rw [show ((nb - 1 : Nat) : Int) = (nb : Int) - 1 by omega] at h
    exact h
  have hO4 : OnlyS (fun _ => False) w w4 := HO3'.out.trans ho4
  have hsv4 : SlV w4 (.slice pb (nb - 1) cb) (bl ((pack L).take (nb - 1))) := by rw [← bl_take]; exact (own_toV hb4).take (nb - 1) (by omega)
  have hless := HE.out.less no (by rw [HNO.out]; exact Nat.le_refl _)
  rw [← HNB.out] at hless
  have HC8 := Lib.hid (all_er (HORD.out.only hO4 (fun h => h)) (.slice pb (nb - 1) cb) ((pack L).take (nb - 1)) no hsv4 (by rw [List.length_take]; omega) (fun p m c e h0 => by cases e; exact own_blk hb4 _ _ _ rfl (by omega)) (by omega) 4 hless)
  have HB4 := Lib.hid hb4
  have HO14 := Lib.hid (HO3.out.trans ho4)
  have HO4 := Lib.hid hO4
  have HS4 := Lib.hid s4
  clear HC7 ho4 s4 hb4 hO4 hsv4 hless
  go_wp2_with fail
  refine HC8.out.mono ?_
  rintro e w5 ⟨ho5, rfl⟩
  clear hcut4
  have hO5 : OnlyS (fun _ => False) w w5 := HO4.out.trans ho5
  have hb5 : w5.ownsRow w.heap.size 5 1 (.slice pb nb cb) nb (bl (pack L)) := own_stays HB4.out (fun k hk => ho5.block k (own_lt HB4.out k hk).2 (fun h => h))
  obtain ⟨r5, hall5, hr5⟩ := HE.out.all [] no (by rw [HNO.out]; exact Nat.le_refl _)
  rw [List.append_nil] at hall5
  obtain ⟨n, hn⟩ : ∃ n, n = (partsOf ps).length := ⟨_, rfl⟩
  have hord5 := HORD.out.only hO5 (fun h => h)
  have HC9 : Hid (Calls Tryd.prog 8 #[.slice pb nb cb, .int .i64 (no : Int)] w5 fun e w' => OnlyS (fun _ => False) w5 w' ∧ ∃ u, e = .returned (.tuple #[u, .int .i64 0]) ∧ w'.ownsRow w5.heap.size 33 4 u n (kcs (kb n (partsOf ps) n))) := Lib.hid ((blocks_walk w5 (ord_pos hord5) hord5 (.slice pb nb cb) (pack L) no (own_toV hb5) (by rw [← HNB.out]; omega) (fun p m c e h0 => own_blk hb5 p m c e h0) (by omega)).mono (fun e w' h => by
    obtain ⟨h1, h2⟩ := h
    rw [hall5] at h2
    obtain ⟨u, h3, h4⟩ := h2
    rw [kb_length, ← hn] at h4
    exact ⟨h1, u, h3, h4⟩))
  have HO5 := Lib.hid hO5
  have HO45 := Lib.hid ho5
  have HN := Lib.hid hn
  clear HC8 ho5 hO5 hb5 hall5 hr5 hord5 hn
  go_wp2_with fail
  refine HC9.out.mono ?_
  rintro e w6 ⟨ho6, u, rfl, hu⟩
  obtain ⟨pu, cu, hsu⟩ := own_shape hu
  subst hsu
  have k4 := run_toStr ((HS4.out.only HO45.out (fun _ _ _ _ _ h => h)).only ho6 (fun _ _ _ _ _ h => h))
  have kv := run_toStr (((own_toV HV1.out).only HO14.out (fun _ _ _ _ _ h => h)).only (HO45.out.trans ho6) (fun _ _ _ _ _ h => h))
  have hmx : max (1 : Int) (min (m : Int) 5) = (n : Int) := by have := HN.out; have := wrote_len HM.out; omega
  have HU := Lib.hid hu
  have HO6 := Lib.hid (HO5.out.trans ho6)
  clear hu ho6 HC9
  go_wp2_with fail
  clear k4 kv hmx
  have hn5 : n ≤ 5 := by have := HN.out; have := wrote_len HM.out; omega
  have H0 : Hid (ol (partsOf ps) 0 = 0) := Lib.hid rfl
  go_loopw [15, 92] (fun v15 v92 wr => ∃ i : Nat, i ≤ n ∧ v92 = .int .i64 (i : Int) ∧ v15 = .int .i64 ((ol (partsOf ps) i : Nat) : Int) ∧ OnlyS (fun _ => False) w6 wr) (fun _ v92 _ => n - (intOf v92).toNat)
  case atStart => exact ⟨0, Nat.zero_le _, rfl, rfl, OnlyS.refl _ _⟩
  case round =>
    obtain ⟨i, hin, rfl, rfl, hor⟩ := hrel
    have HOR := Lib.hid hor
    by_cases hlt : i < n
    · have hlti : (i : Int) < (n : Int) := by omega
      obtain ⟨_, ⟨gu, ou, cu', hpu, hcu, hcs⟩ | ⟨_, hpu, hnu⟩⟩ := (own_SlK HU.out).only hor (fun _ _ _ _ _ h => h)
      · cases hpu
        have hk := kcs_at (kb n (partsOf ps) n) i ⟨0, false, 0, 0⟩ (by rw [kb_length]; exact hlt)
        rw [kb_getD _ _ _ _ _ hlt] at hk
        have e0 := hcs _ _ hk.1
        have e1 := hcs _ _ hk.2.1
        have e2 := hcs _ _ hk.2.2.1
        have e3 := hcs _ _ hk.2.2.2
        rw [← Nat.add_assoc] at e1 e2 e3
        simp only at e0 e1 e2 e3
        obtain ⟨s, hs⟩ : ∃ s, s = ol (partsOf ps) i := ⟨_, rfl⟩
        obtain ⟨e, he⟩ : ∃ e, e = ol (partsOf ps) (i + 1) := ⟨_, rfl⟩
        obtain ⟨lb, hlb⟩ : ∃ lb, lb = decide (i + 1 = n) := ⟨_, rfl⟩
        obtain ⟨q, hq⟩ : ∃ q, q = ((partsOf ps).getD i nop).kd % 3 := ⟨_, rfl⟩
        have hse := ol_mono (partsOf ps) i
        rw [← hs, ← he] at hse
        rw [← hq] at e0
        rw [← hlb] at e1
        rw [← hs] at e2 ⊢
        rw [← he] at e3
        have HEE := Lib.hid he
        have HQ := Lib.hid hq
        have hlbi : ((i : Int) == (n : Int) - 1) = lb := by
          rw [hlb]
          by_cases h : i + 1 = n
          · rw [decide_eq_true h, beq_iff_eq]; omega
          · rw [decide_eq_false h, beq_eq_false_iff_ne]; omega
        have hesi : ¬ (e : Int) < (s : Int) := by omega
        obtain ⟨wa, hwa⟩ : ∃ wa, wa = wr.alloc (.cells #[.int .i64 (q : Int), .bool lb, .int .i64 (s : Int), .int .i64 (e : Int)] 33) := ⟨_, rfl⟩
        have hra := heap_alloc_new wr (.cells #[.int .i64 (q : Int), .bool lb, .int .i64 (s : Int), .int .i64 (e : Int)] 33)
        rw [← hwa] at hra
        have hal : OnlyS (fun _ => False) wr wa := by rw [hwa]; exact OnlyS.alloc _ _
        have HWA := Lib.hid hwa
        have HAL := Lib.hid hal
        have x0 := cell_of_row _ _ 0 _ _ _ hra
        have x1 := cell_of_row _ _ 1 _ _ _ hra
        have x2 := cell_of_row _ _ 2 _ _ _ hra
        have x3 := cell_of_row _ _ 3 _ _ _ hra
        clear hs he hlb hq hwa hal hra hk hcs hcu
        by_cases him : i < m
        · have himi : (i : Int) < (m : Int) := by omega
          have hP : PartsAt wa w.heap.size (.slice pl m cl) ps := HPS.out.only (((HO6.out.trans HOR.out)).trans HAL.out) (fun _ h => h.elim)
          obtain ⟨gl, og, hpl2, f0, -, -⟩ := part_cells hP i (by rw [← HM.out]; exact him)
          subst hpl2
          obtain ⟨kd, hkd⟩ : ∃ kd, kd = (ps.getD i nop).kd := ⟨_, rfl⟩
          rw [← hkd] at f0
          have hkq : (kd : Int) % 3 = (q : Int) := by
            have h1 : (partsOf ps).getD i nop = ps.getD i nop := by
              unfold partsOf
              rw [if_neg (fun h => by have := HM.out; rw [h] at this; simp at this; omega), List.getD_eq_getElem?_getD, List.getElem?_take_of_lt (by omega), ← List.getD_eq_getElem?_getD]
            rw [HQ.out, h1, ← hkd]
            omega
          have hk256 : kd < 256 := by
            rw [hkd]
            have hil : i < ps.length := by rw [← HM.out]; exact him
            rw [List.getD_eq_getElem?_getD, List.getElem?_eq_getElem hil]
            exact (HPS.out.each _ (List.getElem_mem hil)).2.1
          clear hP hkd
          go_wp2_with fail
          rw [← HWA.out]
          go_quiet (fail)
          simp only [Exit.then]
          go_wp2_with fail
          exact ⟨⟨i + 1, by omega, by go_num, by rw [HEE.out], (HOR.out.trans HAL.out).trans (drewN_only _ _)⟩, by simp [intOf]; omega⟩
        · have himi : ¬ (i : Int) < (m : Int) := by omega
          go_wp2_with fail
          rw [← HWA.out]
          go_quiet (fail)
          simp only [Exit.then]
          go_wp2_with fail
          exact ⟨⟨i + 1, by omega, by go_num, by rw [HEE.out], (HOR.out.trans HAL.out).trans (drewN_only _ _)⟩, by simp [intOf]; omega⟩
      · omega
    · obtain rfl : i = n := by omega
      have hno : (ol (partsOf ps) i : Nat) = no := by rw [HNO.out, HOL.out, HN.out]
      rw [hno]
      have HT := Lib.hid (tells_walk wr (HORD.out.only (HO6.out.trans HOR.out) (fun h => h)))
      go_wp2_with (go_at_call 9; refine HT.out.mono ?_; rintro e w7 ⟨rfl, ho7⟩; have HO7 := Lib.hid ho7; clear ho7)
      go_ret
      exact ⟨rfl, (HO6.out.trans HOR.out).trans HO7.out⟩
end Go.Proofs.YtefeilgbofphjaaDoor
/-
  Written: the list that it goes over, and cuts of a walk.
-/
namespace Go.Proofs.YtefeilgbofphjaaDoor
open Go.RowKit Hf
theorem parts_one (w : World) : PartsAt (w.alloc (.cells #[.int .u8 0, .slice none 0 0, .slice none 0 0] 36)) (w.alloc (.cells #[.int .u8 0, .slice none 0 0, .slice none 0 0] 36)).heap.size (.slice (some ⟨w.heap.size, 0, none⟩) 1 1) [nop] := by
  refine ⟨⟨rfl, .inl ⟨w.heap.size, 0, 1, rfl, Nat.le_refl _, fun i u hi => ?_⟩⟩, fun p n c e h0 => ?_, fun p hp => ?_⟩
  · rw [Nat.zero_add, cell_of_row _ _ i _ _ _ (heap_alloc_new w _)]
    rw [← hi]
    match i with
    | 0 => rfl
    | 1 => rfl
    | 2 => rfl
    | i + 3 => rfl
  · cases e
    simp
  · obtain rfl : p = nop := by simpa using hp
    exact ⟨⟨.inr ⟨none, rfl, rfl⟩, ⟨rfl, .inr ⟨none, rfl, rfl⟩⟩, fun _ _ _ e => (by cases e), fun _ _ _ e => (by cases e), fun c hc => by cases hc⟩, by decide, by decide⟩
theorem cut_seq {P : Program} {x y : Code} {Q : Exit → Act → World → Prop} {a : Act} {w : World} (R : Act → World → Prop) (h1 : x.wp P (Exit.then R Q) a w) (h2 : ∀ a w, R a w → y.wp P Q a w) : (Code.seq x y).wp P Q a w :=
  wp_seq (Code.wp_mono (fun e a w h => by
    cases e with
    | normal => exact h2 a w h
    | _ => exact h) h1)
def Pre0 (lv : Value) (w : World) (a : Act) (W : World) : Prop := w = W ∧ a = { tmps := #[lv, undef, .slice none 0 0, .slice none 0 0, undef, undef, undef, undef, undef, undef, undef, undef, undef, undef, undef, undef, undef, undef, undef, undef, undef, undef, undef, undef, undef, undef, undef, undef, undef, undef, undef, undef, undef, undef, undef, undef, undef, undef, undef, undef, undef, undef, undef, undef, undef, undef, undef, undef, undef, undef, undef, undef, undef, undef, undef, undef, undef, undef, undef, undef, undef, undef, undef, undef, undef, undef, undef, undef, undef, undef, undef, undef, undef, undef, undef, undef, undef, undef, undef, undef, undef, undef, undef, undef, undef, undef, undef, undef, undef, undef, undef, undef, undef, undef, undef, undef, undef, undef, undef, undef, undef, undef, undef, undef, undef, undef, undef, undef, undef, undef, undef, undef, undef, undef, undef, undef, undef, undef, undef, undef, undef, undef, undef, undef, undef, undef, undef, undef, undef, undef, undef, undef, undef, undef, undef, undef, undef, undef, undef, undef, undef, undef, undef, undef, undef], defers := [] }
def PreW (ps : List Prt) (w : World) (a : Act) (W : World) : Prop :=
  ∃ (m : Nat) (pl : Option Addr) (cl : Nat) (ps2 : List Prt) (v15 v16 v17 v18 v19 : Value), a = { tmps := #[.slice pl m cl, undef, .slice none 0 0, .slice none 0 0, undef, undef, undef, undef, undef, undef, undef, undef, undef, undef, undef, v15, v16, v17, v18, v19, undef, undef, undef, undef, undef, undef, undef, undef, undef, undef, undef, undef, undef, undef, undef, undef, undef, undef, undef, undef, undef, undef, undef, undef, undef, undef, undef, undef, undef, undef, undef, undef, undef, undef, undef, undef, undef, undef, undef, undef, undef, undef, undef, undef, undef, undef, undef, undef, undef, undef, undef, undef, undef, undef, undef, undef, undef, undef, undef, undef, undef, undef, undef, undef, undef, undef, undef, undef, undef, undef, undef, undef, undef, undef, undef, undef, undef, undef, undef, undef, undef, undef, undef, undef, undef, undef, undef, undef, undef, undef, undef, undef, undef, undef, undef, undef, undef, undef, undef, undef, undef, undef, undef, undef, undef, undef, undef, undef, undef, undef, undef, undef, undef, undef, undef, undef, undef, undef, undef, undef, undef, undef, undef, undef, undef], defers := [] } ∧ m = ps2.length ∧ 0 < m ∧ m ≤ 9223372036854775807 ∧ PartsAt W W.heap.size (.slice pl m cl) ps2 ∧ ps2.take 5 = partsOf ps ∧ OnlyS (fun _ => False) w W
end Go.Proofs.YtefeilgbofphjaaDoor
