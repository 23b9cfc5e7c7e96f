/-
  InflateKnown, walked.
-/
import Derived.Test.YtefeilgbofphjaaDoorFou
import Derived.Test.YtefeilgbofphjaaDoorMg26
namespace Go.Proofs.YtefeilgbofphjaaDoor
open Go.RowKit Hf
theorem slv_blk0 {W : World} {v : Value} {vs : List Value} (h : SlV W v vs) : ∀ p n c, v = .slice (some p) n c → 0 < n → p.block < W.heap.size := by
  intro p n c e h0
  rcases h with ⟨g, o, cap, h1, h2, h3⟩ | ⟨q, h1, _⟩
  · rw [h1] at e
    cases e
    exact h3.lt h0
  · rw [h1] at e
    cases e
    omega
theorem own_zero {w : World} {B k : Nat} {t : TypeId} {v : Value} {n : Nat} {l : List Value} (h : w.ownsRow B t k v n l) (hn : 0 < n) : ∃ g cap, v = .slice (some ⟨g, 0, none⟩) n cap ∧ n ≤ cap ∧ ∀ i u, l[i]? = some u → w.cell? ⟨g, i, none⟩ = some u := by
  obtain ⟨h0, ⟨h1, h2⟩ | ⟨g, cap, cur, h1, h2, h3, h4, h5, h6, h7⟩⟩ := h
  · omega
  · refine ⟨g, cap, h1, h4, fun i u hi => ?_⟩
    rw [cell_of_row _ _ _ _ _ _ h3]
    have hi' := (List.getElem?_eq_some_iff.1 hi).1
    have e : cur.toList[i]? = l[i]? := by rw [← h7, List.getElem?_take, if_pos (by omega)]
    rw [← Array.getElem?_toList, e, hi]
theorem eleven_len (i : Nat) (h : i < 11) : (eleven.getD i ([], 0)).1.length ≤ 5 := by
  have : ∀ i, i < 11 → (eleven.getD i ([], 0)).1.length ≤ 5 := by decide
  exact this i h
set_option maxRecDepth 100000 in
set_option maxHeartbeats 8000000 in
theorem known_walk (w : World) (hord : OrdAt w) : Calls Tryd.prog 5 #[] w fun e w' => e = .returned (.bool true) ∧ OnlyS (fun _ => False) w w' := by
  have HORD := Lib.hid hord
  clear hord
  obtain ⟨w1, hw1⟩ : ∃ w1, w1 = tblW w := ⟨_, rfl⟩
  have hwe : ((((((((((w.alloc (.cells #[.int .u8 7] 5)).alloc (.cells #[.int .u8 1] 5)).alloc (.cells #[.int .u8 1, .int .u8 1, .int .u8 0, .int .u8 0, .int .u8 0] 5)).alloc (.cells #[.int .u8 1, .int .u8 1, .int .u8 0, .int .u8 254, .int .u8 255] 5)).alloc (.cells #[.int .u8 3] 5)).alloc (.cells #[.int .u8 253, .int .u8 255] 5)).alloc (.cells #[.int .u8 245, .int .u8 255, .int .u8 255] 5)).alloc (.cells #[.int .u8 5, .int .u8 254, .int .u8 0, .int .u8 0] 5)).alloc (.cells #[.int .u8 3, .int .u8 2] 5)).alloc (.cells #[.int .u8 99, .int .u8 4, .int .u8 66, .int .u8 0] 5)).alloc (.cells #[.slice none 0 0, .int .i64 4, .slice (some ⟨w.heap.size, 0, none⟩) 1 1, .int .i64 20, .slice (some ⟨w.heap.size + 1, 0, none⟩) 1 1, .int .i64 4, .slice (some ⟨w.heap.size + 1 + 1, 0, none⟩) 5 5, .int .i64 20, .slice (some ⟨w.heap.size + 1 + 1 + 1, 0, none⟩) 5 5, .int .i64 4, .slice (some ⟨w.heap.size + 1 + 1 + 1 + 1, 0, none⟩) 1 1, .int .i64 4, .slice (some ⟨w.heap.size + 1 + 1 + 1 + 1 + 1, 0, none⟩) 2 2, .int .i64 4, .slice (some ⟨w.heap.size + 1 + 1 + 1 + 1 + 1 + 1, 0, none⟩) 3 3, .int .i64 20, .slice (some ⟨w.heap.size + 1 + 1 + 1 + 1 + 1 + 1 + 1, 0, none⟩) 4 4, .int .i64 20, .slice (some ⟨w.heap.size + 1 + 1 + 1 + 1 + 1 + 1 + 1 + 1, 0, none⟩) 2 2, .int .i64 20, .slice (some ⟨w.heap.size + 1 + 1 + 1 + 1 + 1 + 1 + 1 + 1 + 1, 0, none⟩) 4 4, .int .i64 20] 41) = w1 := by rw [hw1]; rfl
  have HWE := Lib.hid hwe
  have HO1 : Hid (OnlyS (fun _ => False) w w1) := Lib.hid (by rw [hw1]; exact tblW_only w)
  obtain ⟨gt, hgt⟩ : ∃ gt, gt = w.heap.size + 1 + 1 + 1 + 1 + 1 + 1 + 1 + 1 + 1 + 1 := ⟨_, rfl⟩
  have HT : Hid (∀ i, i < 11 → ∃ p n c, w1.cell? ⟨gt, i * 2, none⟩ = some (.slice p n c) ∧ w1.cell? ⟨gt, i * 2 + 1, none⟩ = some (.int .i64 (eleven.getD i ([], 0)).2) ∧ SlV w1 (.slice p n c) (bl (eleven.getD i ([], 0)).1)) := Lib.hid (fun i hi => by rw [hw1, hgt]; exact tbl_at w i hi)
  have HGT := Lib.hid hgt
  clear hw1 hwe hgt
  go_enter Tryd.func5, Tryd.ntmps5
  go_wp2_with fail
  rw [HWE.out, ← HGT.out]
  go_loopw [48] (fun v48 wr => ∃ i : Nat, i ≤ 11 ∧ v48 = .int .i64 (i : Int) ∧ OnlyS (fun _ => False) w1 wr) (fun v48 _ => 11 - (intOf v48).toNat)
  case atStart => exact ⟨0, by decide, rfl, OnlyS.refl _ _⟩
  case round =>
    obtain ⟨i, hi11, rfl, hor⟩ := hrel
    have HOR := Lib.hid hor
    by_cases hlt : i < 11
    · have hlti : (i : Int) < 11 := by omega
      obtain ⟨p, n, c, e0, e1, hsv⟩ := HT.out i hlt
      have e0' := hor.cell e0 (fun h => h)
      have e1' := hor.cell e1 (fun h => h)
      have hse := eleven_at i hlt
      have hle := eleven_len i hlt
      obtain ⟨er, her⟩ : ∃ er, er = (eleven.getD i ([], 0)).2 := ⟨_, rfl⟩
      rw [← her] at hse e1'
      obtain ⟨wa, hwa⟩ : ∃ wa, wa = wr.alloc (.cells #[.slice p n c, .int .i64 er] 41) := ⟨_, rfl⟩
      have hra := heap_alloc_new wr (.cells #[.slice p n c, .int .i64 er] 41)
      rw [← hwa] at hra
      have hal : OnlyS (fun _ => False) wr wa := by rw [hwa]; exact OnlyS.alloc _ _
      have hsa : SlV wa (.slice p n c) (bl (eleven.getD i ([], 0)).1) := hsv.only (hor.trans hal) (fun _ _ _ _ _ h => h)
      have HC := Lib.hid (all_er (HORD.out.only ((HO1.out.trans hor).trans hal) (fun h => h)) (.slice p n c) _ 100 hsa (by omega) (slv_blk0 hsa) (by decide) er hse)
      have HWA := Lib.hid hwa
      have HAL := Lib.hid hal
      have HRA := Lib.hid hra
      clear e0 e1 hsv hse hle her hwa hra hal hsa hor
      go_wp2_with fail
      rw [← HWA.out]
      refine HC.out.mono ?_
      rintro e w2 ⟨ho2, rfl⟩
      have HO2 := Lib.hid ho2
      have x1 := cell_of_row _ _ 1 _ _ _ ((ho2.block _ (Array.getElem?_eq_some_iff.1 HRA.out).1 (fun h => h)).trans HRA.out)
      clear ho2 HC
      go_wp2_with fail
      exact ⟨⟨i + 1, by omega, by go_num, (HOR.out.trans HAL.out).trans HO2.out⟩, by simp [intOf]; omega⟩
    · obtain rfl : i = 11 := by omega
      clear hor hi11 hlt
      have HC1 := Lib.hid (all_neg (wr.alloc (.cells #[.int .u8 3, .int .u8 0] 5)) (some ⟨wr.heap.size, 0, none⟩) 2 2 (-1) (by decide))
      go_wp2_with fail
      refine HC1.out.mono ?_
      rintro e w2 ⟨ho2, rfl⟩
      have HO2 : Hid (OnlyS (fun _ => False) w w2) := Lib.hid (((HO1.out.trans HOR.out).trans (OnlyS.alloc _ _)).trans ho2)
      clear ho2 HC1
      have HC2 := Lib.hid (lit_er (HORD.out.only HO2.out (fun h => h)) [1, 2, 0, 253, 255, 97, 98] #[.int .u8 1, .int .u8 2, .int .u8 0, .int .u8 253, .int .u8 255, .int .u8 97, .int .u8 98] 7 1 22 rfl rfl (by decide) (by decide) k_22a)
      go_wp2_with fail
      refine HC2.out.mono ?_
      rintro e w3 ⟨ho3, rfl⟩
      have HO3 := Lib.hid (HO2.out.trans ho3)
      clear ho3 HC2
      have HC3 := Lib.hid (lit_er (HORD.out.only HO3.out (fun h => h)) [1, 2, 0, 253, 255, 97] #[.int .u8 1, .int .u8 2, .int .u8 0, .int .u8 253, .int .u8 255, .int .u8 97] 6 1 4 rfl rfl (by decide) (by decide) k_4)
      go_wp2_with fail
      refine HC3.out.mono ?_
      rintro e w4 ⟨ho4, rfl⟩
      have HO4 := Lib.hid (HO3.out.trans ho4)
      clear ho4 HC3
      have HC4 := Lib.hid (lit_er (HORD.out.only HO4.out (fun h => h)) [1, 3, 0, 252, 255, 97, 98] #[.int .u8 1, .int .u8 3, .int .u8 0, .int .u8 252, .int .u8 255, .int .u8 97, .int .u8 98] 7 1 22 rfl rfl (by decide) (by decide) k_22b)
      go_wp2_with fail
      refine HC4.out.mono ?_
      rintro e w5 ⟨ho5, rfl⟩
      have HO5 := Lib.hid (HO4.out.trans ho5)
      clear ho5 HC4
      obtain ⟨wF, hcv, hoF, hzF, hsF⟩ := conv_ab w5
      have HC5 : Hid (Calls Tryd.prog 6 #[.slice (some ⟨wF.heap.size + 1 + 1, 0, none⟩) 4 4] (((wF.alloc (.cells #[.int .u16 255, .int .u16 1, .int .u16 254, .int .u16 0, .int .u16 0, .int .u16 7, .int .u16 100, .int .u16 400] 43)).alloc (.cells #[.int .u16 255, .int .u16 600] 43)).alloc (.cells #[.int .u8 2, .slice (some ⟨w5.heap.size, 0, none⟩) 2 2, .slice (some ⟨wF.heap.size, 0, none⟩) 4 4, .int .u8 1, .slice none 0 0, .slice (some ⟨wF.heap.size + 1, 0, none⟩) 1 1, .int .u8 0, .slice none 0 0, .slice none 0 0, .int .u8 2, .slice none 0 0, .slice none 0 0] 36)) (WrPost (fourV w5.heap.size wF.heap.size) (fourW wF w5.heap.size))) := Lib.hid (written_walk (fourW wF w5.heap.size) _ (fourV w5.heap.size wF.heap.size) (four_at wF w5.heap.size (by omega) hsF) (show (4 : Nat) ≤ 9223372036854775807 by decide))
      have HOF := Lib.hid (HO5.out.trans hoF)
      clear hoF hzF hsF
      go_wp2_with fail
      refine HC5.out.mono ?_
      rintro e w6 ⟨bv, ov, L, out, rfl, ho6, hb6, hv6, hne, hE, hol, hL⟩
      rw [fourV_parts] at hE hol
      have hout : out.length = 881 := hol.trans (fourV_ol _ _).2.2.2
      obtain ⟨pb, cb, hsb⟩ := own_shape hb6
      obtain ⟨po, co, hso⟩ := own_shape hv6
      obtain ⟨nb, hnb⟩ : ∃ nb, nb = (pack L).length := ⟨_, rfl⟩
      rw [← hnb] at hsb hb6
      rw [hout] at hso hv6
      have hnbl : nb ≤ 20000 := by rw [hnb, pack_length]; omega
      subst hsb hso
      have hO6 : OnlyS (fun _ => False) w w6 := (HOF.out.trans (fourW_only wF w5.heap.size)).trans ho6
      obtain ⟨r6, hall6, hr6⟩ := hE.all [] 1048576 (by omega)
      rw [List.append_nil] at hall6
      have HC6 := Lib.hid (all_ok (HORD.out.only hO6 (fun h => h)) (.slice pb nb cb) (pack L) 1048576 (own_toV hb6) (by omega) (own_blk hb6) (by decide) _ out r6 (nb : Int) hall6 (by rw [hr6, ← hnb]; simp))
      unfold GotOk at HC6
      rw [hout] at HC6
      have HO6 := Lib.hid hO6
      have HB6 := Lib.hid hb6
      have HV6 := Lib.hid hv6
      have HALL := Lib.hid hall6
      have HNB := Lib.hid hnb
      clear hcv HC5 HOF HO5 ho6 hb6 hv6 hne hE hol hL hnb hO6 hall6 hr6 hout
      go_wp2_with fail
      refine HC6.out.mono ?_
      rintro e w7 ⟨ho7, p7, c7, rfl, s7⟩
      have hO7 : OnlyS (fun _ => False) w w7 := HO6.out.trans ho7
      have hord7 := HORD.out.only hO7 (fun h => h)
      have hb7 : SlV w7 (.slice pb nb cb) (bl (pack L)) := (own_toV HB6.out).only ho7 (fun _ _ _ _ _ h => h)
      have HC7 : Hid (Calls Tryd.prog 8 #[.slice pb nb cb, .int .i64 1048576] w7 fun e w' => OnlyS (fun _ => False) w7 w' ∧ ∃ u, e = .returned (.tuple #[u, .int .i64 0]) ∧ w'.ownsRow w7.heap.size 33 4 u 4 (kcs (kb 4 (fourV w5.heap.size wF.heap.size) 4))) := Lib.hid ((blocks_walk w7 (ord_pos hord7) hord7 (.slice pb nb cb) (pack L) 1048576 hb7 (by rw [← HNB.out]; omega) (fun p m c e h0 => Nat.lt_of_lt_of_le (own_blk HB6.out p m c e h0) ho7.size) (by decide)).mono (fun e w' h => by
        obtain ⟨h1, h2⟩ := h
        rw [HALL.out] at h2
        obtain ⟨u, h3, h4⟩ := h2
        exact ⟨h1, u, h3, h4⟩))
      have HO67 := Lib.hid ho7
      have HO7 := Lib.hid hO7
      have HS7 := Lib.hid s7
      clear HC6 ho7 hO7 hord7 hb7 s7 HALL
      go_wp2_with fail
      refine HC7.out.mono ?_
      rintro e w8 ⟨ho8, u, rfl, hu⟩
      obtain ⟨gu, cu, hsu, hcu, hrow⟩ := own_zero hu (by decide)
      subst hsu
      have hkc : kcs (kb 4 (fourV w5.heap.size wF.heap.size) 4) = [.int .i64 2, .bool false, .int .i64 0, .int .i64 623, .int .i64 1, .bool false, .int .i64 623, .int .i64 881, .int .i64 0, .bool false, .int .i64 881, .int .i64 881, .int .i64 2, .bool true, .int .i64 881, .int .i64 881] := by
        have h := fourV_ol w5.heap.size wF.heap.size
        have e0 : ol (fourV w5.heap.size wF.heap.size) 0 = 0 := rfl
        have hk : kb 4 (fourV w5.heap.size wF.heap.size) 4 = [⟨2, false, ol (fourV w5.heap.size wF.heap.size) 0, ol (fourV w5.heap.size wF.heap.size) 1⟩, ⟨1, false, ol (fourV w5.heap.size wF.heap.size) 1, ol (fourV w5.heap.size wF.heap.size) 2⟩, ⟨0, false, ol (fourV w5.heap.size wF.heap.size) 2, ol (fourV w5.heap.size wF.heap.size) 3⟩, ⟨2, true, ol (fourV w5.heap.size wF.heap.size) 3, ol (fourV w5.heap.size wF.heap.size) 4⟩] := rfl
        rw [hk, e0, h.1, h.2.1, h.2.2.1, h.2.2.2]
        rfl
      rw [hkc] at hrow
      have x6 : w8.cell? ⟨gu, 6, none⟩ = some (.int .i64 623) := hrow 6 _ rfl
      have x12 : w8.cell? ⟨gu, 12, none⟩ = some (.int .i64 2) := hrow 12 _ rfl
      have x13 : w8.cell? ⟨gu, 13, none⟩ = some (.bool true) := hrow 13 _ rfl
      have x14 : w8.cell? ⟨gu, 14, none⟩ = some (.int .i64 881) := hrow 14 _ rfl
      have x15 : w8.cell? ⟨gu, 15, none⟩ = some (.int .i64 881) := hrow 15 _ rfl
      have k7 : (convert 23 9 (.slice p7 881 c7)).run Tryd.prog w8 = .ok (.string ⟨out.toArray⟩) w8 := run_toStr (HS7.out.only ho8 (fun _ _ _ _ _ h => h))
      have kv : (convert 23 9 (.slice po 881 co)).run Tryd.prog w8 = .ok (.string ⟨out.toArray⟩) w8 := run_toStr (((own_toV HV6.out).only HO67.out (fun _ _ _ _ _ h => h)).only ho8 (fun _ _ _ _ _ h => h))
      have HO8 := Lib.hid (HO7.out.trans ho8)
      have HT := Lib.hid (tells_walk w8 (HORD.out.only HO8.out (fun h => h)))
      clear ho8 hu hrow hkc HC7 HV6 HS7 HB6
      go_wp2_with (go_at_call 9; refine HT.out.mono ?_; rintro e w9 ⟨rfl, ho9⟩; have HO9 := Lib.hid ho9; clear ho9)
      all_goals go_ret
      all_goals exact ⟨rfl, HO8.out.trans HO9.out⟩
end Go.Proofs.YtefeilgbofphjaaDoor
