/-
  HuffLeast: the law's walk.
-/
import Derived.Test.YtoifppfhnedahaaBackA
import Derived.Test.YtoifppfhnedahaaReadsKit
import Derived.Test.YtoifppfhnedahaaCost
namespace Go.Proofs.Ytoifppfhnedahaa
open Go.RowKit Hf
theorem posTo_length_succ (C : List Int) (i : Nat) : (posTo C (i + 1)).length = (posTo C i).length + (if 0 < C.getD i 0 then 1 else 0) := by
  rw [posTo_succ, List.length_append]; split <;> rfl
/-- A symbol of a greater count has no greater length. -/
theorem Lens.order {C Z : List Int} {L : Nat} (h : Lens C L Z) (i k : Nat) (hi : 0 < C.getD i 0) (hk : C.getD i 0 < C.getD k 0) : Z.getD k 0 ≤ Z.getD i 0 := by
  obtain ⟨a, ha, ea⟩ := List.getElem_of_mem ((syms_iff C i).2 hi)
  obtain ⟨b, hb, eb⟩ := List.getElem_of_mem ((syms_iff C k).2 (by omega))
  have hp := List.pairwise_iff_getElem.1 (syms_pair C)
  rcases Nat.lt_trichotomy a b with hab | hab | hab
  · have := h.fall a b hab hb
    simp only [List.getD_eq_getElem?_getD, List.getElem?_eq_getElem ha, List.getElem?_eq_getElem hb, Option.getD_some, ea, eb] at this ⊢
    exact this
  · subst hab; rw [ea] at eb; subst eb; omega
  · have := hp b a hb ha hab
    rw [ea, eb] at this
    have this : C.getD k 0 < C.getD i 0 ∨ (C.getD k 0 = C.getD i 0 ∧ k < i) := this
    omega
/-- The other lengths, laid for the first so many symbols. -/
def oth (C sy : List Int) (L i : Nat) : List Int := (List.range C.length).map fun x => if x < i ∧ 0 < C.getD x 0 then (if x < sy.length then 1 + sy.getD x 0 % (L : Int) else (L : Int)) else 0
theorem getD_memJ {l : List Int} {i : Nat} (h : i < l.length) : l.getD i 0 ∈ l := by
  rw [List.getD_eq_getElem?_getD, List.getElem?_eq_getElem h]; exact List.getElem_mem h
theorem oth_length (C sy : List Int) (L i : Nat) : (oth C sy L i).length = C.length := by simp [oth]
theorem oth_zero (C sy : List Int) (L : Nat) : oth C sy L 0 = zeros C.length := by
  apply List.ext_getElem (by simp [oth, zeros])
  intro x h1 h2
  simp [oth, zeros]
theorem oth_at (C sy : List Int) (L i x : Nat) : (oth C sy L i).getD x 0 = if x < C.length ∧ x < i ∧ 0 < C.getD x 0 then (if x < sy.length then 1 + sy.getD x 0 % (L : Int) else (L : Int)) else 0 := by
  rcases Nat.lt_or_ge x C.length with h | h
  · rw [List.getD_eq_getElem?_getD, List.getElem?_eq_getElem (by rw [oth_length]; exact h)]
    simp only [oth, List.getElem_map, List.getElem_range, Option.getD_some, h, true_and]
  · rw [List.getD_eq_getElem?_getD, List.getElem?_eq_none (by rw [oth_length]; exact h), if_neg (by omega)]; rfl
theorem oth_skip (C sy : List Int) (L i : Nat) (h : ¬ 0 < C.getD i 0) : oth C sy L (i + 1) = oth C sy L i := by
  unfold oth
  refine List.map_congr_left fun x _ => ?_
  by_cases hx : x = i
  · subst hx; rw [if_neg (fun e => h e.2), if_neg (fun e => h e.2)]
  · by_cases h1 : x < i ∧ 0 < C.getD x 0
    · rw [if_pos h1, if_pos ⟨by omega, h1.2⟩]
    · rw [if_neg h1, if_neg (fun e => h1 ⟨by omega, e.2⟩)]
theorem oth_set (C sy : List Int) (L i : Nat) (_hi : i < C.length) (h : 0 < C.getD i 0) : oth C sy L (i + 1) = (oth C sy L i).set i (if i < sy.length then 1 + sy.getD i 0 % (L : Int) else (L : Int)) := by
  apply List.ext_getElem (by simp [oth])
  intro x h1 h2
  rw [List.getElem_set]
  simp only [oth, List.getElem_map, List.getElem_range]
  by_cases hx : i = x
  · subst hx; rw [if_pos rfl, if_pos ⟨by omega, h⟩]
  · rw [if_neg hx]
    by_cases h1 : x < i ∧ 0 < C.getD x 0
    · rw [if_pos h1, if_pos ⟨by omega, h1.2⟩]
    · rw [if_neg h1, if_neg (fun e => h1 ⟨by omega, e.2⟩)]
theorem oth_bound (C sy : List Int) (L i x : Nat) (hL1 : 1 ≤ L) : 0 ≤ (oth C sy L i).getD x 0 ∧ (oth C sy L i).getD x 0 ≤ L := by
  rw [oth_at]
  have h1 := Int.emod_nonneg (sy.getD x 0) (show (L : Int) ≠ 0 by omega)
  have h2 := Int.emod_lt_of_pos (sy.getD x 0) (show (0 : Int) < (L : Int) by omega)
  split
  · split <;> omega
  · omega
theorem oth_full (C sy : List Int) (L x : Nat) (hL1 : 1 ≤ L) : (0 < C.getD x 0 → 1 ≤ (oth C sy L C.length).getD x 0 ∧ (oth C sy L C.length).getD x 0 ≤ L) ∧ (¬ 0 < C.getD x 0 → (oth C sy L C.length).getD x 0 = 0) := by
  have h0 := oth_bound C sy L C.length x hL1
  have h1 := Int.emod_nonneg (sy.getD x 0) (show (L : Int) ≠ 0 by omega)
  refine ⟨fun h => ⟨?_, h0.2⟩, fun h => ?_⟩
  · have hx : x < C.length := by
      rcases Nat.lt_or_ge x C.length with h2 | h2
      · exact h2
      · rw [List.getD_eq_getElem?_getD, List.getElem?_eq_none h2] at h; simp at h
    rw [oth_at, if_pos ⟨hx, hx, h⟩]
    split <;> omega
  · rw [oth_at, if_neg (fun e => h e.2.2)]
theorem st_cases {Z : List Int} {m : Nat} (h : st Z = if 2 ≤ m then 0 else -1) : (st Z = 0 ∧ (2 : Int) ≤ (m : Int) ∧ ¬ (m : Int) < 2) ∨ (st Z = -1 ∧ (m : Int) < 2 ∧ ¬ (2 : Int) ≤ (m : Int)) := by
  by_cases h2 : 2 ≤ m
  · rw [if_pos h2] at h; exact .inl ⟨h, by omega, by omega⟩
  · rw [if_neg h2] at h; exact .inr ⟨h, by omega, by omega⟩
set_option maxRecDepth 100000 in
set_option maxHeartbeats 16000000 in
theorem least_walk (w : World) (v u : Value) (lim : Int) (ls : List Nat) (sy : List Int) (hv : SlV w v (nu ls)) (hu : SlV w u (n8 sy)) (hlim : 0 ≤ lim ∧ lim < 256) (hb : ∀ z ∈ ls, z < 4294967296) (hb8 : ∀ z ∈ sy, 0 ≤ z ∧ z < 256) :
    Calls Try.prog 5 #[v, .int .u8 lim, u] w fun e w' => e = .returned (.bool true) ∧ Below w.heap.size w w' := by
  obtain ⟨i0, hi, hz0, hz1, hz2⟩ := info_parts info3
  have HI0 := Lib.hid (And.intro hi (And.intro hz0 (And.intro hz1 hz2)))
  clear hi hz0 hz1 hz2
  obtain ⟨pu, cu, rfl⟩ := hu.shape
  rw [n8_length] at hu ⊢
  obtain ⟨l8, hl8⟩ : ∃ l8, l8 = sy.length := ⟨_, rfl⟩
  rw [← hl8] at hu ⊢
  have HN8 := Lib.hid hl8
  have HU := Lib.hid hu
  have HU8 := Lib.hid hb8
  have HBR := Lib.hid (brought_walk w v ls hv hb)
  clear hl8 hu hb8 hv hb
  have hn40 : (bro ls).length ≤ 40 := by rw [bro_length]; omega
  have HOK := Lib.hid (bro_ok ls)
  have HCB := Lib.hid (bro_bound ls)
  go_enter Try.func5, Try.ntmps5
  go_wp2_with fail
  refine HBR.out.mono ?_
  rintro e w1 ⟨v5, rfl, hO, hB⟩
  clear HBR
  generalize bro ls = C at *
  obtain ⟨p5, cap5, rfl⟩ := own_shape hO
  obtain ⟨n, hnC⟩ : ∃ n, n = C.length := ⟨_, rfl⟩
  have HC5 := Lib.hid (own_toV hO)
  have HB := Lib.hid hB
  have HNC := Lib.hid hnC
  rw [← hnC] at HC5 hn40 ⊢
  clear hO hB hnC
  go_wp2_with fail
  go_loopw [8, 9] (fun v8 v9 wr => ∃ i : Nat, i ≤ n ∧ v9 = .int .i64 i ∧ v8 = .int .i64 ((posTo C i).length : Nat) ∧ wr = w1) (fun _ v9 _ => n - (intOf v9).toNat)
  case atStart => exact ⟨0, Nat.zero_le _, rfl, rfl, rfl⟩
  case round =>
    obtain ⟨i, hi, rfl, rfl, rfl⟩ := hrel
    by_cases hlt : i < n
    · have hlti : (i : Int) < (n : Int) := by omega
      obtain ⟨g5, o5, rfl, hrow5⟩ := HC5.out.some (by omega)
      have hcap5 := HC5.out.le
      have hc5 := hrow5.ni i (by rw [← HNC.out]; exact hlt)
      clear hrow5
      have HP := Lib.hid (posTo_length_succ C i)
      have hpl := posTo_le C i
      generalize (posTo C i).length = m at hpl HP ⊢
      generalize C.getD i 0 = c at hc5 HP
      by_cases hc : 0 < c
      · have HP2 := HP.out
        rw [if_pos hc] at HP2
        have HP2 := Lib.hid HP2
        clear HP
        go_wp2_with fail
        refine ⟨⟨i + 1, by omega, by go_num, ?_, trivial⟩, by simp only [intOf]; omega⟩
        rw [HP2.out]; go_num
      · have HP2 := HP.out
        rw [if_neg hc] at HP2
        have HP2 := Lib.hid HP2
        clear HP
        go_wp2_with fail
        refine ⟨⟨i + 1, by omega, by go_num, ?_, trivial⟩, by simp only [intOf]; omega⟩
        rw [HP2.out]; rfl
    · have hlti : (n : Int) ≤ (i : Int) := by omega
      obtain rfl : i = n := by omega
      have HM : Hid ((posTo C i).length = (syms C).length) := Lib.hid (by rw [syms_length, HNC.out])
      have hml := posTo_le C i
      generalize (posTo C i).length = m at HM hml ⊢
      go_wp2_with fail
      go_loopw [10] (fun v10 wy => ∃ e : Nat, 1 ≤ e ∧ e ≤ 6 ∧ v10 = .int .i64 e ∧ wy = wr) (fun v10 _ => 7 - (intOf v10).toNat)
      case atStart => exact ⟨1, by omega, by omega, rfl, rfl⟩
      case round =>
        obtain ⟨e, he, he6, rfl, rfl⟩ := hrel
        have hpow : (2 : Int) ^ e = ((2 ^ e : Nat) : Int) := by simp
        have hpl : 2 ^ e ≤ 2 ^ 6 := Nat.pow_le_pow_right (by decide) he6
        have hpp : (2 : Nat) ^ 6 = 64 := by decide
        have hwp : wrap64 (2 ^ e) = 2 ^ e := by
          have h0 : (0 : Int) < 2 ^ e := Int.pow_pos (by decide)
          have h1 : (2 : Int) ^ e ≤ 64 := by rw [hpow]; omega
          unfold wrap64; omega
        by_cases hlt : 2 ^ e < m
        · have he5 : e ≤ 5 := by
            rcases Nat.lt_or_ge e 6 with h | h
            · omega
            · obtain rfl : e = 6 := by omega
              omega
          have hli : (2 : Int) ^ e < (m : Int) := by rw [hpow]; omega
          clear hpl hpp hpow hlt
          go_wp2_with fail
          exact ⟨⟨e + 1, by omega, by omega, by go_num, trivial⟩, by simp only [intOf]; omega⟩
        · have hli : (m : Int) ≤ (2 : Int) ^ e := by rw [hpow]; omega
          have HME : Hid (m ≤ 2 ^ e) := Lib.hid (by omega)
          clear hpl hpp hpow hlt
          obtain ⟨L, hL⟩ : ∃ L : Nat, (e : Int) + lim % (16 - (e : Int)) = (L : Int) := ⟨((e : Int) + lim % (16 - (e : Int))).toNat, by
            have := Int.emod_nonneg lim (show (16 - (e : Int)) ≠ 0 by omega); omega⟩
          have hL1 : e ≤ L := by have := Int.emod_nonneg lim (show (16 - (e : Int)) ≠ 0 by omega); omega
          have hL15 : L ≤ 15 := by have := Int.emod_lt_of_pos lim (show (0 : Int) < 16 - (e : Int) by omega); omega
          go_wp2_with fail
          have hkL : (syms C).length ≤ 2 ^ L := by
            rw [← HM.out]
            exact Nat.le_trans HME.out (Nat.pow_le_pow_right (by decide) hL1)
          have HLE := Lib.hid (lens_are C L (by omega) hL15 hkL)
          have HKL := Lib.hid hkL
          refine (Lengths_any wr _ C L HC5.out HOK.out (by omega) hL15 hkL).mono ?_
          clear hkL
          obtain ⟨Z, hZ⟩ : ∃ Z, Z = lensF C L := ⟨_, rfl⟩
          rw [← hZ] at HLE ⊢
          have HZL := Lib.hid hZ
          clear hZ
          rintro e2 w2 ⟨v6, rfl, hB2, hO⟩
          rw [← HNC.out] at hO
          obtain ⟨p6, cap6, rfl⟩ := own_shape hO
          have HB := Lib.hid (bt HB.out hB2)
          have HC5 := Lib.hid (HC5.out.below hB2 (Nat.le_refl _))
          have HC6 := Lib.hid (own_toV hO)
          clear hO hB2 HOK
          have HNZ : Hid (i = Z.length) := Lib.hid (by rw [HLE.out.len]; exact HNC.out)
          have HG : Hid (good Z) := Lib.hid (HLE.out.good hL15 (by have := HNC.out; omega))
          go_wp2_with fail
          have hst := HLE.out.st
          rw [← HM.out] at hst
          rcases st_cases hst with ⟨hs, h2i, h2j⟩ | ⟨hs, h2i, h2j⟩
          all_goals clear hst
          all_goals refine (state_good _ _ _ _ HC6.out HG.out hs).mono ?_
          all_goals rintro e3 w3 ⟨rfl, hB3⟩
          all_goals have HB := Lib.hid (bt HB.out hB3)
          all_goals have HC5 := Lib.hid (HC5.out.below hB3 (Nat.le_refl _))
          all_goals have HC6 := Lib.hid (HC6.out.below hB3 (Nat.le_refl _))
          all_goals clear hB3 hs
          all_goals go_wp2_with (refine wpList_make_full w3 rfl _ _ 22 rfl w3.heap.size 3 i0 (.int .i64 0) 1 Try.underlying22 HI0.out.1 HI0.out.2.1 HI0.out.2.2.1 .i64 .i64 i i i rfl rfl rfl rfl (by rw [HI0.out.2.2.2]; omega) (by unfold maxLen; omega) (Nat.le_refl _) ?_; intro w4 hown hgrow; rw [zeros_made] at hown; have hB4 : Below w3.heap.size w3 w4 := (Below.refl _ _).grown hgrow (Nat.le_refl _) (fun k e => by cases e); have HB4 := Lib.hid hB4; have HOW := Lib.hid hown; clear hown hgrow hB4)
          all_goals
            have HCL : Hid (i = C.length) := HNC
            have HO0 : Hid (w4.ownsRow w3.heap.size 3 1 (.slice (some ⟨w3.heap.size, 0, none⟩) i i) i (ni (oth C sy L 0))) := Lib.hid (by rw [oth_zero, ← HNC.out]; exact HOW.out)
            clear HOW
            have HSZ3 : Hid (w.heap.size ≤ w3.heap.size) := Lib.hid HB.out.size
            generalize hgo : w3.heap.size = go at *
            have HGO := Lib.hid hgo
            clear hgo
            go_loopw [17] (fun v17 wy => ∃ j : Nat, j ≤ i ∧ v17 = .int .i64 j ∧ wy.ownsRow go 3 1 (.slice (some ⟨go, 0, none⟩) i i) i (ni (oth C sy L j)) ∧ Below go w3 wy) (fun v17 _ => i - (intOf v17).toNat)
            case atStart => exact ⟨0, Nat.zero_le _, rfl, HO0.out, HB4.out⟩
            case round =>
              obtain ⟨j, hj, rfl, hO, hBy⟩ := hrel
              have HO := Lib.hid hO
              have HBY := Lib.hid hBy
              clear hO hBy HO0 HB4
              by_cases hji : j < i
              · have hjii : (j : Int) < (i : Int) := by omega
                have hjC : j < C.length := by have := HCL.out; omega
                obtain ⟨g5, o5, rfl, hrow5⟩ := (HC5.out.below HBY.out (by rw [HGO.out]; exact Nat.le_refl _)).some (by omega)
                obtain ⟨g6, o6, rfl, hrow6⟩ := (HC6.out.below HBY.out (by rw [HGO.out]; exact Nat.le_refl _)).some (by omega)
                have hcap5 := HC5.out.le
                have hcap6 := HC6.out.le
                have hc5 := hrow5.ni j hjC
                have hc6 := hrow6.ni j (by rw [← HNZ.out]; exact hji)
                clear hrow5 hrow6
                have hzb := HLE.out.bound j
                have HZP := Lib.hid (HLE.out.pos j)
                have HORD := Lib.hid (fun k => HLE.out.order j k)
                have hcb := HCB.out j
                have HSK := Lib.hid (oth_skip C sy L j)
                have HST := Lib.hid (oth_set C sy L j hjC)
                clear hjC
                generalize hcj : C.getD j 0 = c at *
                generalize hzj : Z.getD j 0 = z at *
                have HCJ := Lib.hid hcj
                have HZJ := Lib.hid hzj
                clear hcj hzj
                by_cases hc : 0 < c
                · have hz0 : 0 < z := HZP.out.2 hc
                  go_wp2_with fail
                  go_quiet (fail)
                  have HBY := Lib.hid (below_drewN HBY.out nq)
                  have HO : Hid ((wr.drewN nq).ownsRow go 3 1 (.slice (some ⟨go, 0, none⟩) i i) i (ni (oth C sy L j))) := Lib.hid (own_stays HO.out fun _ _ => rfl)
                  clear hc5 hc6
                  generalize wr.drewN nq = wx at *
                  go_wp2_with fail
                  go_loopw [18] (fun v18 wy => ∃ k : Nat, k ≤ j ∧ v18 = .int .i64 k ∧ wy.ownsRow go 3 1 (.slice (some ⟨go, 0, none⟩) i i) i (ni (oth C sy L j)) ∧ Below go w3 wy) (fun v18 _ => j - (intOf v18).toNat)
                  case atStart => exact ⟨0, Nat.zero_le _, rfl, HO.out, HBY.out⟩
                  case round =>
                    obtain ⟨k, hk, rfl, hO, hBy⟩ := hrel
                    have HO := Lib.hid hO
                    have HBY := Lib.hid hBy
                    clear hO hBy
                    by_cases hkj : k < j
                    · have hkji : (k : Int) < (j : Int) := by omega
                      obtain ⟨g5, o5, e5, hrow5⟩ := (HC5.out.below HBY.out (by rw [HGO.out]; exact Nat.le_refl _)).some (by omega)
                      cases e5
                      obtain ⟨g6, o6, e6, hrow6⟩ := (HC6.out.below HBY.out (by rw [HGO.out]; exact Nat.le_refl _)).some (by omega)
                      cases e6
                      have hd5 := hrow5.ni k (by have := HCL.out; omega)
                      have hd6 := hrow6.ni k (by rw [← HNZ.out]; omega)
                      have hc5 := hrow5.ni j (by have := HCL.out; omega)
                      have hc6 := hrow6.ni j (by rw [← HNZ.out]; omega)
                      rw [HCJ.out] at hc5
                      rw [HZJ.out] at hc6
                      clear hrow5 hrow6
                      have HOK := Lib.hid (HORD.out k)
                      generalize C.getD k 0 = ck at *
                      generalize Z.getD k 0 = zk at *
                      by_cases hck : c < ck
                      · have hzk : zk ≤ z := HOK.out hc hck
                        clear HOK
                        go_wp2_with fail
                        go_quiet (fail)
                        have HBY := Lib.hid (below_drewN HBY.out nq)
                        have HO : Hid ((wr.drewN nq).ownsRow go 3 1 (.slice (some ⟨go, 0, none⟩) i i) i (ni (oth C sy L j))) := Lib.hid (own_stays HO.out fun _ _ => rfl)
                        clear hc5 hc6 hd5 hd6
                        generalize wr.drewN nq = wx2 at *
                        go_wp2_with fail
                        exact ⟨⟨k + 1, by omega, by go_num, HO.out, HBY.out⟩, by simp only [intOf]; omega⟩
                      · have hck2 : decide (c < ck) = false := decide_eq_false hck
                        clear HOK
                        go_wp2_with fail
                        go_quiet (fail)
                        have HBY := Lib.hid (below_drewN HBY.out nq)
                        have HO : Hid ((wr.drewN nq).ownsRow go 3 1 (.slice (some ⟨go, 0, none⟩) i i) i (ni (oth C sy L j))) := Lib.hid (own_stays HO.out fun _ _ => rfl)
                        clear hc5 hc6 hd5 hd6
                        generalize wr.drewN nq = wx2 at *
                        go_wp2_with fail
                        exact ⟨⟨k + 1, by omega, by go_num, HO.out, HBY.out⟩, by simp only [intOf]; omega⟩
                    · have hkji : (j : Int) ≤ (k : Int) := by omega
                      obtain ⟨g5, o5, e5, hrow5⟩ := (HC5.out.below HBY.out (by rw [HGO.out]; exact Nat.le_refl _)).some (by omega)
                      cases e5
                      have hc5 := hrow5.ni j (by have := HCL.out; omega)
                      rw [HCJ.out] at hc5
                      clear hrow5
                      obtain ⟨g0, cap0, e0, _, _, _, _, hcell, hfr, hset⟩ := own_spot HO.out (by omega)
                      cases e0
                      have hol : (ni (oth C sy L j)).length = i := by rw [ni_length, oth_length]; exact HCL.out.symm
                      have hc0 := hcell j _ (List.getElem?_eq_getElem (by rw [hol]; exact hji))
                      have hf0 := hfr j
                      have hown1 := hset j (.int .i64 (L : Int)) hji
                      have hB1 : Below go w3 (wr.setCell ⟨go, j, none⟩ (.int .i64 (L : Int))) := HBY.out.setCell (Nat.le_refl _) _
                      clear hcell hfr hset
                      have HSTJ := Lib.hid (HST.out hc)
                      by_cases hj8 : j < l8
                      · have hj8i : (j : Int) < (l8 : Int) := by omega
                        obtain ⟨g1, o1, rfl, hrow1⟩ := (HU.out.below ((HB.out.trans (hB1.mono HSZ3.out))) (Nat.le_refl _)).some (by omega)
                        have hcap1 := HU.out.le
                        have hjs : j < sy.length := by have := HN8.out; omega
                        have hc1 := hrow1.n8 j hjs
                        have hyb := HU8.out (sy.getD j 0) (getD_memJ hjs)
                        obtain ⟨g2, cap2, e2, _, _, _, _, hcell, hfr, hset⟩ := own_spot hown1 (by omega)
                        cases e2
                        have hc2 := hcell j (.int .i64 (L : Int)) (by rw [List.getElem?_set, if_pos rfl, if_pos (by rw [hol]; exact hji)])
                        have hf2 := hfr j
                        have hset2 := hset j
                        clear hcell hfr hset
                        have HV2 : Hid (oth C sy L (j + 1) = (oth C sy L j).set j (1 + sy.getD j 0 % (L : Int))) := Lib.hid (by rw [HSTJ.out, if_pos hjs])
                        clear hjs hrow1
                        generalize sy.getD j 0 = y at hc1 hyb HV2
                        have hLi : (L : Int) ≠ 0 := by omega
                        have hr1 := Int.emod_nonneg y hLi
                        have hr2 := Int.emod_lt_of_pos y (show (0 : Int) < (L : Int) by omega)
                        have HN2 : Hid (((wr.setCell ⟨go, j, none⟩ (.int .i64 (L : Int))).setCell ⟨go, j, none⟩ (.int .i64 (1 + y % (L : Int)))).ownsRow go 3 1 (.slice (some ⟨go, 0, none⟩) i i) i (ni (oth C sy L (j + 1)))) := Lib.hid (by
                          have := hset2 (.int .i64 (1 + y % (L : Int))) hji
                          rw [List.set_set] at this
                          rw [HV2.out]
                          unfold ni at this ⊢
                          rw [List.map_set]; exact this)
                        have HB2 : Hid (Below go w3 ((wr.setCell ⟨go, j, none⟩ (.int .i64 (L : Int))).setCell ⟨go, j, none⟩ (.int .i64 (1 + y % (L : Int))))) := Lib.hid (hB1.setCell (Nat.le_refl _) _)
                        clear hset2 hown1 hB1
                        go_wp2_with fail
                        refine ⟨⟨j + 1, ?_, ?_, HN2.out, HB2.out⟩, ?_⟩
                        · omega
                        · go_num
                        · simp only [intOf]; omega
                      · have hj8i : (l8 : Int) ≤ (j : Int) := by omega
                        have HN2 : Hid ((wr.setCell ⟨go, j, none⟩ (.int .i64 (L : Int))).ownsRow go 3 1 (.slice (some ⟨go, 0, none⟩) i i) i (ni (oth C sy L (j + 1)))) := Lib.hid (by
                          rw [HSTJ.out, if_neg (by have := HN8.out; omega)]
                          unfold ni at hown1 ⊢
                          rw [List.map_set]; exact hown1)
                        have HB2 := Lib.hid hB1
                        clear hown1 hB1
                        go_wp2_with fail
                        refine ⟨⟨j + 1, ?_, ?_, HN2.out, HB2.out⟩, ?_⟩
                        · omega
                        · go_num
                        · simp only [intOf]; omega
                · obtain rfl : c = 0 := by omega
                  obtain rfl : z = 0 := by have := HZP.out; omega
                  have HSKJ := Lib.hid (HSK.out (by decide))
                  go_wp2_with fail
                  go_quiet (fail)
                  have HBY := Lib.hid (below_drewN HBY.out nq)
                  have HO : Hid ((wr.drewN nq).ownsRow go 3 1 (.slice (some ⟨go, 0, none⟩) i i) i (ni (oth C sy L j))) := Lib.hid (own_stays HO.out fun _ _ => rfl)
                  clear hc5 hc6
                  generalize wr.drewN nq = wx at *
                  go_wp2_with fail
                  go_loopw [18] (fun v18 wy => ∃ k : Nat, k ≤ j ∧ v18 = .int .i64 k ∧ wy.ownsRow go 3 1 (.slice (some ⟨go, 0, none⟩) i i) i (ni (oth C sy L j)) ∧ Below go w3 wy) (fun v18 _ => j - (intOf v18).toNat)
                  case atStart => exact ⟨0, Nat.zero_le _, rfl, HO.out, HBY.out⟩
                  case round =>
                    obtain ⟨k, hk, rfl, hO, hBy⟩ := hrel
                    have HO := Lib.hid hO
                    have HBY := Lib.hid hBy
                    clear hO hBy
                    by_cases hkj : k < j
                    · have hkji : (k : Int) < (j : Int) := by omega
                      obtain ⟨g5, o5, e5, hrow5⟩ := (HC5.out.below HBY.out (by rw [HGO.out]; exact Nat.le_refl _)).some (by omega)
                      cases e5
                      obtain ⟨g6, o6, e6, hrow6⟩ := (HC6.out.below HBY.out (by rw [HGO.out]; exact Nat.le_refl _)).some (by omega)
                      cases e6
                      have hd5 := hrow5.ni k (by have := HCL.out; omega)
                      have hd6 := hrow6.ni k (by rw [← HNZ.out]; omega)
                      have hc5 := hrow5.ni j (by have := HCL.out; omega)
                      have hc6 := hrow6.ni j (by rw [← HNZ.out]; omega)
                      rw [HCJ.out] at hc5
                      rw [HZJ.out] at hc6
                      clear hrow5 hrow6
                      have HOK := Lib.hid (HORD.out k)
                      generalize C.getD k 0 = ck at *
                      generalize Z.getD k 0 = zk at *
                      by_cases hck : 0 < ck
                      · clear HOK
                        go_wp2_with fail
                        go_quiet (fail)
                        have HBY := Lib.hid (below_drewN HBY.out nq)
                        have HO : Hid ((wr.drewN nq).ownsRow go 3 1 (.slice (some ⟨go, 0, none⟩) i i) i (ni (oth C sy L j))) := Lib.hid (own_stays HO.out fun _ _ => rfl)
                        clear hc5 hc6 hd5 hd6
                        generalize wr.drewN nq = wx2 at *
                        go_wp2_with fail
                        exact ⟨⟨k + 1, by omega, by go_num, HO.out, HBY.out⟩, by simp only [intOf]; omega⟩
                      · have hck2 : decide (0 < ck) = false := decide_eq_false hck
                        clear HOK
                        go_wp2_with fail
                        go_quiet (fail)
                        have HBY := Lib.hid (below_drewN HBY.out nq)
                        have HO : Hid ((wr.drewN nq).ownsRow go 3 1 (.slice (some ⟨go, 0, none⟩) i i) i (ni (oth C sy L j))) := Lib.hid (own_stays HO.out fun _ _ => rfl)
                        clear hc5 hc6 hd5 hd6
                        generalize wr.drewN nq = wx2 at *
                        go_wp2_with fail
                        exact ⟨⟨k + 1, by omega, by go_num, HO.out, HBY.out⟩, by simp only [intOf]; omega⟩
                    · have hkji : (j : Int) ≤ (k : Int) := by omega
                      obtain ⟨g5, o5, e5, hrow5⟩ := (HC5.out.below HBY.out (by rw [HGO.out]; exact Nat.le_refl _)).some (by omega)
                      cases e5
                      have hc5 := hrow5.ni j (by have := HCL.out; omega)
                      rw [HCJ.out] at hc5
                      clear hrow5
                      go_wp2_with fail
                      refine ⟨⟨j + 1, ?_, ?_, ?_, HBY.out⟩, ?_⟩
                      · omega
                      · go_num
                      · rw [HSKJ.out]; exact HO.out
                      · simp only [intOf]; omega
              · have hjii : (i : Int) ≤ (j : Int) := by omega
                obtain rfl : j = i := by omega
                have HGO3 := Lib.hid (good_of (oth C sy L j) (by rw [oth_length, ← HCL.out]; omega) (fun x _ => by have := oth_bound C sy L j x (by omega); omega))
                have HOV := Lib.hid (own_toV HO.out)
                have HBA := Lib.hid (HB.out.trans (HBY.out.mono HSZ3.out))
                have HC5 := Lib.hid (HC5.out.below HBY.out (by rw [HGO.out]; exact Nat.le_refl _))
                have HC6 := Lib.hid (HC6.out.below HBY.out (by rw [HGO.out]; exact Nat.le_refl _))
                have HCST := Lib.hid (fun hkr => cost_least C L (by omega) hL15 (fun x => (HCB.out x).1) HKL.out (oth C sy L j) (by rw [oth_length]) (fun x => by have := oth_full C sy L x (by omega); rw [← HCL.out] at this; exact this) hkr)
                rw [← HZL.out, ← HCL.out] at HCST
                clear HO HBY
                go_wp2_with fail
                by_cases hs1 : st (oth C sy L j) = 1
                · refine (state_good _ _ _ 1 HOV.out HGO3.out hs1).mono ?_
                  rintro e5 w5 ⟨rfl, hB5⟩
                  have HB5 := Lib.hid (bt HBA.out hB5)
                  clear hB5 HCST
                  go_wp2_with fail
                  refine (tells_walk _).mono ?_
                  rintro e6 wo ⟨rfl, hBo⟩
                  have HBo := Lib.hid (bt HB5.out hBo)
                  clear hBo
                  go_wp2_with fail
                  go_ret
                  exact ⟨rfl, HBo.out⟩
                · have hkr : kr (oth C sy L j) ≤ 32768 := by
                    unfold st at hs1
                    rcases Nat.lt_or_ge 32768 (kr (oth C sy L j)) with h | h
                    · rw [if_neg (by omega), if_pos h] at hs1; exact absurd rfl hs1
                    · exact h
                  have HLS := Lib.hid (HCST.out hkr)
                  obtain ⟨S, hS⟩ : ∃ S, S = st (oth C sy L j) := ⟨_, rfl⟩
                  rw [← hS] at hs1
                  have hsb : (S == 1) = false := beq_false_of_ne hs1
                  have hsn : (S != 1) = true := by rw [bne, hsb]; rfl
                  refine (state_good _ _ _ S HOV.out HGO3.out hS.symm).mono ?_
                  rintro e5 w5 ⟨rfl, hB5⟩
                  have HB5 := Lib.hid (bt HBA.out hB5)
                  have HC5 := Lib.hid (HC5.out.below hB5 (Nat.le_refl _))
                  have HC6 := Lib.hid (HC6.out.below hB5 (Nat.le_refl _))
                  have HOV := Lib.hid (HOV.out.below hB5 (Nat.le_refl _))
                  clear hB5 HCST hkr hS
                  go_wp2_with fail
                  refine (Cost_walk _ _ _ _ _ HC5.out HOV.out (fun x => by have := HCB.out x; omega) (fun x => by have := oth_bound C sy L j x (by omega); omega) (by rw [← HCL.out]; omega) (by rw [oth_length, ← HCL.out]; omega)).mono ?_
                  rintro e6 w6 ⟨rfl, hB6⟩
                  rw [oth_length, Nat.min_self, ← HCL.out]
                  have HB6 := Lib.hid (bt HB5.out hB6)
                  have HC5 := Lib.hid (HC5.out.below hB6 (Nat.le_refl _))
                  have HC6 := Lib.hid (HC6.out.below hB6 (Nat.le_refl _))
                  clear hB6
                  go_wp2_with fail
                  refine (Cost_walk _ _ _ _ _ HC5.out HC6.out (fun x => by have := HCB.out x; omega) (fun x => by have := HLE.out.bound x; omega) (by rw [← HCL.out]; omega) (by rw [← HNZ.out]; omega)).mono ?_
                  rintro e7 w7 ⟨rfl, hB7⟩
                  rw [← HNZ.out, ← HCL.out, Nat.min_self]
                  have HB7 := Lib.hid (bt HB6.out hB7)
                  clear hB7
                  have hcd : decide (cost C (oth C sy L j) j < cost C Z j) = false := decide_eq_false (by have := HLS.out; omega)
                  generalize cost C (oth C sy L j) j = q1 at hcd ⊢
                  generalize cost C Z j = q2 at hcd ⊢
                  clear HLS
                  go_wp2_with fail
                  refine (tells_walk _).mono ?_
                  rintro e8 wo ⟨rfl, hBo⟩
                  have HBo := Lib.hid (bt HB7.out hBo)
                  clear hBo
                  go_wp2_with fail
                  go_ret
                  exact ⟨rfl, HBo.out⟩
end Go.Proofs.Ytoifppfhnedahaa
