/-
  HuffLengths: the law's walk.
-/
import Derived.Test.YtoifppfhnedahaaRefM
import Derived.Test.YtoifppfhnedahaaReadsKit
import Derived.Test.YtoifppfhnedahaaCost2
import Derived.Test.YtoifppfhnedahaaLenOverN
import Derived.Test.YtoifppfhnedahaaTells
import Derived.Test.YtoifppfhnedahaaInts
namespace Go.Proofs.Ytoifppfhnedahaa
open Go.RowKit Hf
/-- Lengths of any counts. -/
theorem Lengths_all (w : World) (v : Value) (C : List Int) (lim : Int) (hv : SlV w v (ni C)) (hl : C.length ≤ 1024) : Calls Try.prog 9 #[v, .int .i64 lim] w (LenPost C lim w) := by
  by_cases h : okC C = true ∧ 1 ≤ lim ∧ lim ≤ 15
  · obtain ⟨hok, h1, h2⟩ := h
    obtain ⟨L, rfl⟩ : ∃ L : Nat, lim = (L : Int) := ⟨lim.toNat, by omega⟩
    have hs := syms_le C
    rcases Nat.lt_or_ge (2 ^ L) (syms C).length with h3 | h3
    · exact Lengths_overN w v C L hv hok (by omega) (by omega) (by omega) h3
    · exact Lengths_okN w v C L hv hok (by omega) (by omega) (by omega) h3 (okAny C L (by omega) h3 (by omega))
  · exact Lengths_arg w v C lim hv (by omega) h
/-- The lengths that are answered: none with an error. -/
def lensZ (C : List Int) (lim : Int) : List Int := if lenErr C lim = 0 then lensF C lim.toNat else []
theorem LenPost.sl {C : List Int} {lim : Int} {w w' : World} {e : Ending} (h : LenPost C lim w e w') : ∃ v, e = .returned (.tuple #[v, .int .i64 (lenErr C lim)]) ∧ Below w.heap.size w w' ∧ SlV w' v (ni (lensZ C lim)) := by
  obtain ⟨v, h1, h2, h3, h4⟩ := h
  refine ⟨v, h1, h2, ?_⟩
  unfold lensZ
  by_cases h0 : lenErr C lim = 0
  · rw [if_pos h0]; exact own_toV (h3 h0)
  · rw [if_neg h0, h4 h0]; exact .inr ⟨none, rfl, rfl⟩
theorem lensZ_bd (C : List Int) (lim : Int) : ∀ i, i < min C.length (lensZ C lim).length → (0 ≤ C.getD i 0 ∧ C.getD i 0 ≤ 4294967296) ∧ 0 ≤ (lensZ C lim).getD i 0 ∧ (lensZ C lim).getD i 0 ≤ 15 := by
  intro i hi
  unfold lensZ at hi ⊢
  by_cases h0 : lenErr C lim = 0
  · rw [if_pos h0] at hi ⊢
    unfold lenErr at h0
    by_cases h : okC C = true ∧ 1 ≤ lim ∧ lim ≤ 15
    · rw [if_pos h] at h0
      have h3 : (syms C).length ≤ 2 ^ lim.toNat := by
        rcases Nat.lt_or_ge (2 ^ lim.toNat) (syms C).length with h4 | h4
        · rw [if_pos h4] at h0; cases h0
        · exact h4
      have h4 := (lens_are C lim.toNat (by omega) (by omega) h3).bound i
      obtain ⟨h5, _⟩ := okC_iff C h.1
      have hiC : i < C.length := by omega
      refine ⟨h5 _ ?_, h4.1, by omega⟩
      rw [List.getD_eq_getElem?_getD, List.getElem?_eq_getElem hiC]; exact List.getElem_mem hiC
    · rw [if_neg h] at h0; cases h0
  · rw [if_neg h0] at hi; simp at hi
theorem lensZ_length (C : List Int) (lim : Int) : (lensZ C lim).length ≤ C.length := by
  unfold lensZ
  by_cases h0 : lenErr C lim = 0
  · rw [if_pos h0]
    unfold lenErr at h0
    by_cases h : okC C = true ∧ 1 ≤ lim ∧ lim ≤ 15
    · rw [if_pos h] at h0
      have h3 : (syms C).length ≤ 2 ^ lim.toNat := by
        rcases Nat.lt_or_ge (2 ^ lim.toNat) (syms C).length with h4 | h4
        · rw [if_pos h4] at h0; cases h0
        · exact h4
      exact Nat.le_of_eq (lens_are C lim.toNat (by omega) (by omega) h3).len
    · rw [if_neg h] at h0; cases h0
  · rw [if_neg h0]; exact Nat.zero_le _
set_option maxRecDepth 100000 in
set_option maxHeartbeats 4000000 in
theorem hlens_walk (w : World) (v : Value) (zs0 : List Int) (lim : Int) (hv : SlV w v (ni zs0)) : Calls Try.prog 3 #[v, .int .i64 lim] w fun e w' => e = .returned (.bool true) ∧ Below w.heap.size w w' := by
  obtain ⟨i0, hi, hz0, hz1, hz2⟩ := info_parts info3
  have HI0 := Lib.hid (And.intro hi (And.intro hz0 (And.intro hz1 hz2)))
  clear hi hz0 hz1 hz2
  obtain ⟨p, cap, rfl⟩ := hv.shape
  rw [ni_length] at *
  obtain ⟨k, hk⟩ : ∃ k, k = min zs0.length 60 := ⟨_, rfl⟩
  have hmin1 : min (zs0.length : Int) 60 = (k : Int) := by omega
  have sl1 := slice_toI hv k (by omega)
  have hv2 := hv.take k (by omega)
  rw [ni_take] at hv2
  have hk3 : k ≤ 60 := by omega
  obtain ⟨C, hC⟩ : ∃ C, C = zs0.take 60 := ⟨_, rfl⟩
  have hkz : k = C.length := by rw [hC, List.length_take]; omega
  have e1 : zs0.take k = C := by rw [hC, hk, take_min]
  rw [e1] at hv2
  have HK := Lib.hid hkz
  have HSK : Hid (SlK 1 w (.slice p k cap) k (ni C)) := Lib.hid (by
    have h := hv2.toK
    rw [ni_length, ← hkz] at h; exact h)
  have HCL : Hid (C.length ≤ 1024) := Lib.hid (by omega)
  clear hv hv2 hkz e1 hk hC
  generalize zs0.length = k0 at *
  go_enter Try.func3, Try.ntmps3
  have hk5 : 0 + k ≤ 1099511627776 := by omega
  go_wp2_with (first | (refine wpList_appK 22 3 i0 (.int .i64 0) 1 8 Try.underlying22 HI0.out.1 HI0.out.2.1 HI0.out.2.2.1 HI0.out.2.2.2 rfl (by decide) (by decide) rfl _ _ rfl w.heap.size (.slice none 0 0) (.slice p k cap) 0 k [] (ni C) rfl rfl (ni_one C) (World.ownsRow_nil _ _ _ _) HSK.out (Nat.le_refl _) hk5 ?_; intro v' w1 hown hgrow _; rw [Nat.zero_add, List.nil_append] at hown; obtain ⟨p1, cap1, hv'⟩ := own_shape hown; have HB := Lib.hid ((Below.refl w.heap.size w).grown hgrow (Nat.le_refl _) (fun k e => by cases e)); have HOW := Lib.hid hown; have HS2 : Hid (SlK 1 w1 (.slice p1 k cap1) k (ni C)) := Lib.hid (by rw [hv'] at hown; have h := (own_toV hown).toK; rw [ni_length, ← HK.out] at h; exact h); clear hown hgrow; subst hv') | (refine wpList_appK 22 3 i0 (.int .i64 0) 1 8 Try.underlying22 HI0.out.1 HI0.out.2.1 HI0.out.2.2.1 HI0.out.2.2.2 rfl (by decide) (by decide) rfl _ _ rfl w1.heap.size (.slice none 0 0) (.slice p1 k cap1) 0 k [] (ni C) rfl rfl (ni_one C) (World.ownsRow_nil _ _ _ _) HS2.out (Nat.le_refl _) hk5 ?_; intro v' w2 hown hgrow _; rw [Nat.zero_add, List.nil_append] at hown; obtain ⟨p2, cap2, hv'⟩ := own_shape hown; have HB2 := Lib.hid ((Below.refl w1.heap.size w1).grown hgrow (Nat.le_refl _) (fun k e => by cases e)); have HOX := Lib.hid hown; clear hown hgrow; subst hv'))
  have HV1 := Lib.hid ((own_toV HOW.out).below HB2.out (Nat.le_refl _))
  have HV2 := Lib.hid (own_toV HOX.out)
  have HB := Lib.hid (bt HB.out HB2.out)
  clear HS2 HSK HOW HOX HB2 sl1 hmin1 hk5
  refine (Lengths_all _ _ _ _ HV2.out HCL.out).mono ?_
  intro e w3 h3
  obtain ⟨v3, rfl, hB3, hS3⟩ := h3.sl
  have HB := Lib.hid (bt HB.out hB3)
  have HV1 := Lib.hid (HV1.out.below hB3 (Nat.le_refl _))
  have HV2 := Lib.hid (HV2.out.below hB3 (Nat.le_refl _))
  have HA := Lib.hid hS3
  clear h3 hB3 hS3
  go_wp2_with fail
  refine (rLengths_walk _ _ _ _ HV1.out (by rw [← HK.out]; exact hk3)).mono ?_
  intro e w4 h4
  obtain ⟨v4, rfl, hB4, hS4⟩ := h4.sl
  have HB := Lib.hid (bt HB.out hB4)
  have HV1 := Lib.hid (HV1.out.below hB4 (Nat.le_refl _))
  have HV2 := Lib.hid (HV2.out.below hB4 (Nat.le_refl _))
  have HA := Lib.hid (HA.out.below hB4 (Nat.le_refl _))
  have HA2 := Lib.hid hS4
  clear h4 hB4 hS4
  have HBD := Lib.hid (lensZ_bd C lim)
  have HZL : Hid ((lensZ C lim).length ≤ 1099511627776) := Lib.hid (by have h1 := lensZ_length C lim; have h2 := HCL.out; omega)
  generalize lensZ C lim = Z at *
  generalize lenErr C lim = E at *
  go_wp2_with fail
  refine (ints_walk _ _ _ _ _ HA.out HA2.out HZL.out).mono ?_
  rintro e w5 ⟨rfl, hB5⟩
  rw [show decide (Z = Z) = true from decide_eq_true rfl]
  have HB := Lib.hid (bt HB.out hB5)
  have HV1 := Lib.hid (HV1.out.below hB5 (Nat.le_refl _))
  have HV2 := Lib.hid (HV2.out.below hB5 (Nat.le_refl _))
  have HA := Lib.hid (HA.out.below hB5 (Nat.le_refl _))
  have HA2 := Lib.hid (HA2.out.below hB5 (Nat.le_refl _))
  clear hB5
  go_wp2_with fail
  refine (ints_walk _ _ _ _ _ HV2.out HV1.out (by have := HCL.out; omega)).mono ?_
  rintro e w6 ⟨rfl, hB6⟩
  rw [show decide (C = C) = true from decide_eq_true rfl]
  have HB := Lib.hid (bt HB.out hB6)
  have HV1 := Lib.hid (HV1.out.below hB6 (Nat.le_refl _))
  have HA := Lib.hid (HA.out.below hB6 (Nat.le_refl _))
  have HA2 := Lib.hid (HA2.out.below hB6 (Nat.le_refl _))
  clear hB6
  go_wp2_with fail
  refine (CostM_walk _ _ _ C Z HV1.out HA.out HBD.out (.inl HCL.out)).mono ?_
  rintro e w7 ⟨rfl, hB7⟩
  have HB := Lib.hid (bt HB.out hB7)
  have HV1 := Lib.hid (HV1.out.below hB7 (Nat.le_refl _))
  have HA2 := Lib.hid (HA2.out.below hB7 (Nat.le_refl _))
  clear hB7
  generalize hco : cost C Z (min C.length Z.length) = co
  have HCO := Lib.hid hco
  clear hco
  go_wp2_with fail
  refine (rCost_walk _ _ _ C Z HV1.out HA2.out HBD.out (.inl HCL.out)).mono ?_
  rintro e w8 ⟨rfl, hB8⟩
  have HB := Lib.hid (bt HB.out hB8)
  rw [HCO.out]
  clear hB8
  go_wp2_with fail
  refine (tells_walk _).mono ?_
  rintro e w9 ⟨rfl, hB9⟩
  have HB := Lib.hid (bt HB.out hB9)
  clear hB9
  go_wp2_with fail
  go_ret
  exact ⟨rfl, HB.out⟩
end Go.Proofs.Ytoifppfhnedahaa
