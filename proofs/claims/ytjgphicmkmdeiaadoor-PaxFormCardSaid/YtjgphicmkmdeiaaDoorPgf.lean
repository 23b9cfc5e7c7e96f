/-
  The law on Get: its own walk.
-/
import Derived.Test.YtjgphicmkmdeiaaDoorPge
namespace Go.Proofs.YtjgphicmkmdeiaaDoor
open Go.RowKit Go.Maps

set_option maxRecDepth 100000 in
set_option maxHeartbeats 4000000 in
theorem gets_walk (w : World) (v : Value) (L : List UInt8) (hv : SlV w v (bl L)) (hL : L.length ≤ maxLen) (hP : PxAt w) : Calls Tryd.prog 4 #[v] w (TellsPost w) := by
  unfold maxLen at hL
  obtain ⟨i0, hi, hz0, hz1, hz2⟩ := info_parts info5
  have HI0 := Lib.hid (And.intro hi (And.intro hz0 (And.intro hz1 hz2)))
  clear hi hz0 hz1 hz2
  obtain ⟨p, c, rfl⟩ := hv.shape
  rw [bl_length] at hv ⊢
  have hcv := hv.le
  obtain ⟨n, hn⟩ : ∃ n, L.length = n := ⟨_, rfl⟩
  rw [hn] at hv hL hcv ⊢
  obtain ⟨k, hk⟩ : ∃ k, min n 2000 = k := ⟨_, rfl⟩
  have hmin : min (n : Int) 2000 = (k : Int) := by omega
  have hkn : k ≤ n := by omega
  have hk2 : k ≤ 2000 := by omega
  have hsl := slice_toB hv k hkn
  have hvt := SlV.takeB hv k hkn
  obtain ⟨T, hT⟩ : ∃ T, L.take k = T := ⟨_, rfl⟩
  rw [hT] at hvt
  have hTl : T.length = k := by rw [← hT, List.length_take]; omega
  have HTL := Lib.hid hTl
  have HV := Lib.hid hvt
  have HP := Lib.hid hP
  have HK2 := Lib.hid hk2
  have HSK : Hid (SlK 1 w (.slice p k c) k (bl T)) := Lib.hid (by have h := hvt.toK; rw [bl_length, hTl] at h; exact h)
  have HNIL : Hid (w.ownsRow w.heap.size 5 1 (.slice none 0 0) 0 []) := Lib.hid ⟨rfl, .inl ⟨rfl, rfl⟩⟩
  have hnI : (n : Int) ≤ 9223372036854775807 := by omega
  have hkI : (k : Int) ≤ 2000 := by omega
  obtain ⟨bt, hbt⟩ : ∃ x, (⟨T.toArray⟩ : ByteArray) = x := ⟨_, rfl⟩
  have HBT := Lib.hid hbt
  have hbe : (bt.toList == bt.toList) = true := beq_self_eq_true _
  clear hT hTl hvt hv hP hL hk hkn hk2 hn hbt
  cases hg : Px.get T with
  | error x =>
    have HG := Lib.hid hg
    have hxe : ((x : Int) == (x : Int)) = true := beq_self_eq_true _
    clear hg
    go_enter Tryd.func4, Tryd.ntmps4
    go_wp2_with (first
      | (refine wpList_appK 26 5 i0 (.int .u8 0) 1 1 Tryd.underlying26 HI0.out.1 HI0.out.2.1 HI0.out.2.2.1 HI0.out.2.2.2 rfl (by decide) (by decide) rfl (.const (.slice none 0 0)) (.tmp 13) rfl w.heap.size (.slice none 0 0) (.slice p k c) 0 k [] (bl T) rfl rfl (bl_one _) HNIL.out HSK.out (Nat.le_refl _) (by have := HK2.out; omega) ?_; intro vq w1 hown hgrow _; have HB1 : Hid (Below w.heap.size w w1) := Lib.hid ((Below.refl _ _).grown hgrow (Nat.le_refl _) (fun k hk => by simp [Value.ownBlock] at hk)); have HQ : Hid (SlV w1 vq (bl T)) := Lib.hid ((OwnM.of_own (n := 0 + k) (by simpa using hown)).toV); have HC1 := Lib.hid (get_err w1 vq T HQ.out (by have := HTL.out; have := HK2.out; omega) (HP.out.below HB1.out (Nat.le_refl _)) x HG.out); clear hown hgrow)
      | ((with_reducible refine HC1.out.mono ?_); rintro e w2 ⟨rfl, hb⟩; have HB2 : Hid (Below w.heap.size w w2) := Lib.hid (HB1.out.trans (hb.mono HB1.out.size)); have HQ2 : Hid (SlV w2 vq (bl T)) := Lib.hid (HQ.out.below hb (Nat.le_refl _)); have HC2 := Lib.hid (rget_err w2 (.slice p k c) T (HV.out.below HB2.out (Nat.le_refl _)) (by have := HTL.out; have := HK2.out; omega) x HG.out); clear hb)
      | ((with_reducible refine HC2.out.mono ?_); rintro e w3 ⟨rfl, hb⟩; have HB3 : Hid (Below w.heap.size w w3) := Lib.hid (HB2.out.trans (hb.mono HB2.out.size)); have HQ3 : Hid (SlV w3 vq (bl T)) := Lib.hid (HQ2.out.below hb (Nat.le_refl _)); have HC3 := Lib.hid (same_walk w3 (.slice none 0 0) (.slice none 0 0) [] ⟨rfl, .inr ⟨none, rfl, rfl⟩⟩ ⟨rfl, .inr ⟨none, rfl, rfl⟩⟩ (Nat.zero_le _)); clear hb)
      | ((with_reducible refine HC3.out.mono ?_); rintro e w4 ⟨rfl, hb⟩; have HB4 : Hid (Below w.heap.size w w4) := Lib.hid (HB3.out.trans (hb.mono HB3.out.size)); have hcv1 := run_toString (HQ3.out.below hb (Nat.le_refl _)); have hcv2 := run_toString (HV.out.below HB4.out (Nat.le_refl _)); rw [HBT.out] at hcv1 hcv2; have HC4 := Lib.hid (tells_walk w4 (HP.out.below HB4.out (Nat.le_refl _))); clear hb)
      | ((with_reducible refine HC4.out.mono ?_); rintro e w5 ⟨rfl, hb⟩; have HB5 : Hid (Below w.heap.size w w5) := Lib.hid (HB4.out.trans (hb.mono HB4.out.size)); clear hb))
    go_ret
    exact ⟨rfl, HB5.out⟩
  | ok rs =>
    have HG := Lib.hid hg
    have HRL : Hid (rs.length ≤ 1000000) := Lib.hid (by have := get_len _ T rs (Nat.le_refl _) hg; have := HTL.out; have := HK2.out; omega)
    clear hg
    go_enter Tryd.func4, Tryd.ntmps4
    go_wp2_with (first
      | (refine wpList_appK 26 5 i0 (.int .u8 0) 1 1 Tryd.underlying26 HI0.out.1 HI0.out.2.1 HI0.out.2.2.1 HI0.out.2.2.2 rfl (by decide) (by decide) rfl (.const (.slice none 0 0)) (.tmp 13) rfl w.heap.size (.slice none 0 0) (.slice p k c) 0 k [] (bl T) rfl rfl (bl_one _) HNIL.out HSK.out (Nat.le_refl _) (by have := HK2.out; omega) ?_; intro vq w1 hown hgrow _; have HB1 : Hid (Below w.heap.size w w1) := Lib.hid ((Below.refl _ _).grown hgrow (Nat.le_refl _) (fun k hk => by simp [Value.ownBlock] at hk)); have HQ : Hid (SlV w1 vq (bl T)) := Lib.hid ((OwnM.of_own (n := 0 + k) (by simpa using hown)).toV); have HC1 := Lib.hid (get_good w1 vq T HQ.out (by have := HTL.out; have := HK2.out; omega) (HP.out.below HB1.out (Nat.le_refl _)) rs HG.out); clear hown hgrow)
      | ((with_reducible refine HC1.out.mono ?_); rintro e w2 ⟨u1, rfl, hs1, hb⟩; have HS1 := Lib.hid hs1; have HB2 : Hid (Below w.heap.size w w2) := Lib.hid (HB1.out.trans (hb.mono HB1.out.size)); have HQ2 : Hid (SlV w2 vq (bl T)) := Lib.hid (HQ.out.below hb (Nat.le_refl _)); have HC2 := Lib.hid (rget_good w2 (.slice p k c) T (HV.out.below HB2.out (Nat.le_refl _)) (by have := HTL.out; have := HK2.out; omega) rs HG.out); clear hb hs1)
      | ((with_reducible refine HC2.out.mono ?_); rintro e w3 ⟨u2, rfl, hs2, hb⟩; have HB3 : Hid (Below w.heap.size w w3) := Lib.hid (HB2.out.trans (hb.mono HB2.out.size)); have HQ3 : Hid (SlV w3 vq (bl T)) := Lib.hid (HQ2.out.below hb (Nat.le_refl _)); have HC3 := Lib.hid (same_walk w3 u1 u2 rs (HS1.out.below hb (Nat.le_refl _)) hs2 HRL.out); clear hb hs2)
      | ((with_reducible refine HC3.out.mono ?_); rintro e w4 ⟨rfl, hb⟩; have HB4 : Hid (Below w.heap.size w w4) := Lib.hid (HB3.out.trans (hb.mono HB3.out.size)); have hcv1 := run_toString (HQ3.out.below hb (Nat.le_refl _)); have hcv2 := run_toString (HV.out.below HB4.out (Nat.le_refl _)); rw [HBT.out] at hcv1 hcv2; have HC4 := Lib.hid (tells_walk w4 (HP.out.below HB4.out (Nat.le_refl _))); clear hb)
      | ((with_reducible refine HC4.out.mono ?_); rintro e w5 ⟨rfl, hb⟩; have HB5 : Hid (Below w.heap.size w w5) := Lib.hid (HB4.out.trans (hb.mono HB4.out.size)); clear hb))
    go_ret
    exact ⟨rfl, HB5.out⟩
end Go.Proofs.YtjgphicmkmdeiaaDoor
