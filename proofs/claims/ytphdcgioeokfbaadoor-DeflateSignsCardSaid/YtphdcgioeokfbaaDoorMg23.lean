/-
  Merged, in the order in which they build: LenOneN LenManyN LenOverN LenOkN.
-/
import Derived.Test.YtphdcgioeokfbaaDoorMg22
/-
  Lengths of one symbol, and of none.
-/
namespace Go.Proofs.YtphdcgioeokfbaaDoor
open Go.RowKit Hf
set_option maxRecDepth 100000 in
set_option maxHeartbeats 4000000 in
theorem Lengths_oneN (w : World) (v : Value) (counts : List Int) (limit : Nat) (hv : SlV w v (ni counts)) (hok : okC counts = true) (hl1 : 1 ≤ limit) (hl2 : limit ≤ 15) (hm : (syms counts).length ≤ 1024) (hk : (syms counts).length ≤ 2 ^ limit)
    (hq : (syms counts).length = 1)
    (hst : 1 < (syms counts).length → sttOk (syms counts) (zeros counts.length) (lst (its (cnts counts (syms counts)))) limit) :
    Calls Tryd.prog 57 #[v, .int .i64 (limit : Int)] w (LenPost counts (limit : Int) w) := by
  have hlc : counts.length ≤ 1024 := by
    unfold okC at hok
    rw [Bool.and_eq_true] at hok
    exact of_decide_eq_true hok.2
  have hcb : ∀ c ∈ counts, 0 ≤ c ∧ c ≤ 4294967296 := by
    unfold okC at hok
    rw [Bool.and_eq_true, List.all_eq_true] at hok
    intro c hc
    have := hok.1 c hc
    simp at this
    omega
  have HC := Lib.hid (countable_walk w v counts hv (by omega))
  have HBY := Lib.hid (byCountN_walk w v counts hv hlc)
  have HE : Hid (lenErr counts (limit : Int) = 0) := Lib.hid (by unfold lenErr; rw [if_pos ⟨hok, by omega, by omega⟩, if_neg (by rw [Int.toNat_natCast]; omega)])
  obtain ⟨p, cap, rfl⟩ := hv.shape
  rw [ni_length] at *
  obtain ⟨n, hn⟩ : ∃ n, n = counts.length := ⟨_, rfl⟩
  have HV := Lib.hid hv
  have HN := Lib.hid hn
  have HCB := Lib.hid hcb
  have HST := Lib.hid hst
  have hn1 : n ≤ 1024 := by omega
  rw [← hn] at HV HC HBY ⊢
  obtain ⟨m, hm0⟩ : ∃ m, m = (syms counts).length := ⟨_, rfl⟩
  have HM := Lib.hid hm0
  rw [← hm0] at hm hk
  have hpow : (2 : Int) ^ limit = ((2 ^ limit : Nat) : Int) := by simp
  have hpl : 2 ^ limit ≤ 2 ^ 15 := Nat.pow_le_pow_right (by decide) hl2
  have hp15 : (2 : Nat) ^ 15 = 32768 := by decide
  clear hv hn hcb hst hm0
  obtain ⟨i0, hi, hz0, hz1, hz2⟩ := info_parts info3
  have HI0 := Lib.hid (And.intro hi (And.intro hz0 (And.intro hz1 hz2)))
  clear hi hz0 hz1 hz2
  go_enter Tryd.func57, Tryd.ntmps57
  go_wp2_with fail
  refine HC.out.mono ?_
  rintro e w1 ⟨rfl, rfl⟩
  clear HC
  rw [hok]
  go_wp2_with fail
  refine HBY.out.mono ?_
  rintro e w2 ⟨v2, rfl, hO2, hmem, hB2⟩
  rw [← syms_length, ← HM.out] at hO2
  obtain ⟨p2, cap2, rfl⟩ := own_shape hO2
  have HO2 := Lib.hid hO2
  have HB2 := Lib.hid hB2
  have HME := Lib.hid hmem
  clear hO2 hB2 hmem HBY
  have hmi : (m : Int) ≤ 2 ^ limit := by rw [hpow]; omega
  have hwp : wrap64 (2 ^ limit) = 2 ^ limit := by rw [hpow]; unfold wrap64; omega
  have hwq : IntKind.i64.wrap (2 ^ limit) = 2 ^ limit := by rw [hpow]; exact IntWalk.i64_in _ (by omega)
  clear hpow
  have hle2 : w1.heap.size ≤ w2.heap.size := HB2.out.size
  have hm1 : m = 1 := by rw [HM.out]; exact hq
  clear hq
  subst hm1
  obtain ⟨s, hs⟩ : ∃ s, syms counts = [s] := by
    match hsy : syms counts, HM.out with
    | [s], _ => exact ⟨s, rfl⟩
  have hsn : s < n := by have := HME.out s (by rw [hs]; simp); have := HN.out; omega
  have HL : Hid (lensF counts limit = (zeros n).set s 1) := Lib.hid (by unfold lensF; rw [if_pos HM.out.symm, hs, ← HN.out]; rfl)
  have HS := Lib.hid hs
  have hsi : (s : Int) < (n : Int) := by omega
  clear hs
  go_wp2_with (refine wpList_make_full w2 rfl _ _ 91 rfl w1.heap.size 3 i0 (.int .i64 0) 1 Tryd.underlying91 HI0.out.1 HI0.out.2.1 HI0.out.2.2.1 .i64 .i64 n n n rfl rfl rfl rfl (by rw [HI0.out.2.2.2]; omega) (by unfold maxLen; omega) HB2.out.size ?_; intro w3 hown hgrow; have hrow := made_row hown; have hB3 : Below w2.heap.size w2 w3 := (Below.refl _ _).grown hgrow (Nat.le_refl _) (fun k e => by cases e); have hO3 := own_stays HO2.out (fun k hk => hB3.block k (HO2.out.lt k hk).2); have HRW := Lib.hid hrow; have HB3 := Lib.hid hB3; have HO3 := Lib.hid hO3; clear hown hgrow hrow hB3 hO3; obtain ⟨g2, c2, hsh, _, _, _, _, hcs, _, _⟩ := own_spot HO3.out (by omega); injection hsh with hp _ hc; subst hp; subst hc; have hc0 := hcs 0 (.int .i64 (s : Int)) (by rw [HS.out]; rfl); clear hcs; have hc1 : w3.cell? ⟨w2.heap.size, s, none⟩ = some (.int .i64 0) := (by rw [cell_of_row _ _ _ _ _ _ HRW.out]; simp [ni, zeros, hsn]); have hf1 : w3.frozen? ⟨w2.heap.size, s, none⟩ = false := frozen_of_row _ _ _ _ _ HRW.out)
  go_ret2
  refine ⟨_, by rw [HE.out]; rfl, (HB2.out.trans (HB3.out.mono hle2)).setCell hle2 _, ?_, fun h => absurd HE.out h⟩
  intro _
  rw [Int.toNat_natCast, HL.out, ← HN.out]
  refine row_own (n := n) ?_ (by simp [zeros]) hle2 hn1
  rw [heap_setCell_same _ _ _ _ _ _ HRW.out]; simp [ni, List.map_set]
set_option maxRecDepth 100000 in
set_option maxHeartbeats 4000000 in
theorem Lengths_noneN (w : World) (v : Value) (counts : List Int) (limit : Nat) (hv : SlV w v (ni counts)) (hok : okC counts = true) (hl1 : 1 ≤ limit) (hl2 : limit ≤ 15) (hm : (syms counts).length ≤ 1024) (hk : (syms counts).length ≤ 2 ^ limit)
    (hq : (syms counts).length = 0)
    (hst : 1 < (syms counts).length → sttOk (syms counts) (zeros counts.length) (lst (its (cnts counts (syms counts)))) limit) :
    Calls Tryd.prog 57 #[v, .int .i64 (limit : Int)] w (LenPost counts (limit : Int) w) := by
  have hlc : counts.length ≤ 1024 := by
    unfold okC at hok
    rw [Bool.and_eq_true] at hok
    exact of_decide_eq_true hok.2
  have hcb : ∀ c ∈ counts, 0 ≤ c ∧ c ≤ 4294967296 := by
    unfold okC at hok
    rw [Bool.and_eq_true, List.all_eq_true] at hok
    intro c hc
    have := hok.1 c hc
    simp at this
    omega
  have HC := Lib.hid (countable_walk w v counts hv (by omega))
  have HBY := Lib.hid (byCountN_walk w v counts hv hlc)
  have HE : Hid (lenErr counts (limit : Int) = 0) := Lib.hid (by unfold lenErr; rw [if_pos ⟨hok, by omega, by omega⟩, if_neg (by rw [Int.toNat_natCast]; omega)])
  obtain ⟨p, cap, rfl⟩ := hv.shape
  rw [ni_length] at *
  obtain ⟨n, hn⟩ : ∃ n, n = counts.length := ⟨_, rfl⟩
  have HV := Lib.hid hv
  have HN := Lib.hid hn
  have HCB := Lib.hid hcb
  have HST := Lib.hid hst
  have hn1 : n ≤ 1024 := by omega
  rw [← hn] at HV HC HBY ⊢
  obtain ⟨m, hm0⟩ : ∃ m, m = (syms counts).length := ⟨_, rfl⟩
  have HM := Lib.hid hm0
  rw [← hm0] at hm hk
  have hpow : (2 : Int) ^ limit = ((2 ^ limit : Nat) : Int) := by simp
  have hpl : 2 ^ limit ≤ 2 ^ 15 := Nat.pow_le_pow_right (by decide) hl2
  have hp15 : (2 : Nat) ^ 15 = 32768 := by decide
  clear hv hn hcb hst hm0
  obtain ⟨i0, hi, hz0, hz1, hz2⟩ := info_parts info3
  have HI0 := Lib.hid (And.intro hi (And.intro hz0 (And.intro hz1 hz2)))
  clear hi hz0 hz1 hz2
  go_enter Tryd.func57, Tryd.ntmps57
  go_wp2_with fail
  refine HC.out.mono ?_
  rintro e w1 ⟨rfl, rfl⟩
  clear HC
  rw [hok]
  go_wp2_with fail
  refine HBY.out.mono ?_
  rintro e w2 ⟨v2, rfl, hO2, hmem, hB2⟩
  rw [← syms_length, ← HM.out] at hO2
  obtain ⟨p2, cap2, rfl⟩ := own_shape hO2
  have HO2 := Lib.hid hO2
  have HB2 := Lib.hid hB2
  have HME := Lib.hid hmem
  clear hO2 hB2 hmem HBY
  have hmi : (m : Int) ≤ 2 ^ limit := by rw [hpow]; omega
  have hwp : wrap64 (2 ^ limit) = 2 ^ limit := by rw [hpow]; unfold wrap64; omega
  have hwq : IntKind.i64.wrap (2 ^ limit) = 2 ^ limit := by rw [hpow]; exact IntWalk.i64_in _ (by omega)
  clear hpow
  have hle2 : w1.heap.size ≤ w2.heap.size := HB2.out.size
  have hm0 : m = 0 := by rw [HM.out]; exact hq
  clear hq
  subst hm0
  have HL : Hid (lensF counts limit = zeros n) := Lib.hid (by unfold lensF; rw [if_neg (by rw [← HM.out]; omega), if_neg (by rw [← HM.out]; omega), ← HN.out])
  go_wp2_with (refine wpList_make_full w2 rfl _ _ 91 rfl w1.heap.size 3 i0 (.int .i64 0) 1 Tryd.underlying91 HI0.out.1 HI0.out.2.1 HI0.out.2.2.1 .i64 .i64 n n n rfl rfl rfl rfl (by rw [HI0.out.2.2.2]; omega) (by unfold maxLen; omega) HB2.out.size ?_; intro w3 hown hgrow; have hrow := made_row hown; have hB3 : Below w2.heap.size w2 w3 := (Below.refl _ _).grown hgrow (Nat.le_refl _) (fun k e => by cases e); have hO3 := own_stays HO2.out (fun k hk => hB3.block k (HO2.out.lt k hk).2); have HRW := Lib.hid hrow; have HB3 := Lib.hid hB3; have HO3 := Lib.hid hO3; clear hown hgrow hrow hB3 hO3)
  go_ret2
  refine ⟨_, by rw [HE.out]; rfl, HB2.out.trans (HB3.out.mono hle2), ?_, fun h => absurd HE.out h⟩
  intro _
  rw [Int.toNat_natCast, HL.out, ← HN.out]
  exact row_own (n := n) HRW.out (zeros_length n) hle2 hn1
end Go.Proofs.YtphdcgioeokfbaaDoor
/-
  Lengths of two symbols and more (any number).
-/
namespace Go.Proofs.YtphdcgioeokfbaaDoor
open Go.RowKit Hf
set_option maxRecDepth 100000 in
set_option maxHeartbeats 4000000 in
theorem Lengths_manyN (w : World) (v : Value) (counts : List Int) (limit : Nat) (hv : SlV w v (ni counts)) (hok : okC counts = true) (hl1 : 1 ≤ limit) (hl2 : limit ≤ 15) (hm : (syms counts).length ≤ 1024) (hk : (syms counts).length ≤ 2 ^ limit)
    (hq : 1 < (syms counts).length)
    (hst : 1 < (syms counts).length → sttOk (syms counts) (zeros counts.length) (lst (its (cnts counts (syms counts)))) limit) :
    Calls Tryd.prog 57 #[v, .int .i64 (limit : Int)] w (LenPost counts (limit : Int) w) := by
  have hlc : counts.length ≤ 1024 := by
    unfold okC at hok
    rw [Bool.and_eq_true] at hok
    exact of_decide_eq_true hok.2
  have hcb : ∀ c ∈ counts, 0 ≤ c ∧ c ≤ 4294967296 := by
    unfold okC at hok
    rw [Bool.and_eq_true, List.all_eq_true] at hok
    intro c hc
    have := hok.1 c hc
    simp at this
    omega
  have HC := Lib.hid (countable_walk w v counts hv (by omega))
  have HBY := Lib.hid (byCountN_walk w v counts hv hlc)
  have HE : Hid (lenErr counts (limit : Int) = 0) := Lib.hid (by unfold lenErr; rw [if_pos ⟨hok, by omega, by omega⟩, if_neg (by rw [Int.toNat_natCast]; omega)])
  obtain ⟨p, cap, rfl⟩ := hv.shape
  rw [ni_length] at *
  obtain ⟨n, hn⟩ : ∃ n, n = counts.length := ⟨_, rfl⟩
  have HV := Lib.hid hv
  have HN := Lib.hid hn
  have HCB := Lib.hid hcb
  have HST := Lib.hid hst
  have hn1 : n ≤ 1024 := by omega
  rw [← hn] at HV HC HBY ⊢
  obtain ⟨m, hm0⟩ : ∃ m, m = (syms counts).length := ⟨_, rfl⟩
  have HM := Lib.hid hm0
  rw [← hm0] at hm hk
  have hpow : (2 : Int) ^ limit = ((2 ^ limit : Nat) : Int) := by simp
  have hpl : 2 ^ limit ≤ 2 ^ 15 := Nat.pow_le_pow_right (by decide) hl2
  have hp15 : (2 : Nat) ^ 15 = 32768 := by decide
  clear hv hn hcb hst hm0
  obtain ⟨i0, hi, hz0, hz1, hz2⟩ := info_parts info3
  have HI0 := Lib.hid (And.intro hi (And.intro hz0 (And.intro hz1 hz2)))
  clear hi hz0 hz1 hz2
  go_enter Tryd.func57, Tryd.ntmps57
  go_wp2_with fail
  refine HC.out.mono ?_
  rintro e w1 ⟨rfl, rfl⟩
  clear HC
  rw [hok]
  go_wp2_with fail
  refine HBY.out.mono ?_
  rintro e w2 ⟨v2, rfl, hO2, hmem, hB2⟩
  rw [← syms_length, ← HM.out] at hO2
  obtain ⟨p2, cap2, rfl⟩ := own_shape hO2
  have HO2 := Lib.hid hO2
  have HB2 := Lib.hid hB2
  have HME := Lib.hid hmem
  clear hO2 hB2 hmem HBY
  have hmi : (m : Int) ≤ 2 ^ limit := by rw [hpow]; omega
  have hwp : wrap64 (2 ^ limit) = 2 ^ limit := by rw [hpow]; unfold wrap64; omega
  have hwq : IntKind.i64.wrap (2 ^ limit) = 2 ^ limit := by rw [hpow]; exact IntWalk.i64_in _ (by omega)
  clear hpow
  have hle2 : w1.heap.size ≤ w2.heap.size := HB2.out.size
  have hm2 : 1 < m := by rw [HM.out]; exact hq
  have hm1 : ¬ m = 1 := by omega
  clear hq
  have hmi2 : (1 : Int) < (m : Int) := by omega
  have hme : ((m : Int) == 1) = false := beq_false_of_ne (by omega)
  have HL : Hid (lensF counts limit = (stt (syms counts) (zeros n) (lst (its (cnts counts (syms counts)))) limit limit).1) := Lib.hid (by unfold lensF; rw [if_neg (by rw [← HM.out]; omega), if_pos (by rw [← HM.out]; omega), ← HN.out])
  go_wp2_with (refine wpList_make_full w2 rfl _ _ 91 rfl w1.heap.size 3 i0 (.int .i64 0) 1 Tryd.underlying91 HI0.out.1 HI0.out.2.1 HI0.out.2.2.1 .i64 .i64 n n n rfl rfl rfl rfl (by rw [HI0.out.2.2.2]; omega) (by unfold maxLen; omega) HB2.out.size ?_; intro w3 hown hgrow; have hrow := made_row hown; have hB3 : Below w2.heap.size w2 w3 := (Below.refl _ _).grown hgrow (Nat.le_refl _) (fun k e => by cases e); have hO3 := own_stays HO2.out (fun k hk => hB3.block k (HO2.out.lt k hk).2); have HRW := Lib.hid hrow; have HB3 := Lib.hid hB3; have HO3 := Lib.hid hO3; clear hown hgrow hrow hB3 hO3)
  have hV3 := HV.out.below (HB2.out.trans (HB3.out.mono hle2)) (Nat.le_refl _)
  refine (lists_walk w3 _ _ (syms counts) counts limit (own_toV HO3.out) hV3 HME.out (by rw [← HM.out]; omega) ⟨hl1, hl2⟩ HCB.out).mono ?_
  rintro e w4 ⟨v4, vs, rfl, hO4, hvl, hE4, hB4⟩
  obtain ⟨b, cap4, hsh4, hb1, hb2, _, _, hc4, _, _⟩ := own_spot hO4 (by omega)
  subst hsh4
  have hsz3 : w2.heap.size < w3.heap.size := (Array.getElem?_eq_some_iff.1 HRW.out).1
  have hrow4 := (hB4.block w2.heap.size hsz3).trans HRW.out
  have hO24 := own_stays HO3.out (fun k hk => hB4.block k (HO3.out.lt k hk).2)
  have HLY := Lib.hid ((callsIn_wide (n := 6)).1 (lay_in 6 (by omega) w4 w2.heap.size b cap4 n (zeros n) _ (syms counts) vs (lst (its (cnts counts (syms counts)))) hrow4 (own_toV hO24) (fun q m' c' hq _ => by
      have h1 := HO2.out
      obtain ⟨_, ⟨h3, _⟩ | ⟨g', _, _, h3, h4, h5, _⟩⟩ := h1
      · rw [h3] at hq; cases hq
      · rw [h3] at hq; cases hq
        have := (Array.getElem?_eq_some_iff.1 h5).1
        simp only; omega) (fun s hs => by rw [zeros_length, HN.out]; exact HME.out s hs) (by rw [← HM.out]; omega) (by rw [← HM.out]; omega) ⟨by omega, hb2⟩ (by omega) hc4 (fun j u hu => own_leK (hE4 j u hu) (Nat.zero_le _)) (by rw [hvl]; have := HST.out (by rw [← HM.out]; exact hm2); rwa [← HN.out] at this)))
  rw [zeros_length] at HLY
  have HVL := Lib.hid hvl
  have HB4 := Lib.hid hB4
  clear hvl hO4 hE4 hB4 hc4 hrow4 hO24 hV3
  go_wp2_with fail
  refine HLY.out.mono ?_
  rintro e w5 ⟨rfl, hr5, ho5⟩
  have HR5 := Lib.hid hr5
  have HO5 := Lib.hid ho5
  clear hr5 ho5 HLY
  go_wp2_with fail
  go_ret2
  refine ⟨_, by rw [HE.out]; rfl, ?_, ?_, fun h => absurd HE.out h⟩
  · have hB24 : Below w1.heap.size w1 w4 := (HB2.out.trans (HB3.out.mono hle2)).trans (HB4.out.mono (by omega))
    exact hB24.trans (HO5.out.below hB24.size (fun i hi => by have := HB4.out.size; omega))
  · intro _
    rw [Int.toNat_natCast, HL.out, ← HN.out]
    have h6 := HR5.out
    rw [HVL.out] at h6
    exact row_own (n := n) h6 (by rw [stt_length, zeros_length]) hle2 hn1
end Go.Proofs.YtphdcgioeokfbaaDoor
/-
  Lengths of too many symbols for the limit (any number).
-/
namespace Go.Proofs.YtphdcgioeokfbaaDoor
open Go.RowKit Hf
set_option maxRecDepth 100000 in
set_option maxHeartbeats 4000000 in
theorem Lengths_overN (w : World) (v : Value) (counts : List Int) (limit : Nat) (hv : SlV w v (ni counts)) (hok : okC counts = true) (hl1 : 1 ≤ limit) (hl2 : limit ≤ 15) (hm : (syms counts).length ≤ 1024) (hk : 2 ^ limit < (syms counts).length) :
    Calls Tryd.prog 57 #[v, .int .i64 (limit : Int)] w (LenPost counts (limit : Int) w) := by
  have hlc : counts.length ≤ 1024 := by
    unfold okC at hok
    rw [Bool.and_eq_true] at hok
    exact of_decide_eq_true hok.2
  have HC := Lib.hid (countable_walk w v counts hv (by omega))
  have HBY := Lib.hid (byCountN_walk w v counts hv hlc)
  have HE : Hid (lenErr counts (limit : Int) = 1) := Lib.hid (by unfold lenErr; rw [if_pos ⟨hok, by omega, by omega⟩, if_pos (by rw [Int.toNat_natCast]; omega)])
  obtain ⟨p, cap, rfl⟩ := hv.shape
  rw [ni_length] at *
  obtain ⟨n, hn⟩ : ∃ n, n = counts.length := ⟨_, rfl⟩
  have HV := Lib.hid hv
  have HN := Lib.hid hn
  have hn1 : n ≤ 1024 := by omega
  rw [← hn] at HV HC HBY ⊢
  obtain ⟨m, hm0⟩ : ∃ m, m = (syms counts).length := ⟨_, rfl⟩
  have HM := Lib.hid hm0
  rw [← hm0] at hm hk
  have hpow : (2 : Int) ^ limit = ((2 ^ limit : Nat) : Int) := by simp
  have hpl : 2 ^ limit ≤ 2 ^ 15 := Nat.pow_le_pow_right (by decide) hl2
  have hp15 : (2 : Nat) ^ 15 = 32768 := by decide
  clear hv hn hm0
  obtain ⟨i0, hi, hz0, hz1, hz2⟩ := info_parts info3
  have HI0 := Lib.hid (And.intro hi (And.intro hz0 (And.intro hz1 hz2)))
  clear hi hz0 hz1 hz2
  go_enter Tryd.func57, Tryd.ntmps57
  go_wp2_with fail
  refine HC.out.mono ?_
  rintro e w1 ⟨rfl, rfl⟩
  clear HC
  rw [hok]
  go_wp2_with fail
  refine HBY.out.mono ?_
  rintro e w2 ⟨v2, rfl, hO2, hmem, hB2⟩
  rw [← syms_length, ← HM.out] at hO2
  obtain ⟨p2, cap2, rfl⟩ := own_shape hO2
  have HO2 := Lib.hid hO2
  have HB2 := Lib.hid hB2
  have HME := Lib.hid hmem
  clear hO2 hB2 hmem HBY
  have hpp : 0 < 2 ^ limit := Nat.pow_pos (by decide)
  have hmi : (2 : Int) ^ limit < (m : Int) := by rw [hpow]; omega
  have hwp : wrap64 (2 ^ limit) = 2 ^ limit := by rw [hpow]; unfold wrap64; omega
  have hwq : IntKind.i64.wrap (2 ^ limit) = 2 ^ limit := by rw [hpow]; exact IntWalk.i64_in _ (by omega)
  clear hpow
  go_wp2_with fail
  go_ret2
  exact ⟨_, by rw [HE.out]; rfl, HB2.out, fun h => (by rw [HE.out] at h; cases h), fun _ => rfl⟩
end Go.Proofs.YtphdcgioeokfbaaDoor
/-
  Lengths, any number of symbols.
-/
namespace Go.Proofs.YtphdcgioeokfbaaDoor
open Go.RowKit Hf
theorem Lengths_okN (w : World) (v : Value) (counts : List Int) (limit : Nat) (hv : SlV w v (ni counts)) (hok : okC counts = true) (hl1 : 1 ≤ limit) (hl2 : limit ≤ 15) (hm : (syms counts).length ≤ 1024) (hk : (syms counts).length ≤ 2 ^ limit)
    (hst : 1 < (syms counts).length → sttOk (syms counts) (zeros counts.length) (lst (its (cnts counts (syms counts)))) limit) :
    Calls Tryd.prog 57 #[v, .int .i64 (limit : Int)] w (LenPost counts (limit : Int) w) := by
  rcases Nat.lt_trichotomy (syms counts).length 1 with h | h | h
  · exact Lengths_noneN w v counts limit hv hok hl1 hl2 hm hk (by omega) hst
  · exact Lengths_oneN w v counts limit hv hok hl1 hl2 hm hk h hst
  · exact Lengths_manyN w v counts limit hv hok hl1 hl2 hm hk h hst
end Go.Proofs.YtphdcgioeokfbaaDoor
