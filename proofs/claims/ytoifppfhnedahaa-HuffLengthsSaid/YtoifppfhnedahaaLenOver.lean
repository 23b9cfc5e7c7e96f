/-
  Lengths of too many symbols for the limit (fewer than 20).
-/
import Derived.Test.YtoifppfhnedahaaLengths
namespace Go.Proofs.Ytoifppfhnedahaa
open Go.RowKit Hf
set_option maxRecDepth 100000 in
set_option maxHeartbeats 4000000 in
theorem Lengths_over (w : World) (v : Value) (counts : List Int) (limit : Nat) (hv : SlV w v (ni counts)) (hok : okC counts = true) (hl1 : 1 ≤ limit) (hl2 : limit ≤ 15) (hm : (syms counts).length < 20) (hk : 2 ^ limit < (syms counts).length) :
    Calls Try.prog 9 #[v, .int .i64 (limit : Int)] w (LenPost counts (limit : Int) w) := by
  have hlc : counts.length ≤ 1024 := by
    unfold okC at hok
    rw [Bool.and_eq_true] at hok
    exact of_decide_eq_true hok.2
  have HC := Lib.hid (countable_walk w v counts hv (by omega))
  have HBY := Lib.hid (byCount_walk w v counts hv hlc (by rw [← syms_length]; exact hm))
  have HE : Hid (lenErr counts (limit : Int) = 1) := Lib.hid (by unfold lenErr; rw [if_pos ⟨hok, by omega, by omega⟩, if_pos (by rw [Int.toNat_natCast]; omega)])
  obtain ⟨p, cap, rfl⟩ := hv.shape
  rw [ni_length] at *
  obtain ⟨n, hn⟩ : ∃ n, n = counts.length := ⟨_, rfl⟩
  have HV := Lib.hid hv
  have HN := Lib.hid hn
  have hn1 : n ≤ 1024 := by omega
  rw [← hn] at HV HC HBY ⊢
  obtain ⟨m, hm0⟩ : ∃ m, m = (syms counts).length := ⟨_, rfl⟩
  have HM := Lib.hid hm0
  rw [← hm0] at hm hk
  have hpow : (2 : Int) ^ limit = ((2 ^ limit : Nat) : Int) := by simp
  have hpl : 2 ^ limit ≤ 2 ^ 15 := Nat.pow_le_pow_right (by decide) hl2
  have hp15 : (2 : Nat) ^ 15 = 32768 := by decide
  clear hv hn hm0
  obtain ⟨i0, hi, hz0, hz1, hz2⟩ := info_parts info3
  have HI0 := Lib.hid (And.intro hi (And.intro hz0 (And.intro hz1 hz2)))
  clear hi hz0 hz1 hz2
  go_enter Try.func9, Try.ntmps9
  go_wp2_with fail
  refine HC.out.mono ?_
  rintro e w1 ⟨rfl, rfl⟩
  clear HC
  rw [hok]
  go_wp2_with fail
  refine HBY.out.mono ?_
  rintro e w2 ⟨v2, rfl, hO2, hmem, hB2⟩
  rw [← syms_length, ← HM.out] at hO2
  obtain ⟨p2, cap2, rfl⟩ := own_shape hO2
  have HO2 := Lib.hid hO2
  have HB2 := Lib.hid hB2
  have HME := Lib.hid hmem
  clear hO2 hB2 hmem HBY
  have hpp : 0 < 2 ^ limit := Nat.pow_pos (by decide)
  have hmi : (2 : Int) ^ limit < (m : Int) := by rw [hpow]; omega
  have hwp : wrap64 (2 ^ limit) = 2 ^ limit := by rw [hpow]; unfold wrap64; omega
  have hwq : IntKind.i64.wrap (2 ^ limit) = 2 ^ limit := by rw [hpow]; exact IntWalk.i64_in _ (by omega)
  clear hpow
  go_wp2_with fail
  go_ret2
  exact ⟨_, by rw [HE.out]; rfl, HB2.out, fun h => (by rw [HE.out] at h; cases h), fun _ => rfl⟩
end Go.Proofs.Ytoifppfhnedahaa
