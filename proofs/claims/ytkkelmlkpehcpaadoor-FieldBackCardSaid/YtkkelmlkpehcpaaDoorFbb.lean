/-
  FieldBack, whatever the number, the bytes asked, the text.
-/
import Derived.Test.YtkkelmlkpehcpaaDoorFbA
import Derived.Test.YtkkelmlkpehcpaaDoorFbB
import Derived.Test.YtkkelmlkpehcpaaDoorFbC
import Derived.Test.YtkkelmlkpehcpaaDoorFbD
import Derived.Test.YtkkelmlkpehcpaaDoorFbE
import Derived.Test.YtkkelmlkpehcpaaDoorFbF
namespace Go.Proofs.YtkkelmlkpehcpaaDoor
open Go.RowKit

theorem fits_oct (n : Int) (K : Nat) (k1 : 1 ≤ K) (h0 : 0 ≤ n) (h : n < (8 : Int) ^ K) : Fx.fits n ((K + 1 : Nat) : Int) := by
  unfold Fx.fits
  rw [Int.toNat_natCast]
  have h1 : (8 : Nat) ^ K ≤ 2 ^ (8 * (K + 1) - 2) := by
    rw [show (8 : Nat) = 2 ^ 3 from rfl, ← Nat.pow_mul]
    exact Nat.pow_le_pow_right (by omega) (by omega)
  have h2 : ((8 ^ K : Nat) : Int) ≤ ((2 ^ (8 * (K + 1) - 2) : Nat) : Int) := Int.ofNat_le.2 h1
  have h3 : (0 : Int) ≤ ((2 ^ (8 * (K + 1) - 2) : Nat) : Int) := Int.natCast_nonneg _
  rw [Int.natCast_pow, Int.natCast_pow] at h2
  rw [Int.natCast_pow] at h3
  have e8 : ((8 : Nat) : Int) = 8 := rfl
  have e2 : ((2 : Nat) : Int) = 2 := rfl
  rw [e8, e2] at h2
  rw [e2] at h3
  constructor <;> omega
theorem back_walk (w : World) (n : Int) (h1 : -9223372036854775808 ≤ n) (h2 : n < 9223372036854775808) (many : Nat) (hm : many < 256) (s : List UInt8) (hs : s.length ≤ 9223372036854775807) (ht : TzAt w) :
    Calls Tryd.prog 6 #[.int .i64 n, .int .u8 (many : Int), .string ⟨s.toArray⟩] w (WakesPost w) := by
  obtain ⟨K, hK, k1, k2⟩ : ∃ K : Nat, 2 + (many : Int) % 19 = (K : Int) + 1 ∧ 1 ≤ K ∧ K ≤ 19 := ⟨many % 19 + 1, by omega, by omega, by omega⟩
  by_cases hz : 0 ∈ s.take 300
  · by_cases h0 : 0 ≤ n
    · by_cases ho : n < (8 : Int) ^ K
      · have hf := fits_oct n K k1 h0 ho
        rcases Nat.lt_or_ge K 19 with hk | hk
        · exact back_O0_Wa_Tz w n h1 h2 many hm K hK k1 k2 s hs ht h0 ho hf hk hz
        · exact back_O0_Wb_Tz w n h1 h2 many hm K hK k1 k2 s hs ht h0 ho hf (by omega) hz
      · have ho := Int.not_lt.1 ho
        by_cases hf : Fx.fits n ((K + 1 : Nat) : Int)
        · rcases Nat.lt_or_ge K 19 with hk | hk
          · exact back_Op_Wa_Tz w n h1 h2 many hm K hK k1 k2 s hs ht h0 ho hf hk hz
          · exact back_Op_Wb_Tz w n h1 h2 many hm K hK k1 k2 s hs ht h0 ho hf (by omega) hz
        · rcases Nat.lt_or_ge K 19 with hk | hk
          · exact back_Op_Wna_Tz w n h1 h2 many hm K hK k1 k2 s hs ht h0 ho hf hk hz
          · exact back_Op_Wnb_Tz w n h1 h2 many hm K hK k1 k2 s hs ht h0 ho hf (by omega) hz
    · have h0 := Int.not_le.1 h0
      by_cases hf : Fx.fits n ((K + 1 : Nat) : Int)
      · rcases Nat.lt_or_ge K 19 with hk | hk
        · exact back_On_Wa_Tz w n h1 h2 many hm K hK k1 k2 s hs ht h0 hf hk hz
        · exact back_On_Wb_Tz w n h1 h2 many hm K hK k1 k2 s hs ht h0 hf (by omega) hz
      · rcases Nat.lt_or_ge K 19 with hk | hk
        · exact back_On_Wna_Tz w n h1 h2 many hm K hK k1 k2 s hs ht h0 hf hk hz
        · exact back_On_Wnb_Tz w n h1 h2 many hm K hK k1 k2 s hs ht h0 hf (by omega) hz
  · by_cases h0 : 0 ≤ n
    · by_cases ho : n < (8 : Int) ^ K
      · have hf := fits_oct n K k1 h0 ho
        rcases Nat.lt_or_ge K 19 with hk | hk
        · exact back_O0_Wa_Tn w n h1 h2 many hm K hK k1 k2 s hs ht h0 ho hf hk hz
        · exact back_O0_Wb_Tn w n h1 h2 many hm K hK k1 k2 s hs ht h0 ho hf (by omega) hz
      · have ho := Int.not_lt.1 ho
        by_cases hf : Fx.fits n ((K + 1 : Nat) : Int)
        · rcases Nat.lt_or_ge K 19 with hk | hk
          · exact back_Op_Wa_Tn w n h1 h2 many hm K hK k1 k2 s hs ht h0 ho hf hk hz
          · exact back_Op_Wb_Tn w n h1 h2 many hm K hK k1 k2 s hs ht h0 ho hf (by omega) hz
        · rcases Nat.lt_or_ge K 19 with hk | hk
          · exact back_Op_Wna_Tn w n h1 h2 many hm K hK k1 k2 s hs ht h0 ho hf hk hz
          · exact back_Op_Wnb_Tn w n h1 h2 many hm K hK k1 k2 s hs ht h0 ho hf (by omega) hz
    · have h0 := Int.not_le.1 h0
      by_cases hf : Fx.fits n ((K + 1 : Nat) : Int)
      · rcases Nat.lt_or_ge K 19 with hk | hk
        · exact back_On_Wa_Tn w n h1 h2 many hm K hK k1 k2 s hs ht h0 hf hk hz
        · exact back_On_Wb_Tn w n h1 h2 many hm K hK k1 k2 s hs ht h0 hf (by omega) hz
      · rcases Nat.lt_or_ge K 19 with hk | hk
        · exact back_On_Wna_Tn w n h1 h2 many hm K hK k1 k2 s hs ht h0 hf hk hz
        · exact back_On_Wnb_Tn w n h1 h2 many hm K hK k1 k2 s hs ht h0 hf (by omega) hz
end Go.Proofs.YtkkelmlkpehcpaaDoor
