/-
  MatchMore: the four cases put together.
-/
import Derived.Test.YtghphgpbgekoiaaMoreA
import Derived.Test.YtghphgpbgekoiaaMoreB
import Derived.Test.YtghphgpbgekoiaaMoreC
import Derived.Test.YtghphgpbgekoiaaMoreD
namespace Go.Proofs.Ytghphgpbgekoiaa
open Go.RowKit
set_option maxRecDepth 100000 in
set_option maxHeartbeats 1000000 in
theorem more_none (w : World) (v : Value) (b0 : List UInt8) (a c : Int) (hv : SlV w v (bl b0)) (hz : min b0.length 300 = 0) :
    Calls Try.prog 5 #[v, .int .u16 a, .int .u8 c] w fun e w' => e = .returned (.bool true) ∧ Below w.heap.size w w' := by
  obtain rfl : b0 = [] := List.eq_nil_of_length_eq_zero (by omega)
  obtain ⟨p, cap, rfl⟩ := hv.shape
  rw [bl_length] at *
  have hmin : min (0 : Int) 300 = 0 := by decide
  have hsl := to22 hv 0 (Nat.zero_le _)
  have hsl : ∀ w', Sem.run Try.prog (Instr.sliceAt 22 _ none (some (.int .i64 0)) none) w' = _ := hsl
  have HV := Lib.hid hv
  clear hv
  simp only [List.length_nil] at *
  go_enter Try.func5, Try.ntmps5
  have hbest := Best_walk w _ [] 0 1 HV.out (by decide) (by decide)
  have e0 : bestOf [] 0 1 = (0, 0) := rfl
  rw [e0] at hbest
  go_wp2_with fail
  refine hbest.mono ?_
  rintro e w1 ⟨rfl, hb1⟩
  have HB1 := Lib.hid hb1
  clear hbest hb1
  unfold stv stc
  go_wp2_with fail
  refine (wakes_walk _).mono ?_
  rintro e w2 ⟨rfl, hb2⟩
  have HB2 := Lib.hid hb2
  go_wp2_with fail
  go_ret
  exact ⟨rfl, bt (HB1.out.alloc HB1.out.size _) HB2.out⟩
theorem more_walk (w : World) (v : Value) (b0 : List UInt8) (a c : Int) (hv : SlV w v (bl b0)) (ha : 0 ≤ a ∧ a < 65536) (hc : 0 ≤ c ∧ c < 256) :
    Calls Try.prog 5 #[v, .int .u16 a, .int .u8 c] w fun e w' => e = .returned (.bool true) ∧ Below w.heap.size w w' := by
  by_cases hz : min b0.length 300 = 0
  · exact more_none w v b0 a c hv hz
  · obtain ⟨k, hk⟩ : ∃ k : Nat, a % ((min b0.length 300 : Nat) : Int) = (k : Int) := ⟨(a % ((min b0.length 300 : Nat) : Int)).toNat, by have := Int.emod_nonneg a (show ((min b0.length 300 : Nat) : Int) ≠ 0 by omega); omega⟩
    obtain ⟨dd, hdd⟩ : ∃ dd : Nat, c % 16 = (dd : Int) := ⟨(c % 16).toNat, by omega⟩
    have hone : ∀ (P : Nat × Nat → Nat × Nat → Prop), P (Mt.best (b0.take (min b0.length 300)) k (1 + (dd : Int)).toNat) (Mt.best (b0.take (min b0.length 300)) k (2 + (dd : Int)).toNat) →
        ∀ k dd : Nat, a % ((min b0.length 300 : Nat) : Int) = (k : Int) → c % 16 = (dd : Int) → P (Mt.best (b0.take (min b0.length 300)) k (1 + (dd : Int)).toNat) (Mt.best (b0.take (min b0.length 300)) k (2 + (dd : Int)).toNat) := by
      intro P h k' dd' h1 h2
      obtain rfl : k' = k := by omega
      obtain rfl : dd' = dd := by omega
      exact h
    by_cases h1 : 0 < (Mt.best (b0.take (min b0.length 300)) k (1 + (dd : Int)).toNat).1
    · by_cases h2 : (Mt.best (b0.take (min b0.length 300)) k (1 + (dd : Int)).toNat).1 = (Mt.best (b0.take (min b0.length 300)) k (2 + (dd : Int)).toNat).1
      · exact more_walkA w v b0 a c hv ha hc hz (hone (fun x y => 0 < x.1 ∧ x.1 = y.1) ⟨h1, h2⟩)
      · exact more_walkB w v b0 a c hv ha hc hz (hone (fun x y => 0 < x.1 ∧ x.1 ≠ y.1) ⟨h1, h2⟩)
    · by_cases h2 : (Mt.best (b0.take (min b0.length 300)) k (1 + (dd : Int)).toNat).1 = (Mt.best (b0.take (min b0.length 300)) k (2 + (dd : Int)).toNat).1
      · exact more_walkC w v b0 a c hv ha hc hz (hone (fun x y => ¬ 0 < x.1 ∧ x.1 = y.1) ⟨h1, h2⟩)
      · exact more_walkD w v b0 a c hv ha hc hz (hone (fun x y => ¬ 0 < x.1 ∧ x.1 ≠ y.1) ⟨h1, h2⟩)
end Go.Proofs.Ytghphgpbgekoiaa
