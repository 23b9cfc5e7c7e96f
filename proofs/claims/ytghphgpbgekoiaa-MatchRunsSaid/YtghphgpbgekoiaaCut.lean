/-
  Cut.
-/
import Derived.Test.YtghphgpbgekoiaaSteps
namespace Go.Proofs.Ytghphgpbgekoiaa
open Go.RowKit Go.Maps
def CutPost (b : List UInt8) (d : Int) (w : World) (e : Ending) (w' : World) : Prop :=
  ∃ u, e = .returned (.tuple #[u, .int .i64 (if 1 ≤ d ∧ d ≤ 32768 then 0 else 1)]) ∧ Below w.heap.size w w' ∧ (1 ≤ d ∧ d ≤ 32768 → w'.ownsRow w.heap.size 32 3 u (Mt.cutAt b d.toNat 0).length (ns (Mt.cutAt b d.toNat 0))) ∧ (¬ (1 ≤ d ∧ d ≤ 32768) → u = .slice none 0 0)
set_option maxRecDepth 100000 in
set_option maxHeartbeats 4000000 in
theorem Cut_walk (w : World) (v : Value) (b : List UInt8) (d : Int) (hv : SlV w v (bl b)) (hb : b.length ≤ 32768) : Calls Try.prog 8 #[v, .int .i64 d] w (CutPost b d w) := by
  have hmf : ∀ (fn : Fn) (first cap : Array Value) (w : World), (Instr.makeFunc fn first cap).run Try.prog w = .ok (.func fn first cap) w := fun _ _ _ _ => rfl
  have HV := Lib.hid hv
  have HB := Lib.hid hb
  clear hv
  go_enter Try.func8, Try.ntmps8
  by_cases h1 : 1 ≤ d
  · have d1 : decide (d < 1) = false := decide_eq_false (by omega)
    by_cases h2 : d ≤ 32768
    · have d2 : decide (32768 < d) = false := decide_eq_false (by omega)
      have HE : Hid ((if 1 ≤ d ∧ d ≤ 32768 then (0 : Int) else 1) = 0) := Lib.hid (if_pos ⟨h1, h2⟩)
      go_wp2_with fail
      refine (chained_walk w v b d HV.out HB.out).mono ?_
      rintro e w1 ⟨gc, vf, rfl, hc, hb1⟩
      have HC := Lib.hid hc
      have HB1 := Lib.hid hb1
      clear hc hb1
      go_wp2_with fail
      refine (steps_walk w1 v gc v vf d b (HV.out.below HB1.out (Nat.le_refl _)) HC.out HB.out (by omega)).mono ?_
      rintro e w2 ⟨u, rfl, ho, hb2⟩
      have HO := Lib.hid ho
      have HB2 := Lib.hid (bt HB1.out hb2)
      clear ho hb2
      go_wp2_with fail
      go_ret2
      exact ⟨u, by rw [HE.out]; rfl, HB2.out, fun _ => own_leK HO.out HB1.out.size, fun h => absurd ⟨h1, h2⟩ h⟩
    · have HE : Hid ((if 1 ≤ d ∧ d ≤ 32768 then (0 : Int) else 1) = 1) := Lib.hid (if_neg (fun h => h2 h.2))
      have d2 : decide (32768 < d) = true := decide_eq_true (by omega)
      go_wp2_with fail
      go_ret2
      exact ⟨.slice none 0 0, by rw [HE.out]; rfl, Below.refl _ _, fun h => by omega, fun _ => rfl⟩
  · have HE : Hid ((if 1 ≤ d ∧ d ≤ 32768 then (0 : Int) else 1) = 1) := Lib.hid (if_neg (fun h => h1 h.1))
    have d1 : decide (d < 1) = true := decide_eq_true (by omega)
    go_wp2_with fail
    go_ret2
    exact ⟨.slice none 0 0, by rw [HE.out]; rfl, Below.refl _ _, fun h => by omega, fun _ => rfl⟩
end Go.Proofs.Ytghphgpbgekoiaa
