/-
  The contract of ints.
-/
import Derived.Test.YtoifppfhnedahaaLenOk
import Derived.Deep.RegionHeldLaw
namespace Go.Proofs.Ytoifppfhnedahaa
open Go.RowKit Hf

theorem ints_eq (a b : List Int) (hl : a.length = b.length) (h : ∀ i, i < a.length → a.getD i 0 = b.getD i 0) : a = b := by
  apply List.ext_getElem hl
  intro i h1 h2
  have := h i h1
  simpa [h1, h2] using this
theorem below_drewN {B : Nat} {w wr : World} (h : Below B w wr) (n : Nat) : Below B w (wr.drewN n) := ⟨h.os, h.tape, h.output, h.size, h.block⟩
set_option maxRecDepth 100000 in
set_option maxHeartbeats 1000000 in
theorem ints_walk (w : World) (u v : Value) (a b : List Int) (hu : SlV w u (ni a)) (hv : SlV w v (ni b)) (hl : a.length ≤ 1099511627776) :
    Calls Try.prog 11 #[u, v] w fun e w' => e = .returned (.bool (decide (a = b))) ∧ Below w.heap.size w w' := by
  obtain ⟨p, cap, rfl⟩ := hu.shape
  obtain ⟨q, dap, rfl⟩ := hv.shape
  rw [ni_length] at *
  rw [ni_length] at *
  obtain ⟨l, hl0⟩ : ∃ l, l = a.length := ⟨_, rfl⟩
  obtain ⟨m, hm0⟩ : ∃ m, m = b.length := ⟨_, rfl⟩
  rw [← hl0] at hu hl ⊢
  rw [← hm0] at hv ⊢
  have HN := Lib.hid hl0
  have HM := Lib.hid hm0
  have HU := Lib.hid hu
  have HV := Lib.hid hv
  clear hl0 hm0 hu hv
  by_cases hlm : l = m
  · subst hlm
    go_enter Try.func11, Try.ntmps11
    go_wp2_with fail
    go_loopw [4, 5] (fun v4 v wr => v4 = .bool false ∧ ∃ k : Nat, k ≤ l ∧ v = .int .i64 k ∧ Below w.heap.size w wr ∧ ∀ i, i < k → a.getD i 0 = b.getD i 0) (fun _ v _ => l - (intOf v).toNat)
    case atStart => exact ⟨rfl, 0, Nat.zero_le _, rfl, Below.refl _ _, fun i hi => by omega⟩
    case round =>
      obtain ⟨rfl, k, hk, rfl, hB, hall⟩ := hrel
      have HA := Lib.hid hall
      have HB := Lib.hid hB
      clear hall hB
      by_cases hlt : k < l
      · have hlti : (k : Int) < (l : Int) := by omega
        obtain ⟨g, o, rfl, hrow⟩ := (HU.out.below HB.out (Nat.le_refl _)).some (by omega)
        obtain ⟨g2, o2, rfl, hrow2⟩ := (HV.out.below HB.out (Nat.le_refl _)).some (by omega)
        have hcap := HU.out.le
        have hdap := HV.out.le
        have hc := hrow.ni k (by rw [← HN.out]; omega)
        have hd := hrow2.ni k (by rw [← HM.out]; omega)
        clear hrow hrow2
        obtain ⟨z, hz⟩ : ∃ z, z = a.getD k 0 := ⟨_, rfl⟩
        obtain ⟨y, hy⟩ : ∃ y, y = b.getD k 0 := ⟨_, rfl⟩
        rw [← hz] at hc
        rw [← hy] at hd
        have HZ := Lib.hid hz
        have HY := Lib.hid hy
        clear hz hy
        by_cases hzy : z = y
        · subst hzy
          go_wp2_with fail
          go_quiet (fail)
          have HB3 := Lib.hid (below_drewN HB.out nq)
          clear HB hc hd
          generalize wr.drewN nq = wz at *
          go_wp2_with fail
          refine ⟨⟨rfl, k + 1, by omega, by go_num, HB3.out, fun i hi => ?_⟩, by simp [intOf]; omega⟩
          rcases Nat.lt_or_ge i k with h | h
          · exact HA.out i h
          · obtain rfl : i = k := by omega
            rw [← HZ.out, ← HY.out]
        · have HG : Hid (decide (a = b) = false) := Lib.hid (decide_eq_false (by intro h; subst h; exact hzy (HZ.out.trans HY.out.symm)))
          go_wp2_with fail
          go_quiet (fail)
          have HB3 := Lib.hid (below_drewN HB.out nq)
          clear HB hc hd
          generalize wr.drewN nq = wz at *
          go_wp2_with fail
          go_ret
          exact ⟨by rw [HG.out]; rfl, HB3.out⟩
      · have hlti : (l : Int) ≤ (k : Int) := by omega
        obtain rfl : k = l := by omega
        have HG : Hid (decide (a = b) = true) := Lib.hid (decide_eq_true (ints_eq a b (HN.out.symm.trans HM.out) (fun i hi => HA.out i (by have := HN.out; omega))))
        go_wp2_with fail
        go_ret
        exact ⟨by rw [HG.out]; rfl, HB.out⟩
  · have hml : (l : Int) ≠ (m : Int) := by omega
    have HG : Hid (decide (a = b) = false) := Lib.hid (decide_eq_false (by intro h; subst h; exact hlm (HN.out.trans HM.out.symm)))
    go_enter Try.func11, Try.ntmps11
    go_wp2_with fail
    go_ret
    exact ⟨by rw [HG.out]; rfl, Below.refl _ _⟩
end Go.Proofs.Ytoifppfhnedahaa
