/-
  The contracts of both Costs, of as many as both have.
-/
import Derived.Test.YtoifppfhnedahaaCost
namespace Go.Proofs.Ytoifppfhnedahaa
open Go.RowKit Hf
theorem cost_boundM (counts zs : List Int) (M : Nat) (h : ∀ i, i < M → (0 ≤ counts.getD i 0 ∧ counts.getD i 0 ≤ 4294967296) ∧ 0 ≤ zs.getD i 0 ∧ zs.getD i 0 ≤ 15) (j : Nat) (hj : j ≤ M) : 0 ≤ cost counts zs j ∧ cost counts zs j ≤ j * 64424509440 := by
  induction j with
  | zero => exact ⟨Int.le_refl _, Int.le_refl _⟩
  | succ j ih =>
    have ih := ih (by omega)
    obtain ⟨h1, h2⟩ := h j (by omega)
    have h3 : 0 ≤ counts.getD j 0 * zs.getD j 0 := Int.mul_nonneg h1.1 h2.1
    have h4 : counts.getD j 0 * zs.getD j 0 ≤ 4294967296 * 15 := Int.mul_le_mul h1.2 h2.2 h2.1 (by decide)
    rw [cost_succ]
    omega
set_option maxRecDepth 100000 in
set_option maxHeartbeats 1000000 in
theorem CostM_walk (w : World) (v u : Value) (counts zs : List Int) (hv : SlV w v (ni counts)) (hu : SlV w u (ni zs)) (hb : ∀ i, i < min counts.length zs.length → (0 ≤ counts.getD i 0 ∧ counts.getD i 0 ≤ 4294967296) ∧ 0 ≤ zs.getD i 0 ∧ zs.getD i 0 ≤ 15) (hl : counts.length ≤ 1024 ∨ zs.length ≤ 1024) :
    Calls Try.prog 12 #[v, u] w fun e w' => e = .returned (.int .i64 (cost counts zs (min counts.length zs.length))) ∧ Below w.heap.size w w' := by
  obtain ⟨p, cap, rfl⟩ := hv.shape
  obtain ⟨q, cap2, rfl⟩ := hu.shape
  rw [ni_length] at hv hu ⊢
  rw [ni_length]
  obtain ⟨n, hn⟩ : ∃ n, n = counts.length := ⟨_, rfl⟩
  obtain ⟨m, hm⟩ : ∃ m, m = zs.length := ⟨_, rfl⟩
  rw [← hn] at hv hl ⊢
  rw [← hm] at hu hl ⊢
  have HV := Lib.hid hv
  have HU := Lib.hid hu
  have HN := Lib.hid (And.intro hn hm)
  rw [← hn, ← hm] at hb
  have HC := Lib.hid (fun i h => (hb i h).1)
  have HZ := Lib.hid (fun i h => (hb i h).2)
  have HB := Lib.hid (cost_boundM counts zs (min n m) hb)
  obtain ⟨M, hM⟩ : ∃ M, M = min n m := ⟨_, rfl⟩
  have hmin : min (n : Int) (m : Int) = (M : Int) := by omega
  have hMn : M ≤ n := by omega
  have hMm : M ≤ m := by omega
  rw [← hM]
  clear hv hu hn hm hb
  rw [← hM] at HC HZ HB
  clear hM
  go_enter Try.func12, Try.ntmps12
  go_wp2_with fail
  go_loopw [5, 12] (fun v5 v12 wr => ∃ j : Nat, j ≤ M ∧ v12 = .int .i64 j ∧ v5 = .int .i64 (cost counts zs j) ∧ Below w.heap.size w wr) (fun _ v12 _ => M - (intOf v12).toNat)
  case atStart => exact ⟨0, Nat.zero_le _, rfl, rfl, Below.refl _ _⟩
  case round =>
    obtain ⟨j, hj, rfl, rfl, hB⟩ := hrel
    have HBL := Lib.hid hB
    clear hB
    by_cases hlt : j < M
    · have hlti : (j : Int) < (M : Int) := by omega
      obtain ⟨g1, o1, rfl, hrow1⟩ := (HV.out.below HBL.out (Nat.le_refl _)).some (by omega)
      obtain ⟨g2, o2, rfl, hrow2⟩ := (HU.out.below HBL.out (Nat.le_refl _)).some (by omega)
      have hcap1 := HV.out.le
      have hcap2 := HU.out.le
      have hc1 := hrow1.ni j (by have := HN.out; omega)
      have hc2 := hrow2.ni j (by have := HN.out; omega)
      clear hrow1 hrow2
      have h1 := HC.out j hlt
      have h2 := HZ.out j hlt
      have h3 : 0 ≤ counts.getD j 0 * zs.getD j 0 := Int.mul_nonneg h1.1 h2.1
      have h4 : counts.getD j 0 * zs.getD j 0 ≤ 4294967296 * 15 := Int.mul_le_mul h1.2 h2.2 h2.1 (by decide)
      have h5 := HB.out j hj
      have HS := Lib.hid (cost_succ counts zs j)
      generalize cost counts zs j = S at h5 HS ⊢
      generalize counts.getD j 0 = c at hc1 h1 h3 h4 HS
      generalize zs.getD j 0 = z at hc2 h2 h3 h4 HS
      have h6 : S + c * z ≤ 9223372036854775807 := by omega
      have h7 : -9223372036854775808 ≤ S + c * z := by omega
      go_wp2_with fail
      go_quiet (fail)
      have HBL := Lib.hid (below_drewN HBL.out nq)
      clear hc1 hc2
      generalize wr.drewN nq = wx at *
      go_wp2_with fail
      refine ⟨⟨j + 1, by omega, by go_num, ?_, HBL.out⟩, by simp only [intOf]; omega⟩
      rw [HS.out]
    · have hlti : (M : Int) ≤ (j : Int) := by omega
      obtain rfl : j = M := by omega
      go_wp2_with fail
      go_ret
      exact ⟨rfl, HBL.out⟩
set_option maxRecDepth 100000 in
set_option maxHeartbeats 1000000 in
theorem rCost_walk (w : World) (v u : Value) (counts zs : List Int) (hv : SlV w v (ni counts)) (hu : SlV w u (ni zs)) (hb : ∀ i, i < min counts.length zs.length → (0 ≤ counts.getD i 0 ∧ counts.getD i 0 ≤ 4294967296) ∧ 0 ≤ zs.getD i 0 ∧ zs.getD i 0 ≤ 15) (hl : counts.length ≤ 1024 ∨ zs.length ≤ 1024) :
    Calls Try.prog 13 #[v, u] w fun e w' => e = .returned (.int .i64 (cost counts zs (min counts.length zs.length))) ∧ Below w.heap.size w w' := by
  obtain ⟨p, cap, rfl⟩ := hv.shape
  obtain ⟨q, cap2, rfl⟩ := hu.shape
  rw [ni_length] at hv hu ⊢
  rw [ni_length]
  obtain ⟨n, hn⟩ : ∃ n, n = counts.length := ⟨_, rfl⟩
  obtain ⟨m, hm⟩ : ∃ m, m = zs.length := ⟨_, rfl⟩
  rw [← hn] at hv hl ⊢
  rw [← hm] at hu hl ⊢
  have HV := Lib.hid hv
  have HU := Lib.hid hu
  have HN := Lib.hid (And.intro hn hm)
  rw [← hn, ← hm] at hb
  have HC := Lib.hid (fun i h => (hb i h).1)
  have HZ := Lib.hid (fun i h => (hb i h).2)
  have HB := Lib.hid (cost_boundM counts zs (min n m) hb)
  obtain ⟨M, hM⟩ : ∃ M, M = min n m := ⟨_, rfl⟩
  have hmin : min (n : Int) (m : Int) = (M : Int) := by omega
  have hMn : M ≤ n ∧ M ≤ m ∧ (M = n ∨ M = m) := by omega
  have hMm : M ≤ m := by omega
  rw [← hM]
  clear hv hu hn hm hb
  rw [← hM] at HC HZ HB
  clear hM
  go_enter Try.func13, Try.ntmps13
  go_wp2_with fail
  go_loopw [5, 6] (fun v5 v12 wr => ∃ j : Nat, j ≤ M ∧ v12 = .int .i64 j ∧ v5 = .int .i64 (cost counts zs j) ∧ Below w.heap.size w wr) (fun _ v12 _ => M - (intOf v12).toNat)
  case atStart => exact ⟨0, Nat.zero_le _, rfl, rfl, Below.refl _ _⟩
  case round =>
    obtain ⟨j, hj, rfl, rfl, hB⟩ := hrel
    have HBL := Lib.hid hB
    clear hB
    by_cases hlt : j < M
    · have hlti : (j : Int) < (n : Int) := by omega
      have hltm : (j : Int) < (m : Int) := by omega
      obtain ⟨g1, o1, rfl, hrow1⟩ := (HV.out.below HBL.out (Nat.le_refl _)).some (by omega)
      obtain ⟨g2, o2, rfl, hrow2⟩ := (HU.out.below HBL.out (Nat.le_refl _)).some (by omega)
      have hcap1 := HV.out.le
      have hcap2 := HU.out.le
      have hc1 := hrow1.ni j (by have := HN.out; omega)
      have hc2 := hrow2.ni j (by have := HN.out; omega)
      clear hrow1 hrow2
      have h1 := HC.out j hlt
      have h2 := HZ.out j hlt
      have h3 : 0 ≤ counts.getD j 0 * zs.getD j 0 := Int.mul_nonneg h1.1 h2.1
      have h4 : counts.getD j 0 * zs.getD j 0 ≤ 4294967296 * 15 := Int.mul_le_mul h1.2 h2.2 h2.1 (by decide)
      have h5 := HB.out j hj
      have HS := Lib.hid (cost_succ counts zs j)
      generalize cost counts zs j = S at h5 HS ⊢
      generalize counts.getD j 0 = c at hc1 h1 h3 h4 HS
      generalize zs.getD j 0 = z at hc2 h2 h3 h4 HS
      have h6 : S + c * z ≤ 9223372036854775807 := by omega
      have h7 : -9223372036854775808 ≤ S + c * z := by omega
      go_wp2_with fail
      go_quiet (fail)
      have HBL := Lib.hid (below_drewN HBL.out nq)
      clear hc1 hc2
      generalize wr.drewN nq = wx at *
      go_wp2_with fail
      refine ⟨⟨j + 1, by omega, by go_num, ?_, HBL.out⟩, by simp only [intOf]; omega⟩
      rw [HS.out]
    · obtain rfl : j = M := by omega
      rcases Nat.lt_or_ge j n with h | h
      · have h1 : (j : Int) < (n : Int) := by omega
        have h2 : (m : Int) ≤ (j : Int) := by omega
        go_wp2_with fail
        go_ret
        exact ⟨rfl, HBL.out⟩
      · have h1 : (n : Int) ≤ (j : Int) := by omega
        go_wp2_with fail
        go_ret
        exact ⟨rfl, HBL.out⟩
end Go.Proofs.Ytoifppfhnedahaa
