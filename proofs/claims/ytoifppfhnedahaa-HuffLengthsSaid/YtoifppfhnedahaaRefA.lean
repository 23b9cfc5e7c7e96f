/-
  The contracts of the document's power, State, May and Turned.
-/
import Derived.Test.YtoifppfhnedahaaRowKit
namespace Go.Proofs.Ytoifppfhnedahaa
open Go.RowKit Hf

/-- 2 to n. -/
def p2 (n : Nat) : Nat := 2 ^ n
theorem p2_succ (k : Nat) : p2 (k + 1) = p2 k * 2 := Nat.pow_succ 2 k
theorem p2_le (k : Nat) (h : k ≤ 15) : p2 k ≤ 32768 := Nat.pow_le_pow_right (n := 2) (by decide) h
set_option maxRecDepth 100000 in
set_option maxHeartbeats 1000000 in
theorem power_walk (w : World) (n : Nat) (hn : n ≤ 15) : Calls Try.prog 32 #[.int .i64 (n : Int)] w fun e w' => e = .returned (.int .i64 ((p2 n : Nat) : Int)) ∧ w' = w := by
  go_enter Try.func32, Try.ntmps32
  go_wp2_with fail
  go_loopw [3, 4] (fun v3 v4 wr => ∃ k : Nat, k ≤ n ∧ v4 = .int .i64 k ∧ v3 = .int .i64 ((p2 k : Nat) : Int) ∧ wr = w) (fun _ v4 _ => n - (intOf v4).toNat)
  case atStart => exact ⟨0, Nat.zero_le _, rfl, rfl, rfl⟩
  case round =>
    obtain ⟨k, hk, rfl, rfl, rfl⟩ := hrel
    have hp := p2_le k (by omega)
    have HE := Lib.hid (p2_succ k)
    obtain ⟨y, hy⟩ : ∃ y, y = p2 k := ⟨_, rfl⟩
    rw [← hy] at hp HE ⊢
    have HY := Lib.hid hy
    clear hy
    by_cases hlt : k < n
    · have hlti : (k : Int) < (n : Int) := by omega
      go_wp2_with fail
      refine ⟨⟨k + 1, by omega, by go_num, ?_, (by first | rfl | trivial)⟩, by simp [intOf]; omega⟩
      rw [HE.out]
      go_num
    · have hlti : (n : Int) ≤ (k : Int) := by omega
      obtain rfl : k = n := by omega
      go_wp2_with fail
      go_ret
      exact ⟨by rw [← HY.out]; rfl, rfl⟩
theorem sm_snoc (zs : List Int) (z : Int) (n : Nat) : sm (zs ++ [z]) n = sm zs n + (if 0 < z ∧ z ≤ (n : Int) then 2 ^ (15 - z.toNat) else 0) := by
  induction n with
  | zero => rw [sm, sm, if_neg (by omega)]
  | succ n ih =>
    rw [sm, sm, ih, List.count_append, List.count_singleton]
    by_cases h : z = ((n + 1 : Nat) : Int)
    · have e1 : (if 0 < z ∧ z ≤ (n : Int) then 2 ^ (15 - z.toNat) else 0) = 0 := if_neg (by omega)
      have e2 : (if (z == ((n + 1 : Nat) : Int)) = true then 1 else 0) = 1 := if_pos (by rw [h]; exact beq_self_eq_true _)
      have e3 : (if 0 < z ∧ z ≤ ((n + 1 : Nat) : Int) then 2 ^ (15 - z.toNat) else 0) = 2 ^ (15 - z.toNat) := if_pos (by omega)
      rw [e1, e2, e3, Nat.add_mul, Nat.one_mul, show z.toNat = n + 1 by omega]; omega
    · have e2 : (if (z == ((n + 1 : Nat) : Int)) = true then 1 else 0) = 0 := if_neg (fun e => h (eq_of_beq e))
      rw [e2, Nat.add_zero]
      by_cases h2 : 0 < z ∧ z ≤ (n : Int)
      · have e3 : 0 < z ∧ z ≤ ((n + 1 : Nat) : Int) := by omega
        rw [if_pos h2, if_pos e3]; omega
      · have e3 : ¬ (0 < z ∧ z ≤ ((n + 1 : Nat) : Int)) := by omega
        rw [if_neg h2, if_neg e3]; omega
theorem take_snoc (zs : List Int) (k : Nat) (hk : k < zs.length) : zs.take (k + 1) = zs.take k ++ [zs.getD k 0] := by
  rw [List.take_add_one, List.getElem?_eq_getElem hk]; simp [hk]
def RStPost (zs : List Int) (w : World) (e : Ending) (w' : World) : Prop :=
  e = .returned (.tuple (if good zs then #[.int .i64 (st zs), .int .i64 0] else #[.int .i64 0, .int .i64 1])) ∧ w' = w
set_option maxRecDepth 100000 in
set_option maxHeartbeats 1000000 in
theorem rState_walk (w : World) (v : Value) (zs : List Int) (hv : SlV w v (ni zs)) : Calls Try.prog 16 #[v] w (RStPost zs w) := by
  obtain ⟨p, cap, rfl⟩ := hv.shape
  rw [ni_length] at *
  obtain ⟨l, hl0⟩ : ∃ l, l = zs.length := ⟨_, rfl⟩
  rw [← hl0] at hv ⊢
  have HN := Lib.hid hl0
  have HV := Lib.hid hv
  clear hl0 hv
  by_cases hl : l ≤ 1024
  · go_enter Try.func16, Try.ntmps16
    go_wp2_with fail
    go_loopw [2, 3, 4, 5] (fun v2 v3 v4 v5 wr => v2 = .int .i64 0 ∧ v3 = .int .i64 0 ∧ ∃ k : Nat, k ≤ l ∧ v5 = .int .i64 k ∧ v4 = .int .i64 ((sm (zs.take k) 15 : Nat) : Int) ∧ wr = w ∧ ∀ i, i < k → 0 ≤ zs.getD i 0 ∧ zs.getD i 0 ≤ 15) (fun _ _ _ v5 _ => l - (intOf v5).toNat)
    case atStart => exact ⟨rfl, rfl, 0, Nat.zero_le _, rfl, rfl, rfl, fun i hi => by omega⟩
    case round =>
      obtain ⟨rfl, rfl, k, hk, rfl, rfl, rfl, hall⟩ := hrel
      have HA := Lib.hid hall
      have hsm := sm_le (zs.take k) (by rw [List.length_take]; have := HN.out; omega) 15
      clear hall
      by_cases hlt : k < l
      · have hlti : (k : Int) < (l : Int) := by omega
        obtain ⟨g, o, rfl, hrow⟩ := HV.out.some (by omega)
        have hcap := HV.out.le
        have hkz : k < zs.length := by rw [← HN.out]; exact hlt
        have hc := hrow.ni k hkz
        have HS := Lib.hid (sm_snoc (zs.take k) (zs.getD k 0) 15)
        rw [← take_snoc zs k hkz] at HS
        have HZ : Hid (∀ z, z = zs.getD k 0 → z < 0 ∨ 15 < z → ¬ good zs) := Lib.hid (fun z h1 h2 => not_good zs k hkz (by rw [← h1]; exact h2))
        obtain ⟨z, hz⟩ : ∃ z, z = zs.getD k 0 := ⟨_, rfl⟩
        rw [← hz] at hc HS
        have HE := Lib.hid hz
        clear hz hrow
        by_cases hz0 : z < 0
        · have HG := Lib.hid (HZ.out z HE.out (.inl hz0))
          go_wp2_with fail
          go_ret2
          exact ⟨by rw [if_neg HG.out]; rfl, rfl⟩
        · by_cases hz1 : 15 < z
          · have HG := Lib.hid (HZ.out z HE.out (.inr hz1))
            go_wp2_with fail
            go_ret2
            exact ⟨by rw [if_neg HG.out]; rfl, rfl⟩
          · generalize sm (zs.take k) 15 = s at *
            by_cases hz2 : 0 < z
            · obtain ⟨n, rfl⟩ : ∃ n : Nat, z = 15 - (n : Int) := ⟨(15 - z).toNat, by omega⟩
              have hn : n ≤ 15 := by omega
              have hi : (15 : Int) - (15 - (n : Int)) = (n : Int) := by omega
              have HS2 := HS.out
              rw [if_pos ⟨hz2, by omega⟩, show 15 - (15 - (n : Int)).toNat = n by omega] at HS2
              have HS := Lib.hid HS2
              clear HS2
              have hp := p2_le n hn
              have HP2 : Hid (2 ^ n = p2 n) := Lib.hid rfl
              rw [HP2.out] at HS
              go_wp2_with fail
              refine (power_walk _ n hn).mono ?_
              rintro e w' ⟨rfl, rfl⟩
              generalize p2 n = y at *
              go_wp2_with fail
              refine ⟨⟨(by first | rfl | trivial), (by first | rfl | trivial), k + 1, by omega, by go_num, ?_, (by first | rfl | trivial), fun i hi => ?_⟩, by simp [intOf]; omega⟩
              · rw [HS.out]; go_num
              · rcases Nat.lt_or_ge i k with h | h
                · exact HA.out i h
                · obtain rfl : i = k := by omega
                  rw [← HE.out]; omega
            · have HS2 := HS.out
              rw [if_neg (by omega), Nat.add_zero] at HS2
              have HS := Lib.hid HS2
              clear HS2
              go_wp2_with fail
              refine ⟨⟨(by first | rfl | trivial), (by first | rfl | trivial), k + 1, by omega, by go_num, (by rw [HS.out]; first | done | simp), (by first | rfl | trivial), fun i hi => ?_⟩, by simp [intOf]; omega⟩
              rcases Nat.lt_or_ge i k with h | h
              · exact HA.out i h
              · obtain rfl : i = k := by omega
                rw [← HE.out]; omega
      · obtain rfl : k = l := by omega
        have HG : Hid (good zs) := Lib.hid (good_of zs (by rw [← HN.out]; exact hl) (fun i hi => HA.out i (by rw [HN.out]; exact hi)))
        have hkr : sm (zs.take k) 15 = kr zs := by rw [HN.out, List.take_length, sm_all]
        have HK := Lib.hid (show st zs = (if kr zs < 32768 then -1 else if 32768 < kr zs then 1 else 0) from rfl)
        rw [← hkr] at HK
        clear hkr
        generalize sm (zs.take k) 15 = s at *
        by_cases h1 : (s : Int) < 32768
        · have HE : Hid (st zs = -1) := Lib.hid (by rw [HK.out, if_pos (by omega)])
          go_wp2_with fail
          go_ret2
          exact ⟨by rw [if_pos HG.out, HE.out]; rfl, rfl⟩
        · by_cases h2 : 32768 < (s : Int)
          · have HE : Hid (st zs = 1) := Lib.hid (by rw [HK.out, if_neg (by omega), if_pos (by omega)])
            go_wp2_with fail
            go_ret2
            exact ⟨by rw [if_pos HG.out, HE.out]; rfl, rfl⟩
          · have HE : Hid (st zs = 0) := Lib.hid (by rw [HK.out, if_neg (by omega), if_neg (by omega)])
            go_wp2_with fail
            go_ret2
            exact ⟨by rw [if_pos HG.out, HE.out]; rfl, rfl⟩
  · have HG : Hid (¬ good zs) := Lib.hid (fun h => hl (by rw [HN.out]; exact h.1))
    have hl2 : (1024 : Int) < (l : Int) := by omega
    go_enter Try.func16, Try.ntmps16
    go_wp2_with fail
    go_ret2
    exact ⟨by rw [if_neg HG.out]; rfl, rfl⟩
end Go.Proofs.Ytoifppfhnedahaa
