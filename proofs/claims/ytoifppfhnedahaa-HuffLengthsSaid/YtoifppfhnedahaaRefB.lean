/-
  The contracts of the document's Turned, May and Codes.
-/
import Derived.Test.YtoifppfhnedahaaRefA
namespace Go.Proofs.Ytoifppfhnedahaa
open Go.RowKit Hf

def cd (c k : Nat) : Nat := c / 2 ^ k
theorem cd_zero (c : Nat) : cd c 0 = c := by simp [cd]
theorem cd_succ (c k : Nat) : cd c (k + 1) = cd c k / 2 := by unfold cd; rw [Nat.pow_succ, ← Nat.div_div_eq_div_mul]
theorem cd_lt (c k : Nat) (h : c < 4294967296) : cd c k < 4294967296 := Nat.lt_of_le_of_lt (Nat.div_le_self _ _) h
theorem trn_cd (c k : Nat) : trn c (k + 1) = 2 * trn c k + cd c k % 2 := rfl
set_option maxRecDepth 100000 in
set_option maxHeartbeats 1000000 in
theorem rTurned_big (w : World) (c : Nat) (n : Int) (hc : c < 4294967296) (hn : 32 < n) :
    Calls Try.prog 22 #[.int .u32 (c : Int), .int .i64 n] w fun e w' => e = .returned (.int .u32 (trn c (min n.toNat 32) : Nat)) ∧ w' = w := by
  have HC := Lib.hid hc
  clear hc
  go_enter Try.func22, Try.ntmps22
  obtain ⟨K, hK⟩ : ∃ K, K = min n.toNat 32 := ⟨_, rfl⟩
  rw [← hK]
  have hkn : K = 32 := by omega
  clear hK
  go_wp2_with fail
  go_loopw [0, 5, 6] (fun v0 v5 v6 wr => ∃ k : Nat, k ≤ K ∧ v6 = .int .i64 k ∧ v0 = .int .u32 ((cd c k : Nat) : Int) ∧ v5 = .int .u32 (trn c k : Nat) ∧ wr = w) (fun _ _ v6 _ => K - (intOf v6).toNat)
  case atStart => exact ⟨0, Nat.zero_le _, rfl, by rw [cd_zero], rfl, rfl⟩
  case round =>
    obtain ⟨k, hk, rfl, rfl, rfl, rfl⟩ := hrel
    have hcl := cd_lt c k HC.out
    have HD := Lib.hid (cd_succ c k)
    have HT := Lib.hid (trn_cd c k)
    have htl := trn_lt c k
    generalize cd c k = x at *
    obtain ⟨y, hy⟩ : ∃ y, y = trn c k := ⟨_, rfl⟩
    rw [← hy] at htl HT ⊢
    have HY := Lib.hid hy
    clear hy
    by_cases hlt : k < K
    · have hki : (k : Int) < (32 : Int) := by omega
      have hp : 2 ^ k ≤ 2 ^ 31 := Nat.pow_le_pow_right (by decide) (by omega)
      have hp2 : (2 : Nat) ^ 31 = 2147483648 := by decide
      go_wp2_with fail
      refine ⟨⟨k + 1, by omega, by go_num, ?_, ?_, (by first | rfl | trivial)⟩, by simp [intOf]; omega⟩
      · rw [HD.out]; go_num
      · rw [HT.out]; go_num
    · have hki : (32 : Int) ≤ (k : Int) := by omega
      obtain rfl : k = K := by omega
      go_wp2_with fail
      go_ret
      exact ⟨by rw [← HY.out]; rfl, rfl⟩
set_option maxRecDepth 100000 in
set_option maxHeartbeats 1000000 in
theorem rTurned_small (w : World) (c : Nat) (n : Int) (hc : c < 4294967296) (hn : n ≤ 32) :
    Calls Try.prog 22 #[.int .u32 (c : Int), .int .i64 n] w fun e w' => e = .returned (.int .u32 (trn c (min n.toNat 32) : Nat)) ∧ w' = w := by
  have HC := Lib.hid hc
  clear hc
  go_enter Try.func22, Try.ntmps22
  obtain ⟨K, hK⟩ : ∃ K, K = min n.toNat 32 := ⟨_, rfl⟩
  rw [← hK]
  have hkn : K = n.toNat ∧ K ≤ 32 := by omega
  clear hK
  go_wp2_with fail
  go_loopw [0, 5, 6] (fun v0 v5 v6 wr => ∃ k : Nat, k ≤ K ∧ v6 = .int .i64 k ∧ v0 = .int .u32 ((cd c k : Nat) : Int) ∧ v5 = .int .u32 (trn c k : Nat) ∧ wr = w) (fun _ _ v6 _ => K - (intOf v6).toNat)
  case atStart => exact ⟨0, Nat.zero_le _, rfl, by rw [cd_zero], rfl, rfl⟩
  case round =>
    obtain ⟨k, hk, rfl, rfl, rfl, rfl⟩ := hrel
    have hcl := cd_lt c k HC.out
    have HD := Lib.hid (cd_succ c k)
    have HT := Lib.hid (trn_cd c k)
    have htl := trn_lt c k
    generalize cd c k = x at *
    obtain ⟨y, hy⟩ : ∃ y, y = trn c k := ⟨_, rfl⟩
    rw [← hy] at htl HT ⊢
    have HY := Lib.hid hy
    clear hy
    by_cases hlt : k < K
    · have hki : (k : Int) < n := by omega
      have hp : 2 ^ k ≤ 2 ^ 31 := Nat.pow_le_pow_right (by decide) (by omega)
      have hp2 : (2 : Nat) ^ 31 = 2147483648 := by decide
      go_wp2_with fail
      refine ⟨⟨k + 1, by omega, by go_num, ?_, ?_, (by first | rfl | trivial)⟩, by simp [intOf]; omega⟩
      · rw [HD.out]; go_num
      · rw [HT.out]; go_num
    · have hki : n ≤ (k : Int) := by omega
      obtain rfl : k = K := by omega
      go_wp2_with fail
      go_ret
      exact ⟨by rw [← HY.out]; rfl, rfl⟩
theorem rTurned_walk (w : World) (c : Nat) (n : Int) (hc : c < 4294967296) :
    Calls Try.prog 22 #[.int .u32 (c : Int), .int .i64 n] w fun e w' => e = .returned (.int .u32 (trn c (min n.toNat 32) : Nat)) ∧ w' = w := by
  rcases Int.lt_or_le 32 n with h | h
  · exact rTurned_big w c n hc h
  · exact rTurned_small w c n hc h
def mny (zs : List Int) : Nat := zs.countP fun z => decide (0 < z)
theorem mny_snoc (zs : List Int) (z : Int) : mny (zs ++ [z]) = mny zs + (if 0 < z then 1 else 0) := by
  unfold mny; rw [List.countP_append, List.countP_singleton]; simp
theorem one_snoc (zs : List Int) (z : Int) : (zs ++ [z]).count 1 = zs.count 1 + (if z = 1 then 1 else 0) := by
  rw [List.count_append, List.count_singleton]; simp
theorem mny_good (zs : List Int) (h : ∀ z ∈ zs, 0 ≤ z) : mny zs + zs.count 0 = zs.length := by
  induction zs with
  | nil => rfl
  | cons z t ih =>
    have h1 := ih (fun y hy => h y (by simp [hy]))
    have h2 := h z (by simp)
    unfold mny at h1 ⊢
    rw [List.countP_cons, List.count_cons, List.length_cons]
    by_cases h3 : 0 < z
    · rw [if_pos (by simpa using h3), if_neg (by simp; omega)]; omega
    · rw [if_neg (by simpa using h3), if_pos (by simp; omega)]; omega
theorem may_is (zs : List Int) (hg : good zs) : may zs = if st zs = 0 ∨ mny zs = 0 ∨ (mny zs = 1 ∧ zs.count 1 = 1) then 0 else 20 := by
  have h := mny_good zs (fun z hz => (hg.2 z hz).1)
  have h1 : zs.count 1 ≤ mny zs := by
    unfold mny List.count
    refine List.countP_mono_left fun z _ hz => ?_
    have : z = 1 := eq_of_beq hz
    simp [this]
  unfold may
  rw [if_pos hg]
  have e : Hf.lone zs = true ↔ mny zs = 0 ∨ (mny zs = 1 ∧ zs.count 1 = 1) := by
    unfold Hf.lone
    rw [Bool.and_eq_true, decide_eq_true_iff, decide_eq_true_iff]
    omega
  by_cases h0 : st zs = 0
  · rw [if_pos (.inl h0), if_pos (.inl h0)]
  · by_cases h2 : Hf.lone zs = true
    · rw [if_pos (.inr h2), if_pos (.inr (e.1 h2))]
    · rw [if_neg (by rintro (h | h); exact h0 h; exact h2 h), if_neg (by rintro (h | h); exact h0 h; exact h2 (e.2 h))]
set_option maxRecDepth 100000 in
set_option maxHeartbeats 1000000 in
theorem rMay_walk (w : World) (v : Value) (zs : List Int) (hv : SlV w v (ni zs)) (hl : zs.length ≤ 1099511627776) : Calls Try.prog 20 #[v] w fun e w' => e = .returned (.int .i64 (may zs)) ∧ w' = w := by
  have HS := Lib.hid (rState_walk w v zs hv)
  obtain ⟨p, cap, rfl⟩ := hv.shape
  rw [ni_length] at *
  obtain ⟨l, hl0⟩ : ∃ l, l = zs.length := ⟨_, rfl⟩
  rw [← hl0] at hv hl HS ⊢
  have HN := Lib.hid hl0
  have HV := Lib.hid hv
  clear hl0 hv
  go_enter Try.func20, Try.ntmps20
  go_wp2_with fail
  refine HS.out.mono ?_
  rintro e w' ⟨rfl, rfl⟩
  clear HS
  by_cases hg : good zs
  · have HM := Lib.hid (may_is zs hg)
    rw [if_pos hg]
    obtain ⟨s, hs⟩ : ∃ s, s = st zs := ⟨_, rfl⟩
    rw [← hs] at HM ⊢
    clear hs
    have HG := Lib.hid hg
    clear hg
    go_wp2_with fail
    go_loopw [5, 6, 7] (fun v5 v6 v7 wr => ∃ k : Nat, k ≤ l ∧ v7 = .int .i64 k ∧ v5 = .int .i64 ((mny (zs.take k) : Nat) : Int) ∧ v6 = .int .i64 (((zs.take k).count 1 : Nat) : Int) ∧ wr = w') (fun _ _ v7 _ => l - (intOf v7).toNat)
    case atStart => exact ⟨0, Nat.zero_le _, rfl, rfl, rfl, rfl⟩
    case round =>
      obtain ⟨k, hk, rfl, rfl, rfl, rfl⟩ := hrel
      have hm1 : mny (zs.take k) ≤ k := Nat.le_trans List.countP_le_length (by rw [List.length_take]; omega)
      have ho1 : (zs.take k).count 1 ≤ k := Nat.le_trans List.count_le_length (by rw [List.length_take]; omega)
      by_cases hlt : k < l
      · have hlti : (k : Int) < (l : Int) := by omega
        obtain ⟨g, o, rfl, hrow⟩ := HV.out.some (by omega)
        have hcap := HV.out.le
        have hkz : k < zs.length := by rw [← HN.out]; exact hlt
        have hc := hrow.ni k hkz
        have HA := Lib.hid (mny_snoc (zs.take k) (zs.getD k 0))
        have HB := Lib.hid (one_snoc (zs.take k) (zs.getD k 0))
        rw [← take_snoc zs k hkz] at HA HB
        generalize zs.getD k 0 = z at hc HA HB
        clear hrow
        generalize mny (zs.take k) = m at *
        generalize (zs.take k).count 1 = o1 at *
        by_cases hz0 : 0 < z
        · by_cases hz1 : z = 1
          · subst hz1
            have ha : mny (zs.take (k + 1)) = m + 1 := HA.out
            have hb : (zs.take (k + 1)).count 1 = o1 + 1 := HB.out
            have HA := Lib.hid ha
            have HB := Lib.hid hb
            clear ha hb
            go_wp2_with fail
            exact ⟨⟨k + 1, by omega, by go_num, by rw [HA.out]; go_num, by rw [HB.out]; go_num, (by first | rfl | trivial)⟩, by simp [intOf]; omega⟩
          · have ha : mny (zs.take (k + 1)) = m + 1 := HA.out.trans (by rw [if_pos hz0])
            have hb : (zs.take (k + 1)).count 1 = o1 := HB.out.trans (by rw [if_neg hz1, Nat.add_zero])
            have HA := Lib.hid ha
            have HB := Lib.hid hb
            clear ha hb
            go_wp2_with fail
            exact ⟨⟨k + 1, by omega, by go_num, by rw [HA.out]; go_num, by rw [HB.out], (by first | rfl | trivial)⟩, by simp [intOf]; omega⟩
        · have hz1 : ¬ z = 1 := by omega
          have ha : mny (zs.take (k + 1)) = m := HA.out.trans (by rw [if_neg hz0, Nat.add_zero])
          have hb : (zs.take (k + 1)).count 1 = o1 := HB.out.trans (by rw [if_neg hz1, Nat.add_zero])
          have HA := Lib.hid ha
          have HB := Lib.hid hb
          clear ha hb
          go_wp2_with fail
          exact ⟨⟨k + 1, by omega, by go_num, by rw [HA.out], by rw [HB.out], (by first | rfl | trivial)⟩, by simp [intOf]; omega⟩
      · have hlti : (l : Int) ≤ (k : Int) := by omega
        obtain rfl : k = l := by omega
        have e : zs.take k = zs := by rw [HN.out, List.take_length]
        rw [e] at *
        clear e
        generalize mny zs = m at *
        generalize zs.count 1 = o1 at *
        by_cases h0 : s = 0
        · have HM := Lib.hid (HM.out.trans (if_pos (.inl h0)))
          subst h0
          go_wp2_with fail
          go_ret
          exact ⟨by rw [HM.out]; rfl, rfl⟩
        · by_cases h1 : m = 0
          · have HM := Lib.hid (HM.out.trans (if_pos (.inr (.inl h1))))
            have h1i : (m : Int) = 0 := by omega
            go_wp2_with fail
            go_ret
            exact ⟨by rw [HM.out]; rfl, rfl⟩
          · have h1i : ((m : Int) == 0) = false := beq_false_of_ne (by omega)
            have h0i : (s == 0) = false := beq_false_of_ne h0
            by_cases h2 : m = 1
            · have h2i : (m : Int) = 1 := by omega
              by_cases h3 : o1 = 1
              · have h3i : (o1 : Int) = 1 := by omega
                have HM := Lib.hid (HM.out.trans (if_pos (.inr (.inr ⟨h2, h3⟩))))
                go_wp2_with fail
                go_ret
                exact ⟨by rw [HM.out]; rfl, rfl⟩
              · have h3i : ((o1 : Int) == 1) = false := beq_false_of_ne (by omega)
                have HM := Lib.hid (HM.out.trans (if_neg (by omega)))
                go_wp2_with fail
                go_ret
                exact ⟨by rw [HM.out]; rfl, rfl⟩
            · have h2i : ((m : Int) == 1) = false := beq_false_of_ne (by omega)
              have HM := Lib.hid (HM.out.trans (if_neg (by omega)))
              go_wp2_with fail
              go_ret
              exact ⟨by rw [HM.out]; rfl, rfl⟩
  · have HM : Hid (may zs = 1) := Lib.hid (by unfold may; rw [if_neg hg])
    rw [if_neg hg]
    go_wp2_with fail
    go_ret
    exact ⟨by rw [HM.out]; rfl, rfl⟩
end Go.Proofs.Ytoifppfhnedahaa
