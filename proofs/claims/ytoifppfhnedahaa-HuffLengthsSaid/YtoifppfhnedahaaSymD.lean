/-
  stableCmpFunc and SortStableFunc, whatever the number of elements: what comes out is what insertion alone would make.
-/
import Derived.Test.YtoifppfhnedahaaSymC
namespace Go.Proofs.Ytoifppfhnedahaa
open Go.RowKit Hf

set_option maxRecDepth 100000 in
set_option maxHeartbeats 2000000 in
theorem stableN_walk (w : World) (gd n cap gb : Nat) (v : Value) (counts : List Int) (l : List Nat) (hS : SortAt w w gd n cap gb v counts l) (hn : n ≤ 1048576) (hup : ∀ p q, p < q → q < n → at0 l p < at0 l q) :
    Calls Try.prog 46 #[.slice (some ⟨gd, 0, none⟩) n cap, .int .i64 (n : Int), .func (.func 41) #[] #[.pointer (some ⟨gb, 0, none⟩)]] w fun e w' => e = .returned (.tuple #[]) ∧ ∃ l', SortAt w w' gd n cap gb v counts l' ∧ l'.Perm l ∧ srt (fun s => counts.getD s 0) l' 0 n := by
  have HS := Lib.hid hS
  have HUP := Lib.hid hup
  have HLN : Hid (l.length = n) := Lib.hid hS.len
  clear hS hup
  go_enter Try.func46, Try.ntmps46
  go_wp2_with fail
  go_loopw [7, 8] (fun v7 v8 wr => ∃ (a : Nat) (lq : List Nat), a ≤ n ∧ v7 = .int .i64 (a : Int) ∧ v8 = .int .i64 ((a : Int) + 20) ∧ SortAt w wr gd n cap gb v counts lq ∧ PI (fun s => counts.getD s 0) l lq n a) (fun v7 _ _ => n - (intOf v7).toNat)
  case atStart => exact ⟨0, l, Nat.zero_le _, rfl, by simp, HS.out, PI.start HUP.out⟩
  case round =>
    clear HS
    obtain ⟨a, lq, ha, rfl, rfl, hS, hP⟩ := hrel
    have HS := Lib.hid hS
    have HP := Lib.hid hP
    clear hS hP
    by_cases hlt : a + 20 ≤ n
    · have hlti : (a : Int) + 20 ≤ (n : Int) := by omega
      have hc := insertA_walk wr gd n cap gb a (a + 20) v counts lq HS.out.re (by omega) (by omega) hlt
      rw [show ((a + 20 : Nat) : Int) = (a : Int) + 20 by omega] at hc
      have HC := Lib.hid hc
      have HB := Lib.hid (isA_block (fun s => counts.getD s 0) lq a (a + 20) (by omega) (by rw [HS.out.len]; exact hlt) (HP.out.up HLN.out HUP.out))
      clear hc
      go_wp2_with fail
      refine HC.out.mono ?_
      rintro e w2 ⟨rfl, hS2⟩
      have HS2 := Lib.hid (HS.out.thn hS2)
      have HP2 := Lib.hid (HP.out.step hlt HB.out.2 HB.out.1)
      clear hS2 HC HS HP HB
      go_wp2_with fail
      exact ⟨⟨a + 20, _, hlt, by go_num, by go_num, HS2.out, HP2.out⟩, by simp [intOf]; omega⟩
    · have hlti : (n : Int) < (a : Int) + 20 := by omega
      have HC := Lib.hid (insertA_walk wr gd n cap gb a n v counts lq HS.out.re (by omega) ha (Nat.le_refl _))
      have HB := Lib.hid (isA_block (fun s => counts.getD s 0) lq a n ha (by rw [HS.out.len]; exact Nat.le_refl _) (HP.out.up HLN.out HUP.out))
      go_wp2_with fail
      refine HC.out.mono ?_
      rintro e w2 ⟨rfl, hS2⟩
      have HS2 := Lib.hid (HS.out.thn hS2)
      have HP2 := Lib.hid (HP.out.done ha (by omega) HB.out.2 HB.out.1)
      have HPM := Lib.hid (HB.out.2.perm.trans HP.out.perm)
      clear hS2 HC HS HP HB HUP
      obtain ⟨l2, hl2⟩ : ∃ l2, l2 = isA (fun s => counts.getD s 0) a (n - a - 1) lq := ⟨_, rfl⟩
      rw [← hl2] at HS2 HP2 HPM
      clear hl2
      go_wp2_with fail
      go_loopw [6, 7, 8, 9] (fun v6 _ _ _ wr => ∃ (bs : Nat) (lq : List Nat), 0 < bs ∧ bs ≤ 2 * n + 20 ∧ v6 = .int .i64 (bs : Int) ∧ SortAt w wr gd n cap gb v counts lq ∧ lq.Perm l ∧ PB (fun s => counts.getD s 0) lq n bs) (fun v6 _ _ _ _ => n - (intOf v6).toNat)
      case atStart => exact ⟨20, l2, by decide, by omega, rfl, HS2.out, HPM.out, HP2.out⟩
      case round =>
        clear HS2 HP2 HPM
        obtain ⟨bs, lq, h0, hbs, rfl, hS, hPm, hP⟩ := hrel
        have HS := Lib.hid hS
        have HP := Lib.hid hP.start
        have HF := Lib.hid hP
        have HPM := Lib.hid hPm
        clear hS hPm hP
        by_cases hb : bs < n
        · have hbi : (bs : Int) < (n : Int) := by omega
          clear HF
          go_wp2_with fail
          go_loopw [7, 8] (fun v7 v8 wr => ∃ (a : Nat) (lq : List Nat), a ≤ n ∧ v7 = .int .i64 (a : Int) ∧ v8 = .int .i64 ((a : Int) + 2 * (bs : Int)) ∧ SortAt w wr gd n cap gb v counts lq ∧ lq.Perm l ∧ PM (fun s => counts.getD s 0) lq n bs a) (fun v7 _ _ => n - (intOf v7).toNat)
          case atStart => exact ⟨0, lq, Nat.zero_le _, rfl, by simp, HS.out, HPM.out, HP.out⟩
          case round =>
            clear HS HPM HP
            obtain ⟨a, lz, ha, rfl, rfl, hS, hPm, hP⟩ := hrel
            have HS := Lib.hid hS
            have HP := Lib.hid hP
            have HPM := Lib.hid hPm
            clear hS hPm hP
            by_cases hlt : a + 2 * bs ≤ n
            · have hlti : (a : Int) + 2 * (bs : Int) ≤ (n : Int) := by omega
              have hpre := HP.out.pre (b := a + 2 * bs) (by omega) (Nat.le_refl _) hlt
              have hc := sym_walk gd n cap gb v counts (by omega) (2 * bs + 1) wr lz a (a + bs) (a + 2 * bs) HS.out.re (by omega) (by omega) hlt (by omega) hpre.1 hpre.2.1 hpre.2.2
              rw [show ((a + bs : Nat) : Int) = (a : Int) + (bs : Int) by omega, show ((a + 2 * bs : Nat) : Int) = (a : Int) + 2 * (bs : Int) by omega] at hc
              have HC := Lib.hid hc
              clear hc hpre
              go_wp2_with fail
              refine HC.out.mono ?_
              rintro e w3 ⟨rfl, l3, hS3, hM3, hs3⟩
              have HS3 := Lib.hid (HS.out.thn hS3)
              have HP3 := Lib.hid (HP.out.step hlt hM3 hs3)
              have HPM3 := Lib.hid (hM3.perm.trans HPM.out)
              clear hS3 hM3 hs3 HC HS HP HPM
              go_wp2_with fail
              exact ⟨⟨a + 2 * bs, l3, hlt, by go_num, by go_num, HS3.out, HPM3.out, HP3.out⟩, by simp [intOf]; omega⟩
            · have hlti : (n : Int) < (a : Int) + 2 * (bs : Int) := by omega
              by_cases hm : a + bs < n
              · have hmi : (a : Int) + (bs : Int) < (n : Int) := by omega
                have hpre := HP.out.pre (b := n) hm (by omega) (Nat.le_refl _)
                have hc := sym_walk gd n cap gb v counts (by omega) (n + 1) wr lz a (a + bs) n HS.out.re (by omega) hm (Nat.le_refl _) (by omega) hpre.1 hpre.2.1 hpre.2.2
                rw [show ((a + bs : Nat) : Int) = (a : Int) + (bs : Int) by omega] at hc
                have HC := Lib.hid hc
                clear hc hpre
                go_wp2_with fail
                refine HC.out.mono ?_
                rintro e w3 ⟨rfl, l3, hS3, hM3, hs3⟩
                have HS3 := Lib.hid (HS.out.thn hS3)
                have HP3 := Lib.hid (HP.out.last hm (by omega) hM3 hs3)
                have HPM3 := Lib.hid (hM3.perm.trans HPM.out)
                clear hS3 hM3 hs3 HC HS HP HPM
                go_wp2_with fail
                exact ⟨⟨2 * bs, l3, by omega, by omega, by go_num, HS3.out, HPM3.out, HP3.out⟩, by simp [intOf]; omega⟩
              · have hmi : (n : Int) ≤ (a : Int) + (bs : Int) := by omega
                have HP3 := Lib.hid (HP.out.done (by omega) h0)
                clear HP
                go_wp2_with fail
                exact ⟨⟨2 * bs, lz, by omega, by omega, by go_num, HS.out, HPM.out, HP3.out⟩, by simp [intOf]; omega⟩
        · have hbi : (n : Int) ≤ (bs : Int) := by omega
          have HO : Hid (srt (fun s => counts.getD s 0) lq 0 n) := Lib.hid (by
            have := HF.out.ords 0 ⟨0, rfl⟩
            rwa [Nat.zero_add, Nat.min_eq_right (by omega)] at this)
          clear HF HP
          go_wp2_with fail
          go_end0
          exact ⟨rfl, lq, HS.out, HPM.out, HO.out⟩
/-- What comes out is what insertion alone makes. -/
theorem sorted_is {c : Nat → Int} {l l' : List Nat} {n : Nat} (hl : l.length = n) (hup : ∀ p q, p < q → q < n → at0 l p < at0 l q) (hp : l'.Perm l) (hs : srt c l' 0 n) : l' = isTo c (n - 1) l := by
  have hb := isA_block c l 0 n (Nat.zero_le _) (by omega) (fun p q _ h1 h2 => hup p q h1 (by omega))
  rw [Nat.sub_zero, ← isA_zero] at hb
  have h1 : l'.length = n := hp.length_eq.trans hl
  have h2 : (isTo c (n - 1) l).length = n := by rw [isTo_length, hl]
  refine perm_pair (c := c) (hp.trans hb.2.perm.symm) (srt_pair (by rw [h1]; exact hs)) (srt_pair (by rw [h2]; exact hb.1))
set_option maxHeartbeats 1000000 in
theorem sortN_walk (w : World) (gd n cap gb : Nat) (v : Value) (counts : List Int) (l : List Nat) (hS : SortAt w w gd n cap gb v counts l) (hn : n ≤ 1048576) (hup : ∀ p q, p < q → q < n → at0 l p < at0 l q) :
    Calls Try.prog 40 #[.slice (some ⟨gd, 0, none⟩) n cap, .func (.func 41) #[] #[.pointer (some ⟨gb, 0, none⟩)]] w fun e w' => e = .returned (.tuple #[]) ∧ SortAt w w' gd n cap gb v counts (isTo (fun s => counts.getD s 0) (n - 1) l) := by
  have HI := Lib.hid (stableN_walk w gd n cap gb v counts l hS hn hup)
  have HQ : Hid (∀ l', l'.Perm l → srt (fun s => counts.getD s 0) l' 0 n → l' = isTo (fun s => counts.getD s 0) (n - 1) l) := Lib.hid (fun l' h1 h2 => sorted_is hS.len hup h1 h2)
  clear hS
  go_enter Try.func40, Try.ntmps40
  go_wp2_with fail
  refine HI.out.mono ?_
  rintro e w1 ⟨rfl, l1, hS1, hp1, hs1⟩
  have he := HQ.out l1 hp1 hs1
  rw [he] at hS1
  have HS := Lib.hid hS1
  clear hS1 HI he hp1 hs1 HQ
  go_wp2_with fail
  go_end0
  exact ⟨rfl, HS.out⟩
end Go.Proofs.Ytoifppfhnedahaa
