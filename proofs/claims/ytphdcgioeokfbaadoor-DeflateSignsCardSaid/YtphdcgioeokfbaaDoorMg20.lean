/-
  Merged, in the order in which they build: SymB.
-/
import Derived.Test.YtphdcgioeokfbaaDoorMg19
/-
  symMergeCmpFunc, where both parts are of more than one element, its own calls given.
-/
namespace Go.Proofs.YtphdcgioeokfbaaDoor
open Go.RowKit Hf

def SmHyp (gd n cap gb : Nat) (v : Value) (counts : List Int) (d : Nat) : Prop :=
  ∀ (w2 : World) (l2 : List Nat) (a2 m2 b2 : Nat), SortAt w2 w2 gd n cap gb v counts l2 → a2 < m2 → m2 < b2 → b2 ≤ n → b2 - a2 < d → srt (fun s => counts.getD s 0) l2 a2 m2 → srt (fun s => counts.getD s 0) l2 m2 b2 → apt l2 a2 m2 b2 →
    Calls Tryd.prog 91 #[.slice (some ⟨gd, 0, none⟩) n cap, .int .i64 (a2 : Int), .int .i64 (m2 : Int), .int .i64 (b2 : Int), .func (.func 75) #[] #[.pointer (some ⟨gb, 0, none⟩)]] w2 (SmPost w2 gd n cap gb v counts l2 a2 b2)
theorem srt_join {c : Nat → Int} {l : List Nat} {a s b : Nat} (h1 : srt c l a s) (h2 : srt c l s b) (h : s ≤ a ∨ b ≤ s) : srt c l a b := by
  intro i j hi hij hj
  rcases h with h | h
  · exact h2 i j (by omega) hij hj
  · exact h1 i j hi hij (by omega)

set_option maxRecDepth 100000 in
set_option maxHeartbeats 4000000 in
theorem symHigh_walk (w : World) (gd n cap gb : Nat) (v : Value) (counts : List Int) (l : List Nat) (a m b : Nat) (hS : SortAt w w gd n cap gb v counts l) (hn : n ≤ 1099511627776) (ham : a + 1 < m) (hmb : m + 1 < b) (hb : b ≤ n)
    (hL : srt (fun s => counts.getD s 0) l a m) (hR : srt (fun s => counts.getD s 0) l m b) (hA : apt l a m b) (IH : SmHyp gd n cap gb v counts (b - a)) (hcase : (a + b) / 2 < m) :
    Calls Tryd.prog 91 #[.slice (some ⟨gd, 0, none⟩) n cap, .int .i64 (a : Int), .int .i64 (m : Int), .int .i64 (b : Int), .func (.func 75) #[] #[.pointer (some ⟨gb, 0, none⟩)]] w (SmPost w gd n cap gb v counts l a b) := by
  have HS := Lib.hid hS
  have HR := Lib.hid hR
  have HL := Lib.hid hL
  have HA := Lib.hid hA
  have HI := Lib.hid IH
  have HLN : Hid (l.length = n) := Lib.hid hS.len
  clear hS hR hL hA IH
  have hone : ((m : Int) - (a : Int) == 1) = false := beq_false_of_ne (by omega)
  have htwo : ((b : Int) - (m : Int) == 1) = false := beq_false_of_ne (by omega)
  obtain ⟨mid, hmid⟩ : ∃ mid, mid = (a + b) / 2 := ⟨_, rfl⟩
  rw [← hmid] at hcase
  have hmI : ((a : Int) + (b : Int)) / 2 = (mid : Int) := by omega
  have hm1 : 2 * mid ≤ a + b := by omega
  have hm2 : a + b ≤ 2 * mid + 1 := by omega
  clear hmid
  have hcI : (mid : Int) < (m : Int) := by omega
  obtain ⟨lo, hlo⟩ : ∃ lo, lo = mid + m - b := ⟨_, rfl⟩
  have hloI : (mid : Int) + (m : Int) - (b : Int) = (lo : Int) := by omega
  have hloA : lo + b = mid + m := by omega
  clear hlo
  have hmd : decide (mid < m) = true := decide_eq_true (by omega)
  go_enter Tryd.func91, Tryd.ntmps91
  go_wp2_with fail
  go_loopw [20, 21, 23] (fun v20 v21 _ wr => ∃ i j : Nat, lo ≤ i ∧ i ≤ j ∧ j ≤ mid ∧ v20 = .int .i64 (i : Int) ∧ v21 = .int .i64 (j : Int) ∧ SortAt w wr gd n cap gb v counts l ∧
    (i = lo ∨ lx (fun s => counts.getD s 0) (at0 l (i - 1)) (at0 l (mid + m - i))) ∧ (j = mid ∨ lx (fun s => counts.getD s 0) (at0 l (mid + m - 1 - j)) (at0 l j))) (fun v20 v21 _ _ => (intOf v21).toNat - (intOf v20).toNat)
  case atStart => exact ⟨lo, mid, Nat.le_refl _, by omega, Nat.le_refl _, rfl, rfl, HS.out, .inl rfl, .inl rfl⟩
  case round =>
    clear HS
    obtain ⟨i, j, hi, hij, hj, rfl, rfl, hS, q1, q2⟩ := hrel
    have HS := Lib.hid hS
    have HQ1 := Lib.hid q1
    have HQ2 := Lib.hid q2
    clear hS q1 q2
    by_cases hlt : i < j
    · have hlti : (i : Int) < (j : Int) := by omega
      obtain ⟨h, hh⟩ : ∃ h, h = (i + j) / 2 := ⟨_, rfl⟩
      have hhi : i ≤ h ∧ h < j := by omega
      have hhI : ((i : Int) + (j : Int)) / 2 = (h : Int) := by omega
      clear hh
      obtain ⟨q, hq⟩ : ∃ q, q = mid + m - 1 - h := ⟨_, rfl⟩
      have hqI : (mid : Int) + (m : Int) - 1 - (h : Int) = (q : Int) := by omega
      have hqm : m ≤ q ∧ q < b := by omega
      have hqN : mid + m - (h + 1) = q := by omega
      have HQN := Lib.hid (And.intro hqN hq)
      clear hq hqN
      obtain ⟨c1, f1, hcap⟩ := HS.out.cell h (by omega)
      obtain ⟨c0, f0, _⟩ := HS.out.cell q (by omega)
      have hm1' := HS.out.mem (l.getD h 0) (getD_mem0 (by rw [HLN.out]; omega))
      have hm0 := HS.out.mem (l.getD q 0) (getD_mem0 (by rw [HLN.out]; omega))
      have HC := Lib.hid (fun k => byc_walk (wr.drewN k) gb v counts _ _ HS.out.box (HS.out.drewN k).sl hm0 hm1')
      have HNG := Lib.hid (cmpI_neg (counts.getD (l.getD q 0) 0) (counts.getD (l.getD h 0) 0))
      have HS2 := Lib.hid (fun m => HS.out.drewN m)
      have HXY : Hid (l.getD h 0 = at0 l h ∧ l.getD q 0 = at0 l q) := Lib.hid ⟨rfl, rfl⟩
      have HAP := Lib.hid (HA.out h q (by omega) (by omega) hqm.1 hqm.2)
      clear HS
      generalize l.getD h 0 = x at *
      generalize l.getD q 0 = y at *
      obtain ⟨cv, hcv⟩ : ∃ cv, cv = cmpI (counts.getD y 0) (counts.getD x 0) := ⟨_, rfl⟩
      rw [← hcv] at HC HNG
      clear hcv hm1' hm0
      have b0 : (h : Int) < (n : Int) := by omega
      have b1 : (q : Int) < (n : Int) := by omega
      by_cases hlt2 : cv < 0
      · have HY : Hid (lx (fun s => counts.getD s 0) (at0 l (mid + m - 1 - h)) (at0 l h)) := Lib.hid (by
            have h4 := HNG.out.1 hlt2
            rw [HXY.out.1, HXY.out.2] at h4
            rw [← HQN.out.2]; exact .inl h4)
        have hdv : decide (cv < 0) = true := decide_eq_true hlt2
        go_wp2_with fail
        go_quiet (first | (go_at_call 75; exact Calls.quiet_of (HC.out _)))
        have HS3 := Lib.hid (HS2.out nq)
        clear HS2 c1 f1 c0 f0 HC
        generalize wr.drewN nq = wz at *
        go_wp2_with fail
        exact ⟨⟨i, h, hi, by omega, by omega, rfl, rfl, HS3.out, HQ1.out, .inr HY.out⟩, by simp [intOf]; omega⟩
      · have HY : Hid (lx (fun s => counts.getD s 0) (at0 l (h + 1 - 1)) (at0 l (mid + m - (h + 1)))) := Lib.hid (by
            have h4 := fun z => hlt2 (HNG.out.2 z)
            rw [HXY.out.1, HXY.out.2] at h4
            have h5 := HAP.out
            rw [HQN.out.1, Nat.add_sub_cancel]
            have h6 := Int.not_lt.1 h4
            unfold lx; dsimp only; omega)
        have hdv : decide (cv < 0) = false := decide_eq_false hlt2
        go_wp2_with fail
        go_quiet (first | (go_at_call 75; exact Calls.quiet_of (HC.out _)))
        have HS3 := Lib.hid (HS2.out nq)
        clear HS2 c1 f1 c0 f0 HC
        generalize wr.drewN nq = wz at *
        go_wp2_with fail
        exact ⟨⟨h + 1, j, by omega, by omega, hj, by go_num, rfl, HS3.out, .inr HY.out, HQ2.out⟩, by simp [intOf]; omega⟩
    · have hij2 : j = i := by omega
      have hlti : (j : Int) ≤ (i : Int) := by omega
      have HIJ := Lib.hid hij2
      obtain ⟨e, he⟩ : ∃ e, e = mid + m - i := ⟨_, rfl⟩
      have heI : (mid : Int) + (m : Int) - (i : Int) = (e : Int) := by omega
      have hem : m ≤ e ∧ e ≤ b := by omega
      have hsm : i ≤ m ∧ a ≤ i ∧ i ≤ mid ∧ mid ≤ e := by omega
      have HE := Lib.hid he
      have HME : Hid (i + (e - m) = mid) := Lib.hid (by omega)
      have HX1 : Hid (∀ p q, a ≤ p → p < i → e ≤ q → q < b → lx (fun s => counts.getD s 0) (at0 l p) (at0 l q)) := Lib.hid (fun p q h1 h2 h3 h4 => by
          rcases HQ1.out with h5 | h5
          · omega
          · rw [← he] at h5
            have h6 : lx (fun s => counts.getD s 0) (at0 l p) (at0 l e) := by
              by_cases z : p = i - 1
              · rw [z]; exact h5
              · exact lx_trans (HL.out p (i - 1) h1 (by omega) (by omega)) h5
            by_cases z : q = e
            · rw [z]; exact h6
            · exact lx_trans h6 (HR.out e q (by omega) (by omega) h4))
      have HX2 : Hid (∀ p q, m ≤ p → p < e → i ≤ q → q < m → lx (fun s => counts.getD s 0) (at0 l p) (at0 l q)) := Lib.hid (fun p q h1 h2 h3 h4 => by
          rcases HQ2.out with h5 | h5
          · omega
          · rw [hij2, show mid + m - 1 - i = e - 1 by omega] at h5
            have h6 : lx (fun s => counts.getD s 0) (at0 l p) (at0 l i) := by
              by_cases z : p = e - 1
              · rw [z]; exact h5
              · exact lx_trans (HR.out p (e - 1) h1 (by omega) (by omega)) h5
            by_cases z : q = i
            · rw [z]; exact h6
            · exact lx_trans h6 (HL.out i q (by omega) (by omega) h4))
      have HLP := Lib.hid (lower_pre hsm.2.1 hsm.1 hem.1 hem.2 (by rw [HLN.out]; exact hb) HL.out HR.out HA.out)
      have HUP : Hid (∀ l3, Mv a (i + (e - m)) (rot l i m e) l3 → srt (fun s => counts.getD s 0) l3 (i + (e - m)) e ∧ srt (fun s => counts.getD s 0) l3 e b ∧ apt l3 (i + (e - m)) e b) := Lib.hid (fun l3 h => upper_pre hsm.2.1 hsm.1 hem.1 hem.2 (by rw [HLN.out]; exact hb) HL.out HR.out HA.out h)
      have HFN : Hid (∀ l3 l4, Mv a (i + (e - m)) (rot l i m e) l3 → Mv (i + (e - m)) b l3 l4 → srt (fun s => counts.getD s 0) l3 a (i + (e - m)) → srt (fun s => counts.getD s 0) l4 (i + (e - m)) b → srt (fun s => counts.getD s 0) l4 a b) := Lib.hid (fun l3 l4 h1 h2 h3 h4 => halves_srt hsm.2.1 hsm.1 hem.1 hem.2 (by rw [HLN.out]; exact hb) HL.out HR.out HX1.out HX2.out h1 h2 h3 h4)
      have HMV : Hid ((rot l i m e).Perm l → Mv a b l (rot l i m e)) := Lib.hid (fun h => (Mv.rot hsm.1 hem.1 (by rw [HLN.out]; omega) h).wide hsm.2.1 hem.2)
      rw [HME.out] at HLP HUP HFN
      clear HQ1 HQ2 HX1 HX2 HL HR HA hij2 he HIJ hlt hj hi hij
      by_cases hrot : i < m ∧ m < e
      · as_aux_lemma =>
        have r1 : (i : Int) < (m : Int) := by omega
        have r2 : (m : Int) < (e : Int) := by omega
        have HC := Lib.hid (rotate_walk wr gd n cap gb v (.func (.func 75) #[] #[.pointer (some ⟨gb, 0, none⟩)]) counts l i m e HS.out.re hn hrot.1 hrot.2 (by omega))
        go_wp2_with fail
        refine HC.out.mono ?_
        rintro e3 w3 ⟨rfl, hS3, hP3⟩
        have HS3 := Lib.hid (HS.out.thn hS3)
        have HP3 := Lib.hid hP3
        clear hS3 hP3 HC HS
        have h1s : (a < i ∧ i < mid) ∨ i ≤ a ∨ (a < i ∧ mid ≤ i) := by omega
        rcases h1s with ⟨h1a, h1b⟩ | h1a | ⟨h1a, h1b⟩
        · as_aux_lemma =>
          have k1 : (a : Int) < (i : Int) := by omega
          have k2 : (i : Int) < (mid : Int) := by omega
          have HC := Lib.hid (HI.out w3 (rot l i m e) a i mid HS3.out.re h1a h1b (by omega) (by omega) HLP.out.1 HLP.out.2.1 HLP.out.2.2)
          go_wp2_with fail
          all_goals
            refine HC.out.mono ?_
            rintro e4 w4 ⟨rfl, l3, hS4, hM4, hs4⟩
            have HS4 := Lib.hid (HS3.out.thn hS4)
            have HM4 := Lib.hid hM4
            have HT4 := Lib.hid hs4
            clear hS4 hM4 hs4 HC HS3
            have HU4 := Lib.hid (HUP.out l3 HM4.out)
            have h2s : (mid < e ∧ e < b) ∨ e ≤ mid ∨ (mid < e ∧ b ≤ e) := by omega
            rcases h2s with ⟨h2a, h2b⟩ | h2a | ⟨h2a, h2b⟩
            · have z1 : (mid : Int) < (e : Int) := by omega
              have z2 : (e : Int) < (b : Int) := by omega
              have HC := Lib.hid (HI.out w4 l3 mid e b HS4.out.re h2a h2b hb (by omega) HU4.out.1 HU4.out.2.1 HU4.out.2.2)
              go_wp2_with fail
              all_goals
                refine HC.out.mono ?_
                rintro e5 w5 ⟨rfl, l4, hS5, hM5, hs5⟩
                have HS5 := Lib.hid (HS4.out.thn hS5)
                have HM5 := Lib.hid hM5
                have HT5 := Lib.hid hs5
                clear hS5 hM5 hs5 HC HS4
                go_wp2_with fail
                go_end0
                exact ⟨rfl, l4, HS5.out, (HMV.out HP3.out).trans ((HM4.out.wide (Nat.le_refl _) (by omega)).trans (HM5.out.wide (by omega) (Nat.le_refl _))), HFN.out l3 l4 HM4.out HM5.out HT4.out HT5.out⟩
            · have z1 : (e : Int) ≤ (mid : Int) := by omega
              have HT5 := Lib.hid (srt_join HU4.out.1 HU4.out.2.1 (by omega))
              go_wp2_with fail
              all_goals
                go_end0
                exact ⟨rfl, l3, HS4.out, (HMV.out HP3.out).trans (HM4.out.wide (Nat.le_refl _) (by omega)), HFN.out l3 l3 HM4.out (Mv.refl _ _ _) HT4.out HT5.out⟩
            · have z1 : (mid : Int) < (e : Int) := by omega
              have z2 : (b : Int) ≤ (e : Int) := by omega
              have HT5 := Lib.hid (srt_join HU4.out.1 HU4.out.2.1 (by omega))
              go_wp2_with fail
              all_goals
                go_end0
                exact ⟨rfl, l3, HS4.out, (HMV.out HP3.out).trans (HM4.out.wide (Nat.le_refl _) (by omega)), HFN.out l3 l3 HM4.out (Mv.refl _ _ _) HT4.out HT5.out⟩
        · as_aux_lemma =>
          have k1 : (i : Int) ≤ (a : Int) := by omega
          have HS4 := HS3
          have HM4 : Hid (Mv a mid (rot l i m e) (rot l i m e)) := Lib.hid (Mv.refl _ _ _)
          have HT4 : Hid (srt (fun s => counts.getD s 0) (rot l i m e) a mid) := Lib.hid (srt_join HLP.out.1 HLP.out.2.1 (by omega))
          obtain ⟨l3, hl3⟩ : ∃ l3, l3 = rot l i m e := ⟨_, rfl⟩
          obtain ⟨HS4, HM4, HT4⟩ : Hid (SortAt w w3 gd n cap gb v counts l3) ∧ Hid (Mv a mid (rot l i m e) l3) ∧ Hid (srt (fun s => counts.getD s 0) l3 a mid) := by rw [hl3]; exact ⟨HS4, HM4, HT4⟩
          clear hl3 HS3
          obtain ⟨w4, hw4⟩ : ∃ w4, w4 = w3 := ⟨_, rfl⟩
          rw [← hw4] at HS4 ⊢
          clear hw4
          have HU4 := Lib.hid (HUP.out l3 HM4.out)
          have h2s : (mid < e ∧ e < b) ∨ e ≤ mid ∨ (mid < e ∧ b ≤ e) := by omega
          rcases h2s with ⟨h2a, h2b⟩ | h2a | ⟨h2a, h2b⟩
          · have z1 : (mid : Int) < (e : Int) := by omega
            have z2 : (e : Int) < (b : Int) := by omega
            have HC := Lib.hid (HI.out w4 l3 mid e b HS4.out.re h2a h2b hb (by omega) HU4.out.1 HU4.out.2.1 HU4.out.2.2)
            go_wp2_with fail
            all_goals
              refine HC.out.mono ?_
              rintro e5 w5 ⟨rfl, l4, hS5, hM5, hs5⟩
              have HS5 := Lib.hid (HS4.out.thn hS5)
              have HM5 := Lib.hid hM5
              have HT5 := Lib.hid hs5
              clear hS5 hM5 hs5 HC HS4
              go_wp2_with fail
              go_end0
              exact ⟨rfl, l4, HS5.out, (HMV.out HP3.out).trans ((HM4.out.wide (Nat.le_refl _) (by omega)).trans (HM5.out.wide (by omega) (Nat.le_refl _))), HFN.out l3 l4 HM4.out HM5.out HT4.out HT5.out⟩
          · have z1 : (e : Int) ≤ (mid : Int) := by omega
            have HT5 := Lib.hid (srt_join HU4.out.1 HU4.out.2.1 (by omega))
            go_wp2_with fail
            all_goals
              go_end0
              exact ⟨rfl, l3, HS4.out, (HMV.out HP3.out).trans (HM4.out.wide (Nat.le_refl _) (by omega)), HFN.out l3 l3 HM4.out (Mv.refl _ _ _) HT4.out HT5.out⟩
          · have z1 : (mid : Int) < (e : Int) := by omega
            have z2 : (b : Int) ≤ (e : Int) := by omega
            have HT5 := Lib.hid (srt_join HU4.out.1 HU4.out.2.1 (by omega))
            go_wp2_with fail
            all_goals
              go_end0
              exact ⟨rfl, l3, HS4.out, (HMV.out HP3.out).trans (HM4.out.wide (Nat.le_refl _) (by omega)), HFN.out l3 l3 HM4.out (Mv.refl _ _ _) HT4.out HT5.out⟩
        · as_aux_lemma =>
          have k1 : (a : Int) < (i : Int) := by omega
          have k2 : (mid : Int) ≤ (i : Int) := by omega
          have HS4 := HS3
          have HM4 : Hid (Mv a mid (rot l i m e) (rot l i m e)) := Lib.hid (Mv.refl _ _ _)
          have HT4 : Hid (srt (fun s => counts.getD s 0) (rot l i m e) a mid) := Lib.hid (srt_join HLP.out.1 HLP.out.2.1 (by omega))
          obtain ⟨l3, hl3⟩ : ∃ l3, l3 = rot l i m e := ⟨_, rfl⟩
          obtain ⟨HS4, HM4, HT4⟩ : Hid (SortAt w w3 gd n cap gb v counts l3) ∧ Hid (Mv a mid (rot l i m e) l3) ∧ Hid (srt (fun s => counts.getD s 0) l3 a mid) := by rw [hl3]; exact ⟨HS4, HM4, HT4⟩
          clear hl3 HS3
          obtain ⟨w4, hw4⟩ : ∃ w4, w4 = w3 := ⟨_, rfl⟩
          rw [← hw4] at HS4 ⊢
          clear hw4
          have HU4 := Lib.hid (HUP.out l3 HM4.out)
          have h2s : (mid < e ∧ e < b) ∨ e ≤ mid ∨ (mid < e ∧ b ≤ e) := by omega
          rcases h2s with ⟨h2a, h2b⟩ | h2a | ⟨h2a, h2b⟩
          · have z1 : (mid : Int) < (e : Int) := by omega
            have z2 : (e : Int) < (b : Int) := by omega
            have HC := Lib.hid (HI.out w4 l3 mid e b HS4.out.re h2a h2b hb (by omega) HU4.out.1 HU4.out.2.1 HU4.out.2.2)
            go_wp2_with fail
            all_goals
              refine HC.out.mono ?_
              rintro e5 w5 ⟨rfl, l4, hS5, hM5, hs5⟩
              have HS5 := Lib.hid (HS4.out.thn hS5)
              have HM5 := Lib.hid hM5
              have HT5 := Lib.hid hs5
              clear hS5 hM5 hs5 HC HS4
              go_wp2_with fail
              go_end0
              exact ⟨rfl, l4, HS5.out, (HMV.out HP3.out).trans ((HM4.out.wide (Nat.le_refl _) (by omega)).trans (HM5.out.wide (by omega) (Nat.le_refl _))), HFN.out l3 l4 HM4.out HM5.out HT4.out HT5.out⟩
          · have z1 : (e : Int) ≤ (mid : Int) := by omega
            have HT5 := Lib.hid (srt_join HU4.out.1 HU4.out.2.1 (by omega))
            go_wp2_with fail
            all_goals
              go_end0
              exact ⟨rfl, l3, HS4.out, (HMV.out HP3.out).trans (HM4.out.wide (Nat.le_refl _) (by omega)), HFN.out l3 l3 HM4.out (Mv.refl _ _ _) HT4.out HT5.out⟩
          · have z1 : (mid : Int) < (e : Int) := by omega
            have z2 : (b : Int) ≤ (e : Int) := by omega
            have HT5 := Lib.hid (srt_join HU4.out.1 HU4.out.2.1 (by omega))
            go_wp2_with fail
            all_goals
              go_end0
              exact ⟨rfl, l3, HS4.out, (HMV.out HP3.out).trans (HM4.out.wide (Nat.le_refl _) (by omega)), HFN.out l3 l3 HM4.out (Mv.refl _ _ _) HT4.out HT5.out⟩
      · as_aux_lemma =>
        have HRE : Hid (rot l i m e = l) := Lib.hid (by
            by_cases z : e = m
            · rw [z]; exact rot_left _ _ _ (by rw [HLN.out]; omega)
            · rw [show i = m by omega]; exact rot_right _ _ _ hem.1 (by rw [HLN.out]; omega))
        have HS3 : Hid (SortAt w wr gd n cap gb v counts (rot l i m e)) := Lib.hid (by rw [HRE.out]; exact HS.out)
        have HP3 : Hid ((rot l i m e).Perm l) := Lib.hid (by rw [HRE.out])
        clear HS HRE
        have hrot2 : m ≤ i ∨ (i < m ∧ e ≤ m) := by omega
        obtain ⟨w3, hw3⟩ : ∃ w3, w3 = wr := ⟨_, rfl⟩
        rw [← hw3] at HS3 ⊢
        clear hw3
        rcases hrot2 with hr2 | ⟨hr2, hr3⟩
        · skip
          have r1 : (m : Int) ≤ (i : Int) := by omega
          have h1s : (a < i ∧ i < mid) ∨ i ≤ a ∨ (a < i ∧ mid ≤ i) := by omega
          rcases h1s with ⟨h1a, h1b⟩ | h1a | ⟨h1a, h1b⟩
          · as_aux_lemma =>
            have k1 : (a : Int) < (i : Int) := by omega
            have k2 : (i : Int) < (mid : Int) := by omega
            have HC := Lib.hid (HI.out w3 (rot l i m e) a i mid HS3.out.re h1a h1b (by omega) (by omega) HLP.out.1 HLP.out.2.1 HLP.out.2.2)
            go_wp2_with fail
            all_goals
              refine HC.out.mono ?_
              rintro e4 w4 ⟨rfl, l3, hS4, hM4, hs4⟩
              have HS4 := Lib.hid (HS3.out.thn hS4)
              have HM4 := Lib.hid hM4
              have HT4 := Lib.hid hs4
              clear hS4 hM4 hs4 HC HS3
              have HU4 := Lib.hid (HUP.out l3 HM4.out)
              have h2s : (mid < e ∧ e < b) ∨ e ≤ mid ∨ (mid < e ∧ b ≤ e) := by omega
              rcases h2s with ⟨h2a, h2b⟩ | h2a | ⟨h2a, h2b⟩
              · have z1 : (mid : Int) < (e : Int) := by omega
                have z2 : (e : Int) < (b : Int) := by omega
                have HC := Lib.hid (HI.out w4 l3 mid e b HS4.out.re h2a h2b hb (by omega) HU4.out.1 HU4.out.2.1 HU4.out.2.2)
                go_wp2_with fail
                all_goals
                  refine HC.out.mono ?_
                  rintro e5 w5 ⟨rfl, l4, hS5, hM5, hs5⟩
                  have HS5 := Lib.hid (HS4.out.thn hS5)
                  have HM5 := Lib.hid hM5
                  have HT5 := Lib.hid hs5
                  clear hS5 hM5 hs5 HC HS4
                  go_wp2_with fail
                  go_end0
                  exact ⟨rfl, l4, HS5.out, (HMV.out HP3.out).trans ((HM4.out.wide (Nat.le_refl _) (by omega)).trans (HM5.out.wide (by omega) (Nat.le_refl _))), HFN.out l3 l4 HM4.out HM5.out HT4.out HT5.out⟩
              · have z1 : (e : Int) ≤ (mid : Int) := by omega
                have HT5 := Lib.hid (srt_join HU4.out.1 HU4.out.2.1 (by omega))
                go_wp2_with fail
                all_goals
                  go_end0
                  exact ⟨rfl, l3, HS4.out, (HMV.out HP3.out).trans (HM4.out.wide (Nat.le_refl _) (by omega)), HFN.out l3 l3 HM4.out (Mv.refl _ _ _) HT4.out HT5.out⟩
              · have z1 : (mid : Int) < (e : Int) := by omega
                have z2 : (b : Int) ≤ (e : Int) := by omega
                have HT5 := Lib.hid (srt_join HU4.out.1 HU4.out.2.1 (by omega))
                go_wp2_with fail
                all_goals
                  go_end0
                  exact ⟨rfl, l3, HS4.out, (HMV.out HP3.out).trans (HM4.out.wide (Nat.le_refl _) (by omega)), HFN.out l3 l3 HM4.out (Mv.refl _ _ _) HT4.out HT5.out⟩
          · as_aux_lemma =>
            have k1 : (i : Int) ≤ (a : Int) := by omega
            have HS4 := HS3
            have HM4 : Hid (Mv a mid (rot l i m e) (rot l i m e)) := Lib.hid (Mv.refl _ _ _)
            have HT4 : Hid (srt (fun s => counts.getD s 0) (rot l i m e) a mid) := Lib.hid (srt_join HLP.out.1 HLP.out.2.1 (by omega))
            obtain ⟨l3, hl3⟩ : ∃ l3, l3 = rot l i m e := ⟨_, rfl⟩
            obtain ⟨HS4, HM4, HT4⟩ : Hid (SortAt w w3 gd n cap gb v counts l3) ∧ Hid (Mv a mid (rot l i m e) l3) ∧ Hid (srt (fun s => counts.getD s 0) l3 a mid) := by rw [hl3]; exact ⟨HS4, HM4, HT4⟩
            clear hl3 HS3
            obtain ⟨w4, hw4⟩ : ∃ w4, w4 = w3 := ⟨_, rfl⟩
            rw [← hw4] at HS4 ⊢
            clear hw4
            have HU4 := Lib.hid (HUP.out l3 HM4.out)
            have h2s : (mid < e ∧ e < b) ∨ e ≤ mid ∨ (mid < e ∧ b ≤ e) := by omega
            rcases h2s with ⟨h2a, h2b⟩ | h2a | ⟨h2a, h2b⟩
            · have z1 : (mid : Int) < (e : Int) := by omega
              have z2 : (e : Int) < (b : Int) := by omega
              have HC := Lib.hid (HI.out w4 l3 mid e b HS4.out.re h2a h2b hb (by omega) HU4.out.1 HU4.out.2.1 HU4.out.2.2)
              go_wp2_with fail
              all_goals
                refine HC.out.mono ?_
                rintro e5 w5 ⟨rfl, l4, hS5, hM5, hs5⟩
                have HS5 := Lib.hid (HS4.out.thn hS5)
                have HM5 := Lib.hid hM5
                have HT5 := Lib.hid hs5
                clear hS5 hM5 hs5 HC HS4
                go_wp2_with fail
                go_end0
                exact ⟨rfl, l4, HS5.out, (HMV.out HP3.out).trans ((HM4.out.wide (Nat.le_refl _) (by omega)).trans (HM5.out.wide (by omega) (Nat.le_refl _))), HFN.out l3 l4 HM4.out HM5.out HT4.out HT5.out⟩
            · have z1 : (e : Int) ≤ (mid : Int) := by omega
              have HT5 := Lib.hid (srt_join HU4.out.1 HU4.out.2.1 (by omega))
              go_wp2_with fail
              all_goals
                go_end0
                exact ⟨rfl, l3, HS4.out, (HMV.out HP3.out).trans (HM4.out.wide (Nat.le_refl _) (by omega)), HFN.out l3 l3 HM4.out (Mv.refl _ _ _) HT4.out HT5.out⟩
            · have z1 : (mid : Int) < (e : Int) := by omega
              have z2 : (b : Int) ≤ (e : Int) := by omega
              have HT5 := Lib.hid (srt_join HU4.out.1 HU4.out.2.1 (by omega))
              go_wp2_with fail
              all_goals
                go_end0
                exact ⟨rfl, l3, HS4.out, (HMV.out HP3.out).trans (HM4.out.wide (Nat.le_refl _) (by omega)), HFN.out l3 l3 HM4.out (Mv.refl _ _ _) HT4.out HT5.out⟩
          · as_aux_lemma =>
            have k1 : (a : Int) < (i : Int) := by omega
            have k2 : (mid : Int) ≤ (i : Int) := by omega
            have HS4 := HS3
            have HM4 : Hid (Mv a mid (rot l i m e) (rot l i m e)) := Lib.hid (Mv.refl _ _ _)
            have HT4 : Hid (srt (fun s => counts.getD s 0) (rot l i m e) a mid) := Lib.hid (srt_join HLP.out.1 HLP.out.2.1 (by omega))
            obtain ⟨l3, hl3⟩ : ∃ l3, l3 = rot l i m e := ⟨_, rfl⟩
            obtain ⟨HS4, HM4, HT4⟩ : Hid (SortAt w w3 gd n cap gb v counts l3) ∧ Hid (Mv a mid (rot l i m e) l3) ∧ Hid (srt (fun s => counts.getD s 0) l3 a mid) := by rw [hl3]; exact ⟨HS4, HM4, HT4⟩
            clear hl3 HS3
            obtain ⟨w4, hw4⟩ : ∃ w4, w4 = w3 := ⟨_, rfl⟩
            rw [← hw4] at HS4 ⊢
            clear hw4
            have HU4 := Lib.hid (HUP.out l3 HM4.out)
            have h2s : (mid < e ∧ e < b) ∨ e ≤ mid ∨ (mid < e ∧ b ≤ e) := by omega
            rcases h2s with ⟨h2a, h2b⟩ | h2a | ⟨h2a, h2b⟩
            · have z1 : (mid : Int) < (e : Int) := by omega
              have z2 : (e : Int) < (b : Int) := by omega
              have HC := Lib.hid (HI.out w4 l3 mid e b HS4.out.re h2a h2b hb (by omega) HU4.out.1 HU4.out.2.1 HU4.out.2.2)
              go_wp2_with fail
              all_goals
                refine HC.out.mono ?_
                rintro e5 w5 ⟨rfl, l4, hS5, hM5, hs5⟩
                have HS5 := Lib.hid (HS4.out.thn hS5)
                have HM5 := Lib.hid hM5
                have HT5 := Lib.hid hs5
                clear hS5 hM5 hs5 HC HS4
                go_wp2_with fail
                go_end0
                exact ⟨rfl, l4, HS5.out, (HMV.out HP3.out).trans ((HM4.out.wide (Nat.le_refl _) (by omega)).trans (HM5.out.wide (by omega) (Nat.le_refl _))), HFN.out l3 l4 HM4.out HM5.out HT4.out HT5.out⟩
            · have z1 : (e : Int) ≤ (mid : Int) := by omega
              have HT5 := Lib.hid (srt_join HU4.out.1 HU4.out.2.1 (by omega))
              go_wp2_with fail
              all_goals
                go_end0
                exact ⟨rfl, l3, HS4.out, (HMV.out HP3.out).trans (HM4.out.wide (Nat.le_refl _) (by omega)), HFN.out l3 l3 HM4.out (Mv.refl _ _ _) HT4.out HT5.out⟩
            · have z1 : (mid : Int) < (e : Int) := by omega
              have z2 : (b : Int) ≤ (e : Int) := by omega
              have HT5 := Lib.hid (srt_join HU4.out.1 HU4.out.2.1 (by omega))
              go_wp2_with fail
              all_goals
                go_end0
                exact ⟨rfl, l3, HS4.out, (HMV.out HP3.out).trans (HM4.out.wide (Nat.le_refl _) (by omega)), HFN.out l3 l3 HM4.out (Mv.refl _ _ _) HT4.out HT5.out⟩
        · skip
          have r1 : (i : Int) < (m : Int) := by omega
          have r2 : (e : Int) ≤ (m : Int) := by omega
          have h1s : (a < i ∧ i < mid) ∨ i ≤ a ∨ (a < i ∧ mid ≤ i) := by omega
          rcases h1s with ⟨h1a, h1b⟩ | h1a | ⟨h1a, h1b⟩
          · as_aux_lemma =>
            have k1 : (a : Int) < (i : Int) := by omega
            have k2 : (i : Int) < (mid : Int) := by omega
            have HC := Lib.hid (HI.out w3 (rot l i m e) a i mid HS3.out.re h1a h1b (by omega) (by omega) HLP.out.1 HLP.out.2.1 HLP.out.2.2)
            go_wp2_with fail
            all_goals
              refine HC.out.mono ?_
              rintro e4 w4 ⟨rfl, l3, hS4, hM4, hs4⟩
              have HS4 := Lib.hid (HS3.out.thn hS4)
              have HM4 := Lib.hid hM4
              have HT4 := Lib.hid hs4
              clear hS4 hM4 hs4 HC HS3
              have HU4 := Lib.hid (HUP.out l3 HM4.out)
              have h2s : (mid < e ∧ e < b) ∨ e ≤ mid ∨ (mid < e ∧ b ≤ e) := by omega
              rcases h2s with ⟨h2a, h2b⟩ | h2a | ⟨h2a, h2b⟩
              · have z1 : (mid : Int) < (e : Int) := by omega
                have z2 : (e : Int) < (b : Int) := by omega
                have HC := Lib.hid (HI.out w4 l3 mid e b HS4.out.re h2a h2b hb (by omega) HU4.out.1 HU4.out.2.1 HU4.out.2.2)
                go_wp2_with fail
                all_goals
                  refine HC.out.mono ?_
                  rintro e5 w5 ⟨rfl, l4, hS5, hM5, hs5⟩
                  have HS5 := Lib.hid (HS4.out.thn hS5)
                  have HM5 := Lib.hid hM5
                  have HT5 := Lib.hid hs5
                  clear hS5 hM5 hs5 HC HS4
                  go_wp2_with fail
                  go_end0
                  exact ⟨rfl, l4, HS5.out, (HMV.out HP3.out).trans ((HM4.out.wide (Nat.le_refl _) (by omega)).trans (HM5.out.wide (by omega) (Nat.le_refl _))), HFN.out l3 l4 HM4.out HM5.out HT4.out HT5.out⟩
              · have z1 : (e : Int) ≤ (mid : Int) := by omega
                have HT5 := Lib.hid (srt_join HU4.out.1 HU4.out.2.1 (by omega))
                go_wp2_with fail
                all_goals
                  go_end0
                  exact ⟨rfl, l3, HS4.out, (HMV.out HP3.out).trans (HM4.out.wide (Nat.le_refl _) (by omega)), HFN.out l3 l3 HM4.out (Mv.refl _ _ _) HT4.out HT5.out⟩
              · have z1 : (mid : Int) < (e : Int) := by omega
                have z2 : (b : Int) ≤ (e : Int) := by omega
                have HT5 := Lib.hid (srt_join HU4.out.1 HU4.out.2.1 (by omega))
                go_wp2_with fail
                all_goals
                  go_end0
                  exact ⟨rfl, l3, HS4.out, (HMV.out HP3.out).trans (HM4.out.wide (Nat.le_refl _) (by omega)), HFN.out l3 l3 HM4.out (Mv.refl _ _ _) HT4.out HT5.out⟩
          · as_aux_lemma =>
            have k1 : (i : Int) ≤ (a : Int) := by omega
            have HS4 := HS3
            have HM4 : Hid (Mv a mid (rot l i m e) (rot l i m e)) := Lib.hid (Mv.refl _ _ _)
            have HT4 : Hid (srt (fun s => counts.getD s 0) (rot l i m e) a mid) := Lib.hid (srt_join HLP.out.1 HLP.out.2.1 (by omega))
            obtain ⟨l3, hl3⟩ : ∃ l3, l3 = rot l i m e := ⟨_, rfl⟩
            obtain ⟨HS4, HM4, HT4⟩ : Hid (SortAt w w3 gd n cap gb v counts l3) ∧ Hid (Mv a mid (rot l i m e) l3) ∧ Hid (srt (fun s => counts.getD s 0) l3 a mid) := by rw [hl3]; exact ⟨HS4, HM4, HT4⟩
            clear hl3 HS3
            obtain ⟨w4, hw4⟩ : ∃ w4, w4 = w3 := ⟨_, rfl⟩
            rw [← hw4] at HS4 ⊢
            clear hw4
            have HU4 := Lib.hid (HUP.out l3 HM4.out)
            have h2s : (mid < e ∧ e < b) ∨ e ≤ mid ∨ (mid < e ∧ b ≤ e) := by omega
            rcases h2s with ⟨h2a, h2b⟩ | h2a | ⟨h2a, h2b⟩
            · have z1 : (mid : Int) < (e : Int) := by omega
              have z2 : (e : Int) < (b : Int) := by omega
              have HC := Lib.hid (HI.out w4 l3 mid e b HS4.out.re h2a h2b hb (by omega) HU4.out.1 HU4.out.2.1 HU4.out.2.2)
              go_wp2_with fail
              all_goals
                refine HC.out.mono ?_
                rintro e5 w5 ⟨rfl, l4, hS5, hM5, hs5⟩
                have HS5 := Lib.hid (HS4.out.thn hS5)
                have HM5 := Lib.hid hM5
                have HT5 := Lib.hid hs5
                clear hS5 hM5 hs5 HC HS4
                go_wp2_with fail
                go_end0
                exact ⟨rfl, l4, HS5.out, (HMV.out HP3.out).trans ((HM4.out.wide (Nat.le_refl _) (by omega)).trans (HM5.out.wide (by omega) (Nat.le_refl _))), HFN.out l3 l4 HM4.out HM5.out HT4.out HT5.out⟩
            · have z1 : (e : Int) ≤ (mid : Int) := by omega
              have HT5 := Lib.hid (srt_join HU4.out.1 HU4.out.2.1 (by omega))
              go_wp2_with fail
              all_goals
                go_end0
                exact ⟨rfl, l3, HS4.out, (HMV.out HP3.out).trans (HM4.out.wide (Nat.le_refl _) (by omega)), HFN.out l3 l3 HM4.out (Mv.refl _ _ _) HT4.out HT5.out⟩
            · have z1 : (mid : Int) < (e : Int) := by omega
              have z2 : (b : Int) ≤ (e : Int) := by omega
              have HT5 := Lib.hid (srt_join HU4.out.1 HU4.out.2.1 (by omega))
              go_wp2_with fail
              all_goals
                go_end0
                exact ⟨rfl, l3, HS4.out, (HMV.out HP3.out).trans (HM4.out.wide (Nat.le_refl _) (by omega)), HFN.out l3 l3 HM4.out (Mv.refl _ _ _) HT4.out HT5.out⟩
          · as_aux_lemma =>
            have k1 : (a : Int) < (i : Int) := by omega
            have k2 : (mid : Int) ≤ (i : Int) := by omega
            have HS4 := HS3
            have HM4 : Hid (Mv a mid (rot l i m e) (rot l i m e)) := Lib.hid (Mv.refl _ _ _)
            have HT4 : Hid (srt (fun s => counts.getD s 0) (rot l i m e) a mid) := Lib.hid (srt_join HLP.out.1 HLP.out.2.1 (by omega))
            obtain ⟨l3, hl3⟩ : ∃ l3, l3 = rot l i m e := ⟨_, rfl⟩
            obtain ⟨HS4, HM4, HT4⟩ : Hid (SortAt w w3 gd n cap gb v counts l3) ∧ Hid (Mv a mid (rot l i m e) l3) ∧ Hid (srt (fun s => counts.getD s 0) l3 a mid) := by rw [hl3]; exact ⟨HS4, HM4, HT4⟩
            clear hl3 HS3
            obtain ⟨w4, hw4⟩ : ∃ w4, w4 = w3 := ⟨_, rfl⟩
            rw [← hw4] at HS4 ⊢
            clear hw4
            have HU4 := Lib.hid (HUP.out l3 HM4.out)
            have h2s : (mid < e ∧ e < b) ∨ e ≤ mid ∨ (mid < e ∧ b ≤ e) := by omega
            rcases h2s with ⟨h2a, h2b⟩ | h2a | ⟨h2a, h2b⟩
            · have z1 : (mid : Int) < (e : Int) := by omega
              have z2 : (e : Int) < (b : Int) := by omega
              have HC := Lib.hid (HI.out w4 l3 mid e b HS4.out.re h2a h2b hb (by omega) HU4.out.1 HU4.out.2.1 HU4.out.2.2)
              go_wp2_with fail
              all_goals
                refine HC.out.mono ?_
                rintro e5 w5 ⟨rfl, l4, hS5, hM5, hs5⟩
                have HS5 := Lib.hid (HS4.out.thn hS5)
                have HM5 := Lib.hid hM5
                have HT5 := Lib.hid hs5
                clear hS5 hM5 hs5 HC HS4
                go_wp2_with fail
                go_end0
                exact ⟨rfl, l4, HS5.out, (HMV.out HP3.out).trans ((HM4.out.wide (Nat.le_refl _) (by omega)).trans (HM5.out.wide (by omega) (Nat.le_refl _))), HFN.out l3 l4 HM4.out HM5.out HT4.out HT5.out⟩
            · have z1 : (e : Int) ≤ (mid : Int) := by omega
              have HT5 := Lib.hid (srt_join HU4.out.1 HU4.out.2.1 (by omega))
              go_wp2_with fail
              all_goals
                go_end0
                exact ⟨rfl, l3, HS4.out, (HMV.out HP3.out).trans (HM4.out.wide (Nat.le_refl _) (by omega)), HFN.out l3 l3 HM4.out (Mv.refl _ _ _) HT4.out HT5.out⟩
            · have z1 : (mid : Int) < (e : Int) := by omega
              have z2 : (b : Int) ≤ (e : Int) := by omega
              have HT5 := Lib.hid (srt_join HU4.out.1 HU4.out.2.1 (by omega))
              go_wp2_with fail
              all_goals
                go_end0
                exact ⟨rfl, l3, HS4.out, (HMV.out HP3.out).trans (HM4.out.wide (Nat.le_refl _) (by omega)), HFN.out l3 l3 HM4.out (Mv.refl _ _ _) HT4.out HT5.out⟩
set_option maxRecDepth 100000 in
set_option maxHeartbeats 4000000 in
theorem symLow_walk (w : World) (gd n cap gb : Nat) (v : Value) (counts : List Int) (l : List Nat) (a m b : Nat) (hS : SortAt w w gd n cap gb v counts l) (hn : n ≤ 1099511627776) (ham : a + 1 < m) (hmb : m + 1 < b) (hb : b ≤ n)
    (hL : srt (fun s => counts.getD s 0) l a m) (hR : srt (fun s => counts.getD s 0) l m b) (hA : apt l a m b) (IH : SmHyp gd n cap gb v counts (b - a)) (hcase : m ≤ (a + b) / 2) :
    Calls Tryd.prog 91 #[.slice (some ⟨gd, 0, none⟩) n cap, .int .i64 (a : Int), .int .i64 (m : Int), .int .i64 (b : Int), .func (.func 75) #[] #[.pointer (some ⟨gb, 0, none⟩)]] w (SmPost w gd n cap gb v counts l a b) := by
  have HS := Lib.hid hS
  have HR := Lib.hid hR
  have HL := Lib.hid hL
  have HA := Lib.hid hA
  have HI := Lib.hid IH
  have HLN : Hid (l.length = n) := Lib.hid hS.len
  clear hS hR hL hA IH
  have hone : ((m : Int) - (a : Int) == 1) = false := beq_false_of_ne (by omega)
  have htwo : ((b : Int) - (m : Int) == 1) = false := beq_false_of_ne (by omega)
  obtain ⟨mid, hmid⟩ : ∃ mid, mid = (a + b) / 2 := ⟨_, rfl⟩
  rw [← hmid] at hcase
  have hmI : ((a : Int) + (b : Int)) / 2 = (mid : Int) := by omega
  have hm1 : 2 * mid ≤ a + b := by omega
  have hm2 : a + b ≤ 2 * mid + 1 := by omega
  clear hmid
  have hcI : (m : Int) ≤ (mid : Int) := by omega
  have hmd : decide (mid < m) = false := decide_eq_false (by omega)
  go_enter Tryd.func91, Tryd.ntmps91
  go_wp2_with fail
  go_loopw [20, 21, 23] (fun v20 v21 _ wr => ∃ i j : Nat, a ≤ i ∧ i ≤ j ∧ j ≤ m ∧ v20 = .int .i64 (i : Int) ∧ v21 = .int .i64 (j : Int) ∧ SortAt w wr gd n cap gb v counts l ∧
    (i = a ∨ lx (fun s => counts.getD s 0) (at0 l (i - 1)) (at0 l (mid + m - i))) ∧ (j = m ∨ lx (fun s => counts.getD s 0) (at0 l (mid + m - 1 - j)) (at0 l j))) (fun v20 v21 _ _ => (intOf v21).toNat - (intOf v20).toNat)
  case atStart => exact ⟨a, m, Nat.le_refl _, by omega, Nat.le_refl _, rfl, rfl, HS.out, .inl rfl, .inl rfl⟩
  case round =>
    clear HS
    obtain ⟨i, j, hi, hij, hj, rfl, rfl, hS, q1, q2⟩ := hrel
    have HS := Lib.hid hS
    have HQ1 := Lib.hid q1
    have HQ2 := Lib.hid q2
    clear hS q1 q2
    by_cases hlt : i < j
    · have hlti : (i : Int) < (j : Int) := by omega
      obtain ⟨h, hh⟩ : ∃ h, h = (i + j) / 2 := ⟨_, rfl⟩
      have hhi : i ≤ h ∧ h < j := by omega
      have hhI : ((i : Int) + (j : Int)) / 2 = (h : Int) := by omega
      clear hh
      obtain ⟨q, hq⟩ : ∃ q, q = mid + m - 1 - h := ⟨_, rfl⟩
      have hqI : (mid : Int) + (m : Int) - 1 - (h : Int) = (q : Int) := by omega
      have hqm : m ≤ q ∧ q < b := by omega
      have hqN : mid + m - (h + 1) = q := by omega
      have HQN := Lib.hid (And.intro hqN hq)
      clear hq hqN
      obtain ⟨c1, f1, hcap⟩ := HS.out.cell h (by omega)
      obtain ⟨c0, f0, _⟩ := HS.out.cell q (by omega)
      have hm1' := HS.out.mem (l.getD h 0) (getD_mem0 (by rw [HLN.out]; omega))
      have hm0 := HS.out.mem (l.getD q 0) (getD_mem0 (by rw [HLN.out]; omega))
      have HC := Lib.hid (fun k => byc_walk (wr.drewN k) gb v counts _ _ HS.out.box (HS.out.drewN k).sl hm0 hm1')
      have HNG := Lib.hid (cmpI_neg (counts.getD (l.getD q 0) 0) (counts.getD (l.getD h 0) 0))
      have HS2 := Lib.hid (fun m => HS.out.drewN m)
      have HXY : Hid (l.getD h 0 = at0 l h ∧ l.getD q 0 = at0 l q) := Lib.hid ⟨rfl, rfl⟩
      have HAP := Lib.hid (HA.out h q (by omega) (by omega) hqm.1 hqm.2)
      clear HS
      generalize l.getD h 0 = x at *
      generalize l.getD q 0 = y at *
      obtain ⟨cv, hcv⟩ : ∃ cv, cv = cmpI (counts.getD y 0) (counts.getD x 0) := ⟨_, rfl⟩
      rw [← hcv] at HC HNG
      clear hcv hm1' hm0
      have b0 : (h : Int) < (n : Int) := by omega
      have b1 : (q : Int) < (n : Int) := by omega
      by_cases hlt2 : cv < 0
      · have HY : Hid (lx (fun s => counts.getD s 0) (at0 l (mid + m - 1 - h)) (at0 l h)) := Lib.hid (by
            have h4 := HNG.out.1 hlt2
            rw [HXY.out.1, HXY.out.2] at h4
            rw [← HQN.out.2]; exact .inl h4)
        have hdv : decide (cv < 0) = true := decide_eq_true hlt2
        go_wp2_with fail
        go_quiet (first | (go_at_call 75; exact Calls.quiet_of (HC.out _)))
        have HS3 := Lib.hid (HS2.out nq)
        clear HS2 c1 f1 c0 f0 HC
        generalize wr.drewN nq = wz at *
        go_wp2_with fail
        exact ⟨⟨i, h, hi, by omega, by omega, rfl, rfl, HS3.out, HQ1.out, .inr HY.out⟩, by simp [intOf]; omega⟩
      · have HY : Hid (lx (fun s => counts.getD s 0) (at0 l (h + 1 - 1)) (at0 l (mid + m - (h + 1)))) := Lib.hid (by
            have h4 := fun z => hlt2 (HNG.out.2 z)
            rw [HXY.out.1, HXY.out.2] at h4
            have h5 := HAP.out
            rw [HQN.out.1, Nat.add_sub_cancel]
            have h6 := Int.not_lt.1 h4
            unfold lx; dsimp only; omega)
        have hdv : decide (cv < 0) = false := decide_eq_false hlt2
        go_wp2_with fail
        go_quiet (first | (go_at_call 75; exact Calls.quiet_of (HC.out _)))
        have HS3 := Lib.hid (HS2.out nq)
        clear HS2 c1 f1 c0 f0 HC
        generalize wr.drewN nq = wz at *
        go_wp2_with fail
        exact ⟨⟨h + 1, j, by omega, by omega, hj, by go_num, rfl, HS3.out, .inr HY.out, HQ2.out⟩, by simp [intOf]; omega⟩
    · have hij2 : j = i := by omega
      have hlti : (j : Int) ≤ (i : Int) := by omega
      have HIJ := Lib.hid hij2
      obtain ⟨e, he⟩ : ∃ e, e = mid + m - i := ⟨_, rfl⟩
      have heI : (mid : Int) + (m : Int) - (i : Int) = (e : Int) := by omega
      have hem : m ≤ e ∧ e ≤ b := by omega
      have hsm : i ≤ m ∧ a ≤ i ∧ i ≤ mid ∧ mid ≤ e := by omega
      have HE := Lib.hid he
      have HME : Hid (i + (e - m) = mid) := Lib.hid (by omega)
      have HX1 : Hid (∀ p q, a ≤ p → p < i → e ≤ q → q < b → lx (fun s => counts.getD s 0) (at0 l p) (at0 l q)) := Lib.hid (fun p q h1 h2 h3 h4 => by
          rcases HQ1.out with h5 | h5
          · omega
          · rw [← he] at h5
            have h6 : lx (fun s => counts.getD s 0) (at0 l p) (at0 l e) := by
              by_cases z : p = i - 1
              · rw [z]; exact h5
              · exact lx_trans (HL.out p (i - 1) h1 (by omega) (by omega)) h5
            by_cases z : q = e
            · rw [z]; exact h6
            · exact lx_trans h6 (HR.out e q (by omega) (by omega) h4))
      have HX2 : Hid (∀ p q, m ≤ p → p < e → i ≤ q → q < m → lx (fun s => counts.getD s 0) (at0 l p) (at0 l q)) := Lib.hid (fun p q h1 h2 h3 h4 => by
          rcases HQ2.out with h5 | h5
          · omega
          · rw [hij2, show mid + m - 1 - i = e - 1 by omega] at h5
            have h6 : lx (fun s => counts.getD s 0) (at0 l p) (at0 l i) := by
              by_cases z : p = e - 1
              · rw [z]; exact h5
              · exact lx_trans (HR.out p (e - 1) h1 (by omega) (by omega)) h5
            by_cases z : q = i
            · rw [z]; exact h6
            · exact lx_trans h6 (HL.out i q (by omega) (by omega) h4))
      have HLP := Lib.hid (lower_pre hsm.2.1 hsm.1 hem.1 hem.2 (by rw [HLN.out]; exact hb) HL.out HR.out HA.out)
      have HUP : Hid (∀ l3, Mv a (i + (e - m)) (rot l i m e) l3 → srt (fun s => counts.getD s 0) l3 (i + (e - m)) e ∧ srt (fun s => counts.getD s 0) l3 e b ∧ apt l3 (i + (e - m)) e b) := Lib.hid (fun l3 h => upper_pre hsm.2.1 hsm.1 hem.1 hem.2 (by rw [HLN.out]; exact hb) HL.out HR.out HA.out h)
      have HFN : Hid (∀ l3 l4, Mv a (i + (e - m)) (rot l i m e) l3 → Mv (i + (e - m)) b l3 l4 → srt (fun s => counts.getD s 0) l3 a (i + (e - m)) → srt (fun s => counts.getD s 0) l4 (i + (e - m)) b → srt (fun s => counts.getD s 0) l4 a b) := Lib.hid (fun l3 l4 h1 h2 h3 h4 => halves_srt hsm.2.1 hsm.1 hem.1 hem.2 (by rw [HLN.out]; exact hb) HL.out HR.out HX1.out HX2.out h1 h2 h3 h4)
      have HMV : Hid ((rot l i m e).Perm l → Mv a b l (rot l i m e)) := Lib.hid (fun h => (Mv.rot hsm.1 hem.1 (by rw [HLN.out]; omega) h).wide hsm.2.1 hem.2)
      rw [HME.out] at HLP HUP HFN
      clear HQ1 HQ2 HX1 HX2 HL HR HA hij2 he HIJ hlt hj hi hij
      by_cases hrot : i < m ∧ m < e
      · as_aux_lemma =>
        have r1 : (i : Int) < (m : Int) := by omega
        have r2 : (m : Int) < (e : Int) := by omega
        have HC := Lib.hid (rotate_walk wr gd n cap gb v (.func (.func 75) #[] #[.pointer (some ⟨gb, 0, none⟩)]) counts l i m e HS.out.re hn hrot.1 hrot.2 (by omega))
        go_wp2_with fail
        refine HC.out.mono ?_
        rintro e3 w3 ⟨rfl, hS3, hP3⟩
        have HS3 := Lib.hid (HS.out.thn hS3)
        have HP3 := Lib.hid hP3
        clear hS3 hP3 HC HS
        have h1s : (a < i ∧ i < mid) ∨ i ≤ a ∨ (a < i ∧ mid ≤ i) := by omega
        rcases h1s with ⟨h1a, h1b⟩ | h1a | ⟨h1a, h1b⟩
        · as_aux_lemma =>
          have k1 : (a : Int) < (i : Int) := by omega
          have k2 : (i : Int) < (mid : Int) := by omega
          have HC := Lib.hid (HI.out w3 (rot l i m e) a i mid HS3.out.re h1a h1b (by omega) (by omega) HLP.out.1 HLP.out.2.1 HLP.out.2.2)
          go_wp2_with fail
          all_goals
            refine HC.out.mono ?_
            rintro e4 w4 ⟨rfl, l3, hS4, hM4, hs4⟩
            have HS4 := Lib.hid (HS3.out.thn hS4)
            have HM4 := Lib.hid hM4
            have HT4 := Lib.hid hs4
            clear hS4 hM4 hs4 HC HS3
            have HU4 := Lib.hid (HUP.out l3 HM4.out)
            have h2s : (mid < e ∧ e < b) ∨ e ≤ mid ∨ (mid < e ∧ b ≤ e) := by omega
            rcases h2s with ⟨h2a, h2b⟩ | h2a | ⟨h2a, h2b⟩
            · have z1 : (mid : Int) < (e : Int) := by omega
              have z2 : (e : Int) < (b : Int) := by omega
              have HC := Lib.hid (HI.out w4 l3 mid e b HS4.out.re h2a h2b hb (by omega) HU4.out.1 HU4.out.2.1 HU4.out.2.2)
              go_wp2_with fail
              all_goals
                refine HC.out.mono ?_
                rintro e5 w5 ⟨rfl, l4, hS5, hM5, hs5⟩
                have HS5 := Lib.hid (HS4.out.thn hS5)
                have HM5 := Lib.hid hM5
                have HT5 := Lib.hid hs5
                clear hS5 hM5 hs5 HC HS4
                go_wp2_with fail
                go_end0
                exact ⟨rfl, l4, HS5.out, (HMV.out HP3.out).trans ((HM4.out.wide (Nat.le_refl _) (by omega)).trans (HM5.out.wide (by omega) (Nat.le_refl _))), HFN.out l3 l4 HM4.out HM5.out HT4.out HT5.out⟩
            · have z1 : (e : Int) ≤ (mid : Int) := by omega
              have HT5 := Lib.hid (srt_join HU4.out.1 HU4.out.2.1 (by omega))
              go_wp2_with fail
              all_goals
                go_end0
                exact ⟨rfl, l3, HS4.out, (HMV.out HP3.out).trans (HM4.out.wide (Nat.le_refl _) (by omega)), HFN.out l3 l3 HM4.out (Mv.refl _ _ _) HT4.out HT5.out⟩
            · have z1 : (mid : Int) < (e : Int) := by omega
              have z2 : (b : Int) ≤ (e : Int) := by omega
              have HT5 := Lib.hid (srt_join HU4.out.1 HU4.out.2.1 (by omega))
              go_wp2_with fail
              all_goals
                go_end0
                exact ⟨rfl, l3, HS4.out, (HMV.out HP3.out).trans (HM4.out.wide (Nat.le_refl _) (by omega)), HFN.out l3 l3 HM4.out (Mv.refl _ _ _) HT4.out HT5.out⟩
        · as_aux_lemma =>
          have k1 : (i : Int) ≤ (a : Int) := by omega
          have HS4 := HS3
          have HM4 : Hid (Mv a mid (rot l i m e) (rot l i m e)) := Lib.hid (Mv.refl _ _ _)
          have HT4 : Hid (srt (fun s => counts.getD s 0) (rot l i m e) a mid) := Lib.hid (srt_join HLP.out.1 HLP.out.2.1 (by omega))
          obtain ⟨l3, hl3⟩ : ∃ l3, l3 = rot l i m e := ⟨_, rfl⟩
          obtain ⟨HS4, HM4, HT4⟩ : Hid (SortAt w w3 gd n cap gb v counts l3) ∧ Hid (Mv a mid (rot l i m e) l3) ∧ Hid (srt (fun s => counts.getD s 0) l3 a mid) := by rw [hl3]; exact ⟨HS4, HM4, HT4⟩
          clear hl3 HS3
          obtain ⟨w4, hw4⟩ : ∃ w4, w4 = w3 := ⟨_, rfl⟩
          rw [← hw4] at HS4 ⊢
          clear hw4
          have HU4 := Lib.hid (HUP.out l3 HM4.out)
          have h2s : (mid < e ∧ e < b) ∨ e ≤ mid ∨ (mid < e ∧ b ≤ e) := by omega
          rcases h2s with ⟨h2a, h2b⟩ | h2a | ⟨h2a, h2b⟩
          · have z1 : (mid : Int) < (e : Int) := by omega
            have z2 : (e : Int) < (b : Int) := by omega
            have HC := Lib.hid (HI.out w4 l3 mid e b HS4.out.re h2a h2b hb (by omega) HU4.out.1 HU4.out.2.1 HU4.out.2.2)
            go_wp2_with fail
            all_goals
              refine HC.out.mono ?_
              rintro e5 w5 ⟨rfl, l4, hS5, hM5, hs5⟩
              have HS5 := Lib.hid (HS4.out.thn hS5)
              have HM5 := Lib.hid hM5
              have HT5 := Lib.hid hs5
              clear hS5 hM5 hs5 HC HS4
              go_wp2_with fail
              go_end0
              exact ⟨rfl, l4, HS5.out, (HMV.out HP3.out).trans ((HM4.out.wide (Nat.le_refl _) (by omega)).trans (HM5.out.wide (by omega) (Nat.le_refl _))), HFN.out l3 l4 HM4.out HM5.out HT4.out HT5.out⟩
          · have z1 : (e : Int) ≤ (mid : Int) := by omega
            have HT5 := Lib.hid (srt_join HU4.out.1 HU4.out.2.1 (by omega))
            go_wp2_with fail
            all_goals
              go_end0
              exact ⟨rfl, l3, HS4.out, (HMV.out HP3.out).trans (HM4.out.wide (Nat.le_refl _) (by omega)), HFN.out l3 l3 HM4.out (Mv.refl _ _ _) HT4.out HT5.out⟩
          · have z1 : (mid : Int) < (e : Int) := by omega
            have z2 : (b : Int) ≤ (e : Int) := by omega
            have HT5 := Lib.hid (srt_join HU4.out.1 HU4.out.2.1 (by omega))
            go_wp2_with fail
            all_goals
              go_end0
              exact ⟨rfl, l3, HS4.out, (HMV.out HP3.out).trans (HM4.out.wide (Nat.le_refl _) (by omega)), HFN.out l3 l3 HM4.out (Mv.refl _ _ _) HT4.out HT5.out⟩
        · as_aux_lemma =>
          have k1 : (a : Int) < (i : Int) := by omega
          have k2 : (mid : Int) ≤ (i : Int) := by omega
          have HS4 := HS3
          have HM4 : Hid (Mv a mid (rot l i m e) (rot l i m e)) := Lib.hid (Mv.refl _ _ _)
          have HT4 : Hid (srt (fun s => counts.getD s 0) (rot l i m e) a mid) := Lib.hid (srt_join HLP.out.1 HLP.out.2.1 (by omega))
          obtain ⟨l3, hl3⟩ : ∃ l3, l3 = rot l i m e := ⟨_, rfl⟩
          obtain ⟨HS4, HM4, HT4⟩ : Hid (SortAt w w3 gd n cap gb v counts l3) ∧ Hid (Mv a mid (rot l i m e) l3) ∧ Hid (srt (fun s => counts.getD s 0) l3 a mid) := by rw [hl3]; exact ⟨HS4, HM4, HT4⟩
          clear hl3 HS3
          obtain ⟨w4, hw4⟩ : ∃ w4, w4 = w3 := ⟨_, rfl⟩
          rw [← hw4] at HS4 ⊢
          clear hw4
          have HU4 := Lib.hid (HUP.out l3 HM4.out)
          have h2s : (mid < e ∧ e < b) ∨ e ≤ mid ∨ (mid < e ∧ b ≤ e) := by omega
          rcases h2s with ⟨h2a, h2b⟩ | h2a | ⟨h2a, h2b⟩
          · have z1 : (mid : Int) < (e : Int) := by omega
            have z2 : (e : Int) < (b : Int) := by omega
            have HC := Lib.hid (HI.out w4 l3 mid e b HS4.out.re h2a h2b hb (by omega) HU4.out.1 HU4.out.2.1 HU4.out.2.2)
            go_wp2_with fail
            all_goals
              refine HC.out.mono ?_
              rintro e5 w5 ⟨rfl, l4, hS5, hM5, hs5⟩
              have HS5 := Lib.hid (HS4.out.thn hS5)
              have HM5 := Lib.hid hM5
              have HT5 := Lib.hid hs5
              clear hS5 hM5 hs5 HC HS4
              go_wp2_with fail
              go_end0
              exact ⟨rfl, l4, HS5.out, (HMV.out HP3.out).trans ((HM4.out.wide (Nat.le_refl _) (by omega)).trans (HM5.out.wide (by omega) (Nat.le_refl _))), HFN.out l3 l4 HM4.out HM5.out HT4.out HT5.out⟩
          · have z1 : (e : Int) ≤ (mid : Int) := by omega
            have HT5 := Lib.hid (srt_join HU4.out.1 HU4.out.2.1 (by omega))
            go_wp2_with fail
            all_goals
              go_end0
              exact ⟨rfl, l3, HS4.out, (HMV.out HP3.out).trans (HM4.out.wide (Nat.le_refl _) (by omega)), HFN.out l3 l3 HM4.out (Mv.refl _ _ _) HT4.out HT5.out⟩
          · have z1 : (mid : Int) < (e : Int) := by omega
            have z2 : (b : Int) ≤ (e : Int) := by omega
            have HT5 := Lib.hid (srt_join HU4.out.1 HU4.out.2.1 (by omega))
            go_wp2_with fail
            all_goals
              go_end0
              exact ⟨rfl, l3, HS4.out, (HMV.out HP3.out).trans (HM4.out.wide (Nat.le_refl _) (by omega)), HFN.out l3 l3 HM4.out (Mv.refl _ _ _) HT4.out HT5.out⟩
      · as_aux_lemma =>
        have HRE : Hid (rot l i m e = l) := Lib.hid (by
            by_cases z : e = m
            · rw [z]; exact rot_left _ _ _ (by rw [HLN.out]; omega)
            · rw [show i = m by omega]; exact rot_right _ _ _ hem.1 (by rw [HLN.out]; omega))
        have HS3 : Hid (SortAt w wr gd n cap gb v counts (rot l i m e)) := Lib.hid (by rw [HRE.out]; exact HS.out)
        have HP3 : Hid ((rot l i m e).Perm l) := Lib.hid (by rw [HRE.out])
        clear HS HRE
        have hrot2 : m ≤ i ∨ (i < m ∧ e ≤ m) := by omega
        obtain ⟨w3, hw3⟩ : ∃ w3, w3 = wr := ⟨_, rfl⟩
        rw [← hw3] at HS3 ⊢
        clear hw3
        rcases hrot2 with hr2 | ⟨hr2, hr3⟩
        · skip
          have r1 : (m : Int) ≤ (i : Int) := by omega
          have h1s : (a < i ∧ i < mid) ∨ i ≤ a ∨ (a < i ∧ mid ≤ i) := by omega
          rcases h1s with ⟨h1a, h1b⟩ | h1a | ⟨h1a, h1b⟩
          · as_aux_lemma =>
            have k1 : (a : Int) < (i : Int) := by omega
            have k2 : (i : Int) < (mid : Int) := by omega
            have HC := Lib.hid (HI.out w3 (rot l i m e) a i mid HS3.out.re h1a h1b (by omega) (by omega) HLP.out.1 HLP.out.2.1 HLP.out.2.2)
            go_wp2_with fail
            all_goals
              refine HC.out.mono ?_
              rintro e4 w4 ⟨rfl, l3, hS4, hM4, hs4⟩
              have HS4 := Lib.hid (HS3.out.thn hS4)
              have HM4 := Lib.hid hM4
              have HT4 := Lib.hid hs4
              clear hS4 hM4 hs4 HC HS3
              have HU4 := Lib.hid (HUP.out l3 HM4.out)
              have h2s : (mid < e ∧ e < b) ∨ e ≤ mid ∨ (mid < e ∧ b ≤ e) := by omega
              rcases h2s with ⟨h2a, h2b⟩ | h2a | ⟨h2a, h2b⟩
              · have z1 : (mid : Int) < (e : Int) := by omega
                have z2 : (e : Int) < (b : Int) := by omega
                have HC := Lib.hid (HI.out w4 l3 mid e b HS4.out.re h2a h2b hb (by omega) HU4.out.1 HU4.out.2.1 HU4.out.2.2)
                go_wp2_with fail
                all_goals
                  refine HC.out.mono ?_
                  rintro e5 w5 ⟨rfl, l4, hS5, hM5, hs5⟩
                  have HS5 := Lib.hid (HS4.out.thn hS5)
                  have HM5 := Lib.hid hM5
                  have HT5 := Lib.hid hs5
                  clear hS5 hM5 hs5 HC HS4
                  go_wp2_with fail
                  go_end0
                  exact ⟨rfl, l4, HS5.out, (HMV.out HP3.out).trans ((HM4.out.wide (Nat.le_refl _) (by omega)).trans (HM5.out.wide (by omega) (Nat.le_refl _))), HFN.out l3 l4 HM4.out HM5.out HT4.out HT5.out⟩
              · have z1 : (e : Int) ≤ (mid : Int) := by omega
                have HT5 := Lib.hid (srt_join HU4.out.1 HU4.out.2.1 (by omega))
                go_wp2_with fail
                all_goals
                  go_end0
                  exact ⟨rfl, l3, HS4.out, (HMV.out HP3.out).trans (HM4.out.wide (Nat.le_refl _) (by omega)), HFN.out l3 l3 HM4.out (Mv.refl _ _ _) HT4.out HT5.out⟩
              · have z1 : (mid : Int) < (e : Int) := by omega
                have z2 : (b : Int) ≤ (e : Int) := by omega
                have HT5 := Lib.hid (srt_join HU4.out.1 HU4.out.2.1 (by omega))
                go_wp2_with fail
                all_goals
                  go_end0
                  exact ⟨rfl, l3, HS4.out, (HMV.out HP3.out).trans (HM4.out.wide (Nat.le_refl _) (by omega)), HFN.out l3 l3 HM4.out (Mv.refl _ _ _) HT4.out HT5.out⟩
          · as_aux_lemma =>
            have k1 : (i : Int) ≤ (a : Int) := by omega
            have HS4 := HS3
            have HM4 : Hid (Mv a mid (rot l i m e) (rot l i m e)) := Lib.hid (Mv.refl _ _ _)
            have HT4 : Hid (srt (fun s => counts.getD s 0) (rot l i m e) a mid) := Lib.hid (srt_join HLP.out.1 HLP.out.2.1 (by omega))
            obtain ⟨l3, hl3⟩ : ∃ l3, l3 = rot l i m e := ⟨_, rfl⟩
            obtain ⟨HS4, HM4, HT4⟩ : Hid (SortAt w w3 gd n cap gb v counts l3) ∧ Hid (Mv a mid (rot l i m e) l3) ∧ Hid (srt (fun s => counts.getD s 0) l3 a mid) := by rw [hl3]; exact ⟨HS4, HM4, HT4⟩
            clear hl3 HS3
            obtain ⟨w4, hw4⟩ : ∃ w4, w4 = w3 := ⟨_, rfl⟩
            rw [← hw4] at HS4 ⊢
            clear hw4
            have HU4 := Lib.hid (HUP.out l3 HM4.out)
            have h2s : (mid < e ∧ e < b) ∨ e ≤ mid ∨ (mid < e ∧ b ≤ e) := by omega
            rcases h2s with ⟨h2a, h2b⟩ | h2a | ⟨h2a, h2b⟩
            · have z1 : (mid : Int) < (e : Int) := by omega
              have z2 : (e : Int) < (b : Int) := by omega
              have HC := Lib.hid (HI.out w4 l3 mid e b HS4.out.re h2a h2b hb (by omega) HU4.out.1 HU4.out.2.1 HU4.out.2.2)
              go_wp2_with fail
              all_goals
                refine HC.out.mono ?_
                rintro e5 w5 ⟨rfl, l4, hS5, hM5, hs5⟩
                have HS5 := Lib.hid (HS4.out.thn hS5)
                have HM5 := Lib.hid hM5
                have HT5 := Lib.hid hs5
                clear hS5 hM5 hs5 HC HS4
                go_wp2_with fail
                go_end0
                exact ⟨rfl, l4, HS5.out, (HMV.out HP3.out).trans ((HM4.out.wide (Nat.le_refl _) (by omega)).trans (HM5.out.wide (by omega) (Nat.le_refl _))), HFN.out l3 l4 HM4.out HM5.out HT4.out HT5.out⟩
            · have z1 : (e : Int) ≤ (mid : Int) := by omega
              have HT5 := Lib.hid (srt_join HU4.out.1 HU4.out.2.1 (by omega))
              go_wp2_with fail
              all_goals
                go_end0
                exact ⟨rfl, l3, HS4.out, (HMV.out HP3.out).trans (HM4.out.wide (Nat.le_refl _) (by omega)), HFN.out l3 l3 HM4.out (Mv.refl _ _ _) HT4.out HT5.out⟩
            · have z1 : (mid : Int) < (e : Int) := by omega
              have z2 : (b : Int) ≤ (e : Int) := by omega
              have HT5 := Lib.hid (srt_join HU4.out.1 HU4.out.2.1 (by omega))
              go_wp2_with fail
              all_goals
                go_end0
                exact ⟨rfl, l3, HS4.out, (HMV.out HP3.out).trans (HM4.out.wide (Nat.le_refl _) (by omega)), HFN.out l3 l3 HM4.out (Mv.refl _ _ _) HT4.out HT5.out⟩
          · as_aux_lemma =>
            have k1 : (a : Int) < (i : Int) := by omega
            have k2 : (mid : Int) ≤ (i : Int) := by omega
            have HS4 := HS3
            have HM4 : Hid (Mv a mid (rot l i m e) (rot l i m e)) := Lib.hid (Mv.refl _ _ _)
            have HT4 : Hid (srt (fun s => counts.getD s 0) (rot l i m e) a mid) := Lib.hid (srt_join HLP.out.1 HLP.out.2.1 (by omega))
            obtain ⟨l3, hl3⟩ : ∃ l3, l3 = rot l i m e := ⟨_, rfl⟩
            obtain ⟨HS4, HM4, HT4⟩ : Hid (SortAt w w3 gd n cap gb v counts l3) ∧ Hid (Mv a mid (rot l i m e) l3) ∧ Hid (srt (fun s => counts.getD s 0) l3 a mid) := by rw [hl3]; exact ⟨HS4, HM4, HT4⟩
            clear hl3 HS3
            obtain ⟨w4, hw4⟩ : ∃ w4, w4 = w3 := ⟨_, rfl⟩
            rw [← hw4] at HS4 ⊢
            clear hw4
            have HU4 := Lib.hid (HUP.out l3 HM4.out)
            have h2s : (mid < e ∧ e < b) ∨ e ≤ mid ∨ (mid < e ∧ b ≤ e) := by omega
            rcases h2s with ⟨h2a, h2b⟩ | h2a | ⟨h2a, h2b⟩
            · have z1 : (mid : Int) < (e : Int) := by omega
              have z2 : (e : Int) < (b : Int) := by omega
              have HC := Lib.hid (HI.out w4 l3 mid e b HS4.out.re h2a h2b hb (by omega) HU4.out.1 HU4.out.2.1 HU4.out.2.2)
              go_wp2_with fail
              all_goals
                refine HC.out.mono ?_
                rintro e5 w5 ⟨rfl, l4, hS5, hM5, hs5⟩
                have HS5 := Lib.hid (HS4.out.thn hS5)
                have HM5 := Lib.hid hM5
                have HT5 := Lib.hid hs5
                clear hS5 hM5 hs5 HC HS4
                go_wp2_with fail
                go_end0
                exact ⟨rfl, l4, HS5.out, (HMV.out HP3.out).trans ((HM4.out.wide (Nat.le_refl _) (by omega)).trans (HM5.out.wide (by omega) (Nat.le_refl _))), HFN.out l3 l4 HM4.out HM5.out HT4.out HT5.out⟩
            · have z1 : (e : Int) ≤ (mid : Int) := by omega
              have HT5 := Lib.hid (srt_join HU4.out.1 HU4.out.2.1 (by omega))
              go_wp2_with fail
              all_goals
                go_end0
                exact ⟨rfl, l3, HS4.out, (HMV.out HP3.out).trans (HM4.out.wide (Nat.le_refl _) (by omega)), HFN.out l3 l3 HM4.out (Mv.refl _ _ _) HT4.out HT5.out⟩
            · have z1 : (mid : Int) < (e : Int) := by omega
              have z2 : (b : Int) ≤ (e : Int) := by omega
              have HT5 := Lib.hid (srt_join HU4.out.1 HU4.out.2.1 (by omega))
              go_wp2_with fail
              all_goals
                go_end0
                exact ⟨rfl, l3, HS4.out, (HMV.out HP3.out).trans (HM4.out.wide (Nat.le_refl _) (by omega)), HFN.out l3 l3 HM4.out (Mv.refl _ _ _) HT4.out HT5.out⟩
        · skip
          have r1 : (i : Int) < (m : Int) := by omega
          have r2 : (e : Int) ≤ (m : Int) := by omega
          have h1s : (a < i ∧ i < mid) ∨ i ≤ a ∨ (a < i ∧ mid ≤ i) := by omega
          rcases h1s with ⟨h1a, h1b⟩ | h1a | ⟨h1a, h1b⟩
          · as_aux_lemma =>
            have k1 : (a : Int) < (i : Int) := by omega
            have k2 : (i : Int) < (mid : Int) := by omega
            have HC := Lib.hid (HI.out w3 (rot l i m e) a i mid HS3.out.re h1a h1b (by omega) (by omega) HLP.out.1 HLP.out.2.1 HLP.out.2.2)
            go_wp2_with fail
            all_goals
              refine HC.out.mono ?_
              rintro e4 w4 ⟨rfl, l3, hS4, hM4, hs4⟩
              have HS4 := Lib.hid (HS3.out.thn hS4)
              have HM4 := Lib.hid hM4
              have HT4 := Lib.hid hs4
              clear hS4 hM4 hs4 HC HS3
              have HU4 := Lib.hid (HUP.out l3 HM4.out)
              have h2s : (mid < e ∧ e < b) ∨ e ≤ mid ∨ (mid < e ∧ b ≤ e) := by omega
              rcases h2s with ⟨h2a, h2b⟩ | h2a | ⟨h2a, h2b⟩
              · have z1 : (mid : Int) < (e : Int) := by omega
                have z2 : (e : Int) < (b : Int) := by omega
                have HC := Lib.hid (HI.out w4 l3 mid e b HS4.out.re h2a h2b hb (by omega) HU4.out.1 HU4.out.2.1 HU4.out.2.2)
                go_wp2_with fail
                all_goals
                  refine HC.out.mono ?_
                  rintro e5 w5 ⟨rfl, l4, hS5, hM5, hs5⟩
                  have HS5 := Lib.hid (HS4.out.thn hS5)
                  have HM5 := Lib.hid hM5
                  have HT5 := Lib.hid hs5
                  clear hS5 hM5 hs5 HC HS4
                  go_wp2_with fail
                  go_end0
                  exact ⟨rfl, l4, HS5.out, (HMV.out HP3.out).trans ((HM4.out.wide (Nat.le_refl _) (by omega)).trans (HM5.out.wide (by omega) (Nat.le_refl _))), HFN.out l3 l4 HM4.out HM5.out HT4.out HT5.out⟩
              · have z1 : (e : Int) ≤ (mid : Int) := by omega
                have HT5 := Lib.hid (srt_join HU4.out.1 HU4.out.2.1 (by omega))
                go_wp2_with fail
                all_goals
                  go_end0
                  exact ⟨rfl, l3, HS4.out, (HMV.out HP3.out).trans (HM4.out.wide (Nat.le_refl _) (by omega)), HFN.out l3 l3 HM4.out (Mv.refl _ _ _) HT4.out HT5.out⟩
              · have z1 : (mid : Int) < (e : Int) := by omega
                have z2 : (b : Int) ≤ (e : Int) := by omega
                have HT5 := Lib.hid (srt_join HU4.out.1 HU4.out.2.1 (by omega))
                go_wp2_with fail
                all_goals
                  go_end0
                  exact ⟨rfl, l3, HS4.out, (HMV.out HP3.out).trans (HM4.out.wide (Nat.le_refl _) (by omega)), HFN.out l3 l3 HM4.out (Mv.refl _ _ _) HT4.out HT5.out⟩
          · as_aux_lemma =>
            have k1 : (i : Int) ≤ (a : Int) := by omega
            have HS4 := HS3
            have HM4 : Hid (Mv a mid (rot l i m e) (rot l i m e)) := Lib.hid (Mv.refl _ _ _)
            have HT4 : Hid (srt (fun s => counts.getD s 0) (rot l i m e) a mid) := Lib.hid (srt_join HLP.out.1 HLP.out.2.1 (by omega))
            obtain ⟨l3, hl3⟩ : ∃ l3, l3 = rot l i m e := ⟨_, rfl⟩
            obtain ⟨HS4, HM4, HT4⟩ : Hid (SortAt w w3 gd n cap gb v counts l3) ∧ Hid (Mv a mid (rot l i m e) l3) ∧ Hid (srt (fun s => counts.getD s 0) l3 a mid) := by rw [hl3]; exact ⟨HS4, HM4, HT4⟩
            clear hl3 HS3
            obtain ⟨w4, hw4⟩ : ∃ w4, w4 = w3 := ⟨_, rfl⟩
            rw [← hw4] at HS4 ⊢
            clear hw4
            have HU4 := Lib.hid (HUP.out l3 HM4.out)
            have h2s : (mid < e ∧ e < b) ∨ e ≤ mid ∨ (mid < e ∧ b ≤ e) := by omega
            rcases h2s with ⟨h2a, h2b⟩ | h2a | ⟨h2a, h2b⟩
            · have z1 : (mid : Int) < (e : Int) := by omega
              have z2 : (e : Int) < (b : Int) := by omega
              have HC := Lib.hid (HI.out w4 l3 mid e b HS4.out.re h2a h2b hb (by omega) HU4.out.1 HU4.out.2.1 HU4.out.2.2)
              go_wp2_with fail
              all_goals
                refine HC.out.mono ?_
                rintro e5 w5 ⟨rfl, l4, hS5, hM5, hs5⟩
                have HS5 := Lib.hid (HS4.out.thn hS5)
                have HM5 := Lib.hid hM5
                have HT5 := Lib.hid hs5
                clear hS5 hM5 hs5 HC HS4
                go_wp2_with fail
                go_end0
                exact ⟨rfl, l4, HS5.out, (HMV.out HP3.out).trans ((HM4.out.wide (Nat.le_refl _) (by omega)).trans (HM5.out.wide (by omega) (Nat.le_refl _))), HFN.out l3 l4 HM4.out HM5.out HT4.out HT5.out⟩
            · have z1 : (e : Int) ≤ (mid : Int) := by omega
              have HT5 := Lib.hid (srt_join HU4.out.1 HU4.out.2.1 (by omega))
              go_wp2_with fail
              all_goals
                go_end0
                exact ⟨rfl, l3, HS4.out, (HMV.out HP3.out).trans (HM4.out.wide (Nat.le_refl _) (by omega)), HFN.out l3 l3 HM4.out (Mv.refl _ _ _) HT4.out HT5.out⟩
            · have z1 : (mid : Int) < (e : Int) := by omega
              have z2 : (b : Int) ≤ (e : Int) := by omega
              have HT5 := Lib.hid (srt_join HU4.out.1 HU4.out.2.1 (by omega))
              go_wp2_with fail
              all_goals
                go_end0
                exact ⟨rfl, l3, HS4.out, (HMV.out HP3.out).trans (HM4.out.wide (Nat.le_refl _) (by omega)), HFN.out l3 l3 HM4.out (Mv.refl _ _ _) HT4.out HT5.out⟩
          · as_aux_lemma =>
            have k1 : (a : Int) < (i : Int) := by omega
            have k2 : (mid : Int) ≤ (i : Int) := by omega
            have HS4 := HS3
            have HM4 : Hid (Mv a mid (rot l i m e) (rot l i m e)) := Lib.hid (Mv.refl _ _ _)
            have HT4 : Hid (srt (fun s => counts.getD s 0) (rot l i m e) a mid) := Lib.hid (srt_join HLP.out.1 HLP.out.2.1 (by omega))
            obtain ⟨l3, hl3⟩ : ∃ l3, l3 = rot l i m e := ⟨_, rfl⟩
            obtain ⟨HS4, HM4, HT4⟩ : Hid (SortAt w w3 gd n cap gb v counts l3) ∧ Hid (Mv a mid (rot l i m e) l3) ∧ Hid (srt (fun s => counts.getD s 0) l3 a mid) := by rw [hl3]; exact ⟨HS4, HM4, HT4⟩
            clear hl3 HS3
            obtain ⟨w4, hw4⟩ : ∃ w4, w4 = w3 := ⟨_, rfl⟩
            rw [← hw4] at HS4 ⊢
            clear hw4
            have HU4 := Lib.hid (HUP.out l3 HM4.out)
            have h2s : (mid < e ∧ e < b) ∨ e ≤ mid ∨ (mid < e ∧ b ≤ e) := by omega
            rcases h2s with ⟨h2a, h2b⟩ | h2a | ⟨h2a, h2b⟩
            · have z1 : (mid : Int) < (e : Int) := by omega
              have z2 : (e : Int) < (b : Int) := by omega
              have HC := Lib.hid (HI.out w4 l3 mid e b HS4.out.re h2a h2b hb (by omega) HU4.out.1 HU4.out.2.1 HU4.out.2.2)
              go_wp2_with fail
              all_goals
                refine HC.out.mono ?_
                rintro e5 w5 ⟨rfl, l4, hS5, hM5, hs5⟩
                have HS5 := Lib.hid (HS4.out.thn hS5)
                have HM5 := Lib.hid hM5
                have HT5 := Lib.hid hs5
                clear hS5 hM5 hs5 HC HS4
                go_wp2_with fail
                go_end0
                exact ⟨rfl, l4, HS5.out, (HMV.out HP3.out).trans ((HM4.out.wide (Nat.le_refl _) (by omega)).trans (HM5.out.wide (by omega) (Nat.le_refl _))), HFN.out l3 l4 HM4.out HM5.out HT4.out HT5.out⟩
            · have z1 : (e : Int) ≤ (mid : Int) := by omega
              have HT5 := Lib.hid (srt_join HU4.out.1 HU4.out.2.1 (by omega))
              go_wp2_with fail
              all_goals
                go_end0
                exact ⟨rfl, l3, HS4.out, (HMV.out HP3.out).trans (HM4.out.wide (Nat.le_refl _) (by omega)), HFN.out l3 l3 HM4.out (Mv.refl _ _ _) HT4.out HT5.out⟩
            · have z1 : (mid : Int) < (e : Int) := by omega
              have z2 : (b : Int) ≤ (e : Int) := by omega
              have HT5 := Lib.hid (srt_join HU4.out.1 HU4.out.2.1 (by omega))
              go_wp2_with fail
              all_goals
                go_end0
                exact ⟨rfl, l3, HS4.out, (HMV.out HP3.out).trans (HM4.out.wide (Nat.le_refl _) (by omega)), HFN.out l3 l3 HM4.out (Mv.refl _ _ _) HT4.out HT5.out⟩
end Go.Proofs.YtphdcgioeokfbaaDoor
