/-
  Merged, in the order in which they build: SymA.
-/
import Derived.Test.YtphdcgioeokfbaaDoorMg18
/-
  symMergeCmpFunc, where one part is of one element.
-/
namespace Go.Proofs.YtphdcgioeokfbaaDoor
open Go.RowKit Hf

def SmPost (w : World) (gd n cap gb : Nat) (v : Value) (counts : List Int) (l : List Nat) (a b : Nat) (e : Ending) (w' : World) : Prop :=
  e = .returned (.tuple #[]) ∧ ∃ l', SortAt w w' gd n cap gb v counts l' ∧ Mv a b l l' ∧ srt (fun s => counts.getD s 0) l' a b
theorem lx_le {c : Nat → Int} {s t : Nat} (h : lx c s t) : c s ≤ c t := by unfold lx at h; omega
theorem at0_getD (l : List Nat) (i : Nat) : l.getD i 0 = at0 l i := rfl
set_option maxRecDepth 100000 in
set_option maxHeartbeats 2000000 in
theorem symOne_walk (w : World) (gd n cap gb : Nat) (v : Value) (counts : List Int) (l : List Nat) (a b : Nat) (hS : SortAt w w gd n cap gb v counts l) (hn : n ≤ 1099511627776) (hab : a + 1 < b) (hb : b ≤ n)
    (hR : srt (fun s => counts.getD s 0) l (a + 1) b) (hA : apt l a (a + 1) b) :
    Calls Tryd.prog 91 #[.slice (some ⟨gd, 0, none⟩) n cap, .int .i64 (a : Int), .int .i64 ((a : Int) + 1), .int .i64 (b : Int), .func (.func 75) #[] #[.pointer (some ⟨gb, 0, none⟩)]] w (SmPost w gd n cap gb v counts l a b) := by
  have HS := Lib.hid hS
  have HR := Lib.hid hR
  have HA := Lib.hid hA
  have HLN : Hid (l.length = n) := Lib.hid hS.len
  clear hS hR hA
  have hone : ((a : Int) + 1 - (a : Int) == 1) = true := by rw [show (a : Int) + 1 - (a : Int) = 1 by omega]; rfl
  go_enter Tryd.func91, Tryd.ntmps91
  go_wp2_with fail
  go_loopw [10, 11, 12] (fun v10 v11 _ wr => ∃ i j : Nat, a + 1 ≤ i ∧ i ≤ j ∧ j ≤ b ∧ v10 = .int .i64 (i : Int) ∧ v11 = .int .i64 (j : Int) ∧ SortAt w wr gd n cap gb v counts l ∧
    (∀ k, a + 1 ≤ k → k < i → counts.getD (at0 l k) 0 < counts.getD (at0 l a) 0) ∧ (∀ k, j ≤ k → k < b → counts.getD (at0 l a) 0 ≤ counts.getD (at0 l k) 0)) (fun v10 v11 _ _ => (intOf v11).toNat - (intOf v10).toNat)
  case atStart => exact ⟨a + 1, b, Nat.le_refl _, by omega, Nat.le_refl _, by simp, rfl, HS.out, fun k h1 h2 => by omega, fun k h1 h2 => by omega⟩
  case round =>
    clear HS
    obtain ⟨i, j, hi, hij, hj, rfl, rfl, hS, q1, q2⟩ := hrel
    have HS := Lib.hid hS
    have HQ := Lib.hid (And.intro q1 q2)
    clear hS q1 q2
    by_cases hlt : i < j
    · have hlti : (i : Int) < (j : Int) := by omega
      obtain ⟨h, hh⟩ : ∃ h, h = (i + j) / 2 := ⟨_, rfl⟩
      have hhi : i ≤ h ∧ h < j := by omega
      have hhI : ((i : Int) + (j : Int)) / 2 = (h : Int) := by omega
      clear hh
      obtain ⟨c1, f1, hcap⟩ := HS.out.cell h (by omega)
      obtain ⟨c0, f0, _⟩ := HS.out.cell a (by omega)
      have hm1 := HS.out.mem (l.getD h 0) (getD_mem0 (by rw [HLN.out]; omega))
      have hm0 := HS.out.mem (l.getD a 0) (getD_mem0 (by rw [HLN.out]; omega))
      have HC := Lib.hid (fun m => byc_walk (wr.drewN m) gb v counts _ _ HS.out.box (HS.out.drewN m).sl hm1 hm0)
      have HNG := Lib.hid (cmpI_neg (counts.getD (l.getD h 0) 0) (counts.getD (l.getD a 0) 0))
      have HS2 := Lib.hid (fun m => HS.out.drewN m)
      have HXY : Hid (l.getD h 0 = at0 l h ∧ l.getD a 0 = at0 l a) := Lib.hid ⟨rfl, rfl⟩
      clear HS
      generalize l.getD h 0 = x at *
      generalize l.getD a 0 = y at *
      obtain ⟨cv, hcv⟩ : ∃ cv, cv = cmpI (counts.getD x 0) (counts.getD y 0) := ⟨_, rfl⟩
      rw [← hcv] at HC HNG
      clear hcv hm1 hm0
      have b0 : (h : Int) < (n : Int) := by omega
      have b1 : (a : Int) < (n : Int) := by omega
      have HD : Hid (∀ k, a + 1 ≤ k → k < b → (k ≤ h → counts.getD (at0 l k) 0 ≤ counts.getD x 0) ∧ (h ≤ k → counts.getD x 0 ≤ counts.getD (at0 l k) 0)) := Lib.hid (fun k h1 h2 => by
        rw [HXY.out.1]
        refine ⟨fun h3 => ?_, fun h3 => ?_⟩
        · by_cases he : k = h
          · rw [he]; exact Int.le_refl _
          · exact lx_le (HR.out k h h1 (by omega) (by omega))
        · by_cases he : k = h
          · rw [he]; exact Int.le_refl _
          · exact lx_le (HR.out h k (by omega) (by omega) h2))
      by_cases hlt2 : cv < 0
      · have HY : Hid (∀ k, a + 1 ≤ k → k < h + 1 → counts.getD (at0 l k) 0 < counts.getD (at0 l a) 0) := Lib.hid (fun k h1 h2 => by
          have h3 := (HD.out k h1 (by omega)).1 (by omega)
          have h4 := HNG.out.1 hlt2
          rw [HXY.out.2] at h4
          exact Int.lt_of_le_of_lt h3 h4)
        have hdv : decide (cv < 0) = true := decide_eq_true hlt2
        go_wp2_with fail
        go_quiet (first | (go_at_call 75; exact Calls.quiet_of (HC.out _)))
        have HS3 := Lib.hid (HS2.out nq)
        clear HS2 c1 f1 c0 f0 HC
        generalize wr.drewN nq = wz at *
        go_wp2_with fail
        exact ⟨⟨h + 1, j, by omega, by omega, hj, by go_num, rfl, HS3.out, HY.out, HQ.out.2⟩, by simp [intOf]; omega⟩
      · have HY : Hid (∀ k, h ≤ k → k < b → counts.getD (at0 l a) 0 ≤ counts.getD (at0 l k) 0) := Lib.hid (fun k h1 h2 => by
          have h3 := (HD.out k (by omega) h2).2 h1
          have h4 := fun q => hlt2 (HNG.out.2 q)
          rw [HXY.out.2] at h4
          exact Int.not_lt.1 fun q => h4 (Int.lt_of_le_of_lt h3 q))
        have hdv : decide (cv < 0) = false := decide_eq_false hlt2
        go_wp2_with fail
        go_quiet (first | (go_at_call 75; exact Calls.quiet_of (HC.out _)))
        have HS3 := Lib.hid (HS2.out nq)
        clear HS2 c1 f1 c0 f0 HC
        generalize wr.drewN nq = wz at *
        go_wp2_with fail
        exact ⟨⟨i, h, hi, by omega, by omega, rfl, rfl, HS3.out, HQ.out.1, HY.out⟩, by simp [intOf]; omega⟩
    · have hij2 : i = j := by omega
      have hlti : (j : Int) ≤ (i : Int) := by omega
      have HFN : Hid (srt (fun s => counts.getD s 0) (rot l a (a + 1) i) a b) := Lib.hid (rot_srt (Nat.le_refl _) (by omega) hi (by omega) (by rw [HLN.out]; exact hb) (fun p q h1 h2 h3 => by omega) HR.out (fun p q h1 h2 => by omega)
        (fun p q h1 h2 h3 h4 => by
          obtain rfl : p = a := by omega
          have h5 := HQ.out.2 q (by omega) h4
          have h6 := HA.out p q h1 h2 (by omega) h4
          unfold lx; dsimp only; omega) (fun p q h1 h2 => by omega) (fun p q h1 h2 h3 h4 => by
          obtain rfl : q = a := by omega
          exact .inl (HQ.out.1 p h1 h2)))
      clear HQ hij2
      have hr0 : rot l a (a + 1) (a + 1) = l := rot_left _ _ _ (by rw [HLN.out]; omega)
      have HR0 : Hid (SortAt w wr gd n cap gb v counts (rot l a (a + 1) (a + 1)) ∧ (rot l a (a + 1) (a + 1)).Perm l) := Lib.hid (by rw [hr0]; exact ⟨HS.out, List.Perm.refl _⟩)
      clear hr0 HS
      go_wp2_with fail
      go_loopw [13] (fun v13 wr => ∃ k : Nat, a ≤ k ∧ k + 1 ≤ i ∧ v13 = .int .i64 (k : Int) ∧ SortAt w wr gd n cap gb v counts (rot l a (a + 1) (k + 1)) ∧ (rot l a (a + 1) (k + 1)).Perm l) (fun v13 _ => i - (intOf v13).toNat)
      case atStart => exact ⟨a, Nat.le_refl _, hi, rfl, HR0.out⟩
      case round =>
        clear HR0
        obtain ⟨k, hak, hki, rfl, hS, hP⟩ := hrel
        have HS := Lib.hid hS
        have HP := Lib.hid hP
        clear hS hP
        by_cases hlk : k + 1 < i
        · have hlki : (k : Int) < (i : Int) - 1 := by omega
          obtain ⟨d0, g0, hcap⟩ := HS.out.cell k (by omega)
          obtain ⟨d1, g1, _⟩ := HS.out.cell (k + 1) (by omega)
          have HSW := Lib.hid (HS.out.swap k (k + 1) (by omega) (by omega))
          rw [rot_up l a k hak (by rw [HLN.out]; omega)] at HSW
          have HPM : Hid ((rot l a (a + 1) (k + 2)).Perm l) := Lib.hid (by
            rw [← rot_up l a k hak (by rw [HLN.out]; omega)]
            exact (swp_perm _ _ _ (by rw [rot_length, HLN.out]; omega) (by rw [rot_length, HLN.out]; omega)).trans HP.out)
          clear HS HP
          generalize (rot l a (a + 1) (k + 1)).getD k 0 = x at *
          generalize (rot l a (a + 1) (k + 1)).getD (k + 1) 0 = y at *
          have d0b : (wr.setCell ⟨gd, k + 1, none⟩ (.int .i64 (x : Int))).cell? ⟨gd, k, none⟩ = some (.int .i64 (x : Int)) := by
            rw [World.cell?_setCell_other _ _ _ _ (by intro e; simp only [Addr.mk.injEq] at e; omega)]; exact d0
          have d1b : (wr.setCell ⟨gd, k, none⟩ (.int .i64 (y : Int))).cell? ⟨gd, k + 1, none⟩ = some (.int .i64 (y : Int)) := by
            rw [World.cell?_setCell_other _ _ _ _ (by intro e; simp only [Addr.mk.injEq] at e; omega)]; exact d1
          have s1 : ((k : Int) + 1).toNat = k + 1 := by omega
          obtain ⟨a1, a2, a3⟩ : (k : Int) < (n : Int) ∧ (k : Int) + 1 < (n : Int) ∧ 0 ≤ (k : Int) + 1 := by omega
          go_wp2_with fail
          go_region
          go_wp2_with fail
          exact ⟨⟨k + 1, by omega, by omega, by go_num, HSW.out.drewN 1, HPM.out⟩, by simp [intOf]; omega⟩
        · have hki2 : k + 1 = i := by omega
          have HK := Lib.hid hki2
          have hlki : (i : Int) - 1 ≤ (k : Int) := by omega
          clear hki2
          go_wp2_with fail
          (try simp only [Exit.inBlock, Exit.then]); refine bodyPost_ret (results_none rfl _ _ _) rfl ?_
          rw [HK.out] at HS HP
          exact ⟨rfl, _, HS.out, (Mv.rot (by omega) hi (by rw [HLN.out]; omega) HP.out).wide (Nat.le_refl _) (by omega), HFN.out⟩
set_option maxRecDepth 100000 in
set_option maxHeartbeats 2000000 in
theorem symLast_walk (w : World) (gd n cap gb : Nat) (v : Value) (counts : List Int) (l : List Nat) (a m : Nat) (hS : SortAt w w gd n cap gb v counts l) (hn : n ≤ 1099511627776) (ham : a + 1 < m) (hb : m + 1 ≤ n)
    (hR : srt (fun s => counts.getD s 0) l a m) (hA : apt l a m (m + 1)) :
    Calls Tryd.prog 91 #[.slice (some ⟨gd, 0, none⟩) n cap, .int .i64 (a : Int), .int .i64 (m : Int), .int .i64 ((m : Int) + 1), .func (.func 75) #[] #[.pointer (some ⟨gb, 0, none⟩)]] w (SmPost w gd n cap gb v counts l a (m + 1)) := by
  have HS := Lib.hid hS
  have HR := Lib.hid hR
  have HA := Lib.hid hA
  have HLN : Hid (l.length = n) := Lib.hid hS.len
  clear hS hR hA
  have hone : ((m : Int) + 1 - (m : Int) == 1) = true := by rw [show (m : Int) + 1 - (m : Int) = 1 by omega]; rfl
  have htwo : ((m : Int) - (a : Int) == 1) = false := beq_false_of_ne (by omega)
  go_enter Tryd.func91, Tryd.ntmps91
  go_wp2_with fail
  go_loopw [14, 15, 16] (fun v14 v15 _ wr => ∃ i j : Nat, a ≤ i ∧ i ≤ j ∧ j ≤ m ∧ v14 = .int .i64 (i : Int) ∧ v15 = .int .i64 (j : Int) ∧ SortAt w wr gd n cap gb v counts l ∧
    (∀ k, a ≤ k → k < i → counts.getD (at0 l k) 0 ≤ counts.getD (at0 l m) 0) ∧ (∀ k, j ≤ k → k < m → counts.getD (at0 l m) 0 < counts.getD (at0 l k) 0)) (fun v14 v15 _ _ => (intOf v15).toNat - (intOf v14).toNat)
  case atStart => exact ⟨a, m, Nat.le_refl _, by omega, Nat.le_refl _, rfl, rfl, HS.out, fun k h1 h2 => by omega, fun k h1 h2 => by omega⟩
  case round =>
    clear HS
    obtain ⟨i, j, hi, hij, hj, rfl, rfl, hS, q1, q2⟩ := hrel
    have HS := Lib.hid hS
    have HQ := Lib.hid (And.intro q1 q2)
    clear hS q1 q2
    by_cases hlt : i < j
    · have hlti : (i : Int) < (j : Int) := by omega
      obtain ⟨h, hh⟩ : ∃ h, h = (i + j) / 2 := ⟨_, rfl⟩
      have hhi : i ≤ h ∧ h < j := by omega
      have hhI : ((i : Int) + (j : Int)) / 2 = (h : Int) := by omega
      clear hh
      obtain ⟨c1, f1, hcap⟩ := HS.out.cell h (by omega)
      obtain ⟨c0, f0, _⟩ := HS.out.cell m (by omega)
      have hm1 := HS.out.mem (l.getD h 0) (getD_mem0 (by rw [HLN.out]; omega))
      have hm0 := HS.out.mem (l.getD m 0) (getD_mem0 (by rw [HLN.out]; omega))
      have HC := Lib.hid (fun q => byc_walk (wr.drewN q) gb v counts _ _ HS.out.box (HS.out.drewN q).sl hm0 hm1)
      have HNG := Lib.hid (cmpI_neg (counts.getD (l.getD m 0) 0) (counts.getD (l.getD h 0) 0))
      have HS2 := Lib.hid (fun m => HS.out.drewN m)
      have HXY : Hid (l.getD h 0 = at0 l h ∧ l.getD m 0 = at0 l m) := Lib.hid ⟨rfl, rfl⟩
      clear HS
      generalize l.getD h 0 = x at *
      generalize l.getD m 0 = y at *
      obtain ⟨cv, hcv⟩ : ∃ cv, cv = cmpI (counts.getD y 0) (counts.getD x 0) := ⟨_, rfl⟩
      rw [← hcv] at HC HNG
      clear hcv hm1 hm0
      have b0 : (h : Int) < (n : Int) := by omega
      have b1 : (m : Int) < (n : Int) := by omega
      have HD : Hid (∀ k, a ≤ k → k < m → (k ≤ h → counts.getD (at0 l k) 0 ≤ counts.getD x 0) ∧ (h ≤ k → counts.getD x 0 ≤ counts.getD (at0 l k) 0)) := Lib.hid (fun k h1 h2 => by
        rw [HXY.out.1]
        refine ⟨fun h3 => ?_, fun h3 => ?_⟩
        · by_cases he : k = h
          · rw [he]; exact Int.le_refl _
          · exact lx_le (HR.out k h h1 (by omega) (by omega))
        · by_cases he : k = h
          · rw [he]; exact Int.le_refl _
          · exact lx_le (HR.out h k (by omega) (by omega) h2))
      by_cases hlt2 : cv < 0
      · have HY : Hid (∀ k, h ≤ k → k < m → counts.getD (at0 l m) 0 < counts.getD (at0 l k) 0) := Lib.hid (fun k h1 h2 => by
          have h3 := (HD.out k (by omega) h2).2 h1
          have h4 := HNG.out.1 hlt2
          rw [HXY.out.2] at h4
          exact Int.lt_of_lt_of_le h4 h3)
        have hdv : decide (cv < 0) = true := decide_eq_true hlt2
        go_wp2_with fail
        go_quiet (first | (go_at_call 75; exact Calls.quiet_of (HC.out _)))
        have HS3 := Lib.hid (HS2.out nq)
        clear HS2 c1 f1 c0 f0 HC
        generalize wr.drewN nq = wz at *
        go_wp2_with fail
        exact ⟨⟨i, h, hi, by omega, by omega, rfl, rfl, HS3.out, HQ.out.1, HY.out⟩, by simp [intOf]; omega⟩
      · have HY : Hid (∀ k, a ≤ k → k < h + 1 → counts.getD (at0 l k) 0 ≤ counts.getD (at0 l m) 0) := Lib.hid (fun k h1 h2 => by
          have h3 := (HD.out k h1 (by omega)).1 (by omega)
          have h4 := fun q => hlt2 (HNG.out.2 q)
          rw [HXY.out.2] at h4
          exact Int.not_lt.1 fun q => h4 (Int.lt_of_lt_of_le q h3))
        have hdv : decide (cv < 0) = false := decide_eq_false hlt2
        go_wp2_with fail
        go_quiet (first | (go_at_call 75; exact Calls.quiet_of (HC.out _)))
        have HS3 := Lib.hid (HS2.out nq)
        clear HS2 c1 f1 c0 f0 HC
        generalize wr.drewN nq = wz at *
        go_wp2_with fail
        exact ⟨⟨h + 1, j, by omega, by omega, hj, by go_num, rfl, HS3.out, HY.out, HQ.out.2⟩, by simp [intOf]; omega⟩
    · have hij2 : i = j := by omega
      have hlti : (j : Int) ≤ (i : Int) := by omega
      have HFN : Hid (srt (fun s => counts.getD s 0) (rot l i m (m + 1)) a (m + 1)) := Lib.hid (rot_srt hi (by omega) (by omega) (Nat.le_refl _) (by rw [HLN.out]; exact hb) HR.out (fun p q h1 h2 h3 => by omega)
        (fun p q h1 h2 h3 h4 => by
          obtain rfl : q = m := by omega
          have h5 := HQ.out.1 p h1 h2
          have h6 := HA.out p q h1 (by omega) h3 h4
          unfold lx; dsimp only; omega) (fun p q h1 h2 => by omega) (fun p q h1 h2 => by omega) (fun p q h1 h2 h3 h4 => by
          obtain rfl : p = m := by omega
          exact .inl (HQ.out.2 q (by omega) h4)))
      clear HQ hij2
      have hr0 : rot l m m (m + 1) = l := rot_right _ _ _ (by omega) (by rw [HLN.out]; omega)
      have HR0 : Hid (SortAt w wr gd n cap gb v counts (rot l m m (m + 1)) ∧ (rot l m m (m + 1)).Perm l) := Lib.hid (by rw [hr0]; exact ⟨HS.out, List.Perm.refl _⟩)
      clear hr0 HS
      go_wp2_with fail
      go_loopw [17] (fun v17 wr => ∃ k : Nat, i ≤ k ∧ k ≤ m ∧ v17 = .int .i64 (k : Int) ∧ SortAt w wr gd n cap gb v counts (rot l k m (m + 1)) ∧ (rot l k m (m + 1)).Perm l) (fun v17 _ => (intOf v17).toNat)
      case atStart => exact ⟨m, by omega, Nat.le_refl _, rfl, HR0.out⟩
      case round =>
        clear HR0
        obtain ⟨k, hik, hkm, rfl, hS, hP⟩ := hrel
        have HS := Lib.hid hS
        have HP := Lib.hid hP
        clear hS hP
        by_cases hlk : i < k
        · obtain ⟨k, rfl⟩ : ∃ k', k = k' + 1 := ⟨k - 1, by omega⟩
          have hlki : (i : Int) < (k : Int) + 1 := by omega
          obtain ⟨d1, g1, hcap⟩ := HS.out.cell (k + 1) (by omega)
          obtain ⟨d0, g0, _⟩ := HS.out.cell k (by omega)
          have HSW := Lib.hid (HS.out.swap (k + 1) k (by omega) (by omega))
          rw [rot_down l k m hkm (by rw [HLN.out]; omega)] at HSW
          have HPM : Hid ((rot l k m (m + 1)).Perm l) := Lib.hid (by
            rw [← rot_down l k m hkm (by rw [HLN.out]; omega)]
            exact (swp_perm _ _ _ (by rw [rot_length, HLN.out]; omega) (by rw [rot_length, HLN.out]; omega)).trans HP.out)
          clear HS HP
          generalize (rot l (k + 1) m (m + 1)).getD (k + 1) 0 = x at *
          generalize (rot l (k + 1) m (m + 1)).getD k 0 = y at *
          have d0b : (wr.setCell ⟨gd, k + 1, none⟩ (.int .i64 (y : Int))).cell? ⟨gd, k, none⟩ = some (.int .i64 (y : Int)) := by
            rw [World.cell?_setCell_other _ _ _ _ (by intro e; simp only [Addr.mk.injEq] at e; omega)]; exact d0
          have d1b : (wr.setCell ⟨gd, k, none⟩ (.int .i64 (x : Int))).cell? ⟨gd, k + 1, none⟩ = some (.int .i64 (x : Int)) := by
            rw [World.cell?_setCell_other _ _ _ _ (by intro e; simp only [Addr.mk.injEq] at e; omega)]; exact d1
          have hi1 : (((k + 1 : Nat) : Int) - 1) = (k : Int) := by omega
          have s0 : IntKind.i64.wrap (k : Int) = (k : Int) := IntWalk.i64_in _ (by omega)
          have s1 : ((k : Int) + 1).toNat = k + 1 := by omega
          obtain ⟨a1, a2, a3⟩ : (k : Int) < (n : Int) ∧ (k : Int) + 1 < (n : Int) ∧ 0 ≤ (k : Int) + 1 := by omega
          go_wp2_with fail
          go_region
          go_wp2_with fail
          exact ⟨⟨k, by omega, by omega, by go_num, HSW.out.drewN 1, HPM.out⟩, by simp [intOf]⟩
        · have hki2 : k = i := by omega
          have HK := Lib.hid hki2
          have hlki : (k : Int) ≤ (i : Int) := by omega
          clear hki2
          go_wp2_with fail
          (try simp only [Exit.inBlock, Exit.then]); refine bodyPost_ret (results_none rfl _ _ _) rfl ?_
          rw [HK.out] at HS HP
          exact ⟨rfl, _, HS.out, (Mv.rot (by omega) (by omega) (by rw [HLN.out]; omega) HP.out).wide hi (Nat.le_refl _), HFN.out⟩
end Go.Proofs.YtphdcgioeokfbaaDoor
