/-
  The document's own answers: begins, Name, MayName, Split, May.
-/
import Derived.Test.YtgdnemjlmhmhhaaDoorHwa
namespace Go.Proofs.YtgdnemjlmhmhhaaDoor
open Go.RowKit Go.Maps

set_option maxHeartbeats 1000000 in
theorem begins_walk (s p : List UInt8) (hs : s.length ≤ 1000000) (hp : p.length ≤ 1000000) (w : World) : Calls Tryd.prog 40 #[.string (sb s), .string (sb p)] w fun e w' => e = .returned (.bool (p.isPrefixOf s)) ∧ w' = w := by
  have hr := Lib.hasPrefix_raw (sb s) (sb p)
  rw [sb_data, sb_data] at hr
  have hr2 : p.isPrefixOf s = (decide ((sb p).size ≤ (sb s).size) && (((sb s).extract 0 (sb p).size).toList == (sb p).toList)) := hr.symm
  rw [hr2]
  have h1 : ((sb s).size : Int) ≤ 1000000 := by rw [sb_size]; omega
  have h2 : ((sb p).size : Int) ≤ 1000000 := by rw [sb_size]; omega
  generalize sb s = a at *
  generalize sb p = b at *
  clear hr hr2
  by_cases h : b.size ≤ a.size
  · have hI : decide ((b.size : Int) ≤ (a.size : Int)) = true := decide_eq_true (by omega)
    have hI2 : (b.size : Int) ≤ (a.size : Int) := by omega
    rw [decide_eq_true h]
    go_enter Tryd.func40, Tryd.ntmps40
    go_wp2_with fail
    go_ret
    exact ⟨rfl, rfl⟩
  · have hI : decide ((b.size : Int) ≤ (a.size : Int)) = false := decide_eq_false (by omega)
    have hI2 : ¬ (b.size : Int) ≤ (a.size : Int) := by omega
    rw [decide_eq_false h]
    go_enter Tryd.func40, Tryd.ntmps40
    go_wp2_with fail
    go_ret
    exact ⟨rfl, rfl⟩
/-- Reading a byte of a text. -/
theorem sidx (s : List UInt8) (k : Nat) (hk : k < s.length) (w : World) : (Instr.index 9 (.string (sb s)) (.int .i64 (k : Int))).run Tryd.prog w = .ok (.int .u8 (bi (s.getD k 0))) w := by
  have hz := sb_size s
  have hk2 : (0 : Int) ≤ (k : Int) ∧ (k : Int) < ((sb s).size : Int) := by omega
  rw [run_index_string (P := Tryd.prog) (w := w) 9 (sb s) .i64 (k : Int) Tryd.underlying9, dif_pos hk2]
  have e : (sb s)[(k : Int).toNat]'(by omega) = s.getD k 0 := by
    have e1 : (k : Int).toNat = k := by omega
    have : (sb s)[k]'(by omega) = s[k] := rfl
    simp [hk, this]
  rw [e]; rfl
def isName (s : List UInt8) : Bool := s.all Pt.okB && (decide (1 ≤ s.length) && decide (s.length ≤ 255) && s != [46] && s != [46, 46])
theorem okB_iff (x : UInt8) : Pt.okB x = !((bi x == 0) || (bi x == 47)) := by
  have h0 := @bi_inj x 0
  have h47 := @bi_inj x 47
  rw [show bi 0 = 0 from rfl] at h0
  rw [show bi 47 = 47 from rfl] at h47
  unfold Pt.okB
  by_cases a : x = 0
  · subst a; decide
  · have a2 : (bi x == 0) = false := beq_eq_false_iff_ne.2 (fun e => a (h0.1 e))
    rw [a2, beq_eq_false_iff_ne.2 a, Bool.or_false, Bool.false_or]
    by_cases b : x = 47
    · subst b; decide
    · rw [beq_eq_false_iff_ne.2 b, beq_eq_false_iff_ne.2 (fun e => b (h47.1 e))]
set_option maxRecDepth 100000 in
set_option maxHeartbeats 4000000 in
theorem name_walk (s : List UInt8) (hs : s.length ≤ 1000000) (w : World) : Calls Tryd.prog 43 #[.string (sb s)] w fun e w' => e = .returned (.bool (isName s)) ∧ w' = w := by
  have hsz : (sb s).size = s.length := sb_size s
  have HIX : Hid (∀ k, k < s.length → ∀ w, _) := Lib.hid (fun k hk w => sidx s k hk w)
  have h1 : ((sb s).toList == [46]) = (s == [46]) := by rw [sb_list]
  have h2 : ((sb s).toList == [46, 46]) = (s == [46, 46]) := by rw [sb_list]
  obtain ⟨N, hN⟩ : ∃ N, s.length = N := ⟨_, rfl⟩
  have HN := Lib.hid hN
  have hE : Hid (s.all Pt.okB = true → isName s = (decide (1 ≤ N) && decide (N ≤ 255) && !(s == [46]) && !(s == [46, 46]))) := Lib.hid (fun h => by unfold isName; rw [h, ← hN]; rfl)
  have hE0 : Hid (s.all Pt.okB = false → isName s = false) := Lib.hid (fun h => by unfold isName; rw [h]; rfl)
  rw [hN] at hs hsz HIX
  generalize sb s = b at *
  have hbz : (b.size : Int) = (N : Int) := by omega
  clear hN hsz
  go_enter Tryd.func43, Tryd.ntmps43
  go_wp2_with fail
  go_loopw [3] (fun v3 wr => ∃ k : Nat, k ≤ N ∧ v3 = .int .i64 (k : Int) ∧ (s.take k).all Pt.okB = true ∧ wr = w) (fun v3 _ => N - (intOf v3).toNat)
  case atStart => exact ⟨0, Nat.zero_le _, rfl, rfl, rfl⟩
  case round =>
    obtain ⟨k, hk, rfl, hal, rfl⟩ := hrel
    have HA := Lib.hid hal
    clear hal
    by_cases hkN : k < N
    · have hix := HIX.out k hkN
      have hkl : k < s.length := by rw [HN.out]; exact hkN
      have hok := okB_iff (s.getD k 0)
      have HOK := Lib.hid hok
      have HT : Hid ((s.take (k + 1)).all Pt.okB = Pt.okB (s.getD k 0)) := Lib.hid (by
        rw [List.take_succ_eq_append_getElem hkl, List.all_append, HA.out]
        have : s.getD k 0 = s[k] := by simp [hkl]
        rw [this]; simp)
      have HF : Hid (Pt.okB (s.getD k 0) = false → s.all Pt.okB = false) := Lib.hid (fun h => by
        rw [Bool.eq_false_iff]
        intro ha
        rw [List.all_eq_true] at ha
        have : s.getD k 0 = s[k] := by simp [hkl]
        rw [this] at h
        exact absurd (ha _ (List.getElem_mem hkl)) (by rw [h]; decide))
      have hkI : (k : Int) < (N : Int) := by omega
      generalize s.getD k 0 = x at *
      clear hok hkl
      cases c0 : (bi x == 0)
      · cases c1 : (bi x == 47)
        · have hok : Pt.okB x = true := by rw [HOK.out, c0, c1]; rfl
          have HT2 := Lib.hid (HT.out.trans hok)
          generalize bi x = bx at *
          clear hok HF HT HOK
          go_wp2_with fail
          go_roundw
          case rel => exact ⟨k + 1, by omega, by go_num, HT2.out, trivial⟩
          case measure => simp [intOf]; omega
        · have hok : Pt.okB x = false := by rw [HOK.out, c0, c1]; rfl
          have HR := Lib.hid (hE0.out (HF.out hok))
          generalize bi x = bx at *
          clear hok HF HT HOK
          go_wp2_with fail
          go_ret
          exact ⟨by rw [HR.out]; rfl, rfl⟩
      · have hok : Pt.okB x = false := by rw [HOK.out, c0]; rfl
        have HR := Lib.hid (hE0.out (HF.out hok))
        generalize bi x = bx at *
        clear hok HF HT HOK
        go_wp2_with fail
        go_ret
        exact ⟨by rw [HR.out]; rfl, rfl⟩
    · obtain rfl : k = N := by omega
      have hz : decide ((k : Int) < (k : Int)) = false := decide_eq_false (by omega)
      have hall := HA.out
      rw [List.take_of_length_le (by rw [HN.out]; exact Nat.le_refl _)] at hall
      have HR := hE.out hall
      have HRR := Lib.hid HR
      have d1 : decide ((1 : Int) ≤ (k : Int)) = decide (1 ≤ k) := decide_eq_decide.2 (by omega)
      have d2 : decide ((k : Int) ≤ 255) = decide (k ≤ 255) := decide_eq_decide.2 (by omega)
      generalize (s == [46]) = A at *
      generalize (s == [46, 46]) = B at *
      generalize decide (1 ≤ k) = C at *
      generalize decide (k ≤ 255) = D at *
      clear hall HR hE hE0
      cases C
      · go_wp2_with fail
        go_ret
        exact ⟨by rw [HRR.out]; rfl, rfl⟩
      · cases D
        · go_wp2_with fail
          go_ret
          exact ⟨by rw [HRR.out]; rfl, rfl⟩
        · cases A
          · cases B
            · go_wp2_with fail
              go_ret
              exact ⟨by rw [HRR.out]; rfl, rfl⟩
            · go_wp2_with fail
              go_ret
              exact ⟨by rw [HRR.out]; rfl, rfl⟩
          · go_wp2_with fail
            go_ret
            exact ⟨by rw [HRR.out]; rfl, rfl⟩
theorem mayName_ref (s : List UInt8) : Pt.mayName s = (isName s && (decide (s.length ≤ 251) && !Pt.wh.isPrefixOf s)) := by
  unfold Pt.mayName isName
  have e1 : (s != []) = decide (1 ≤ s.length) := by
    cases s with
    | nil => rfl
    | cons x t => simp
  rw [e1]
  by_cases h : s.length ≤ 251
  · rw [decide_eq_true h, decide_eq_true (show s.length ≤ 255 by omega)]
    generalize (s != [46]) = A
    generalize (s != [46, 46]) = B
    generalize decide (1 ≤ s.length) = C
    generalize s.all Pt.okB = D
    generalize Pt.wh.isPrefixOf s = E
    cases A <;> cases B <;> cases C <;> cases D <;> cases E <;> rfl
  · rw [decide_eq_false h]; simp
set_option maxHeartbeats 1000000 in
theorem rmayName_walk (s : List UInt8) (hs : s.length ≤ 1000000) (w : World) : Calls Tryd.prog 13 #[.string (sb s)] w fun e w' => e = .returned (.bool (Pt.mayName s)) ∧ w' = w := by
  rw [mayName_ref]
  have HN := Lib.hid (name_walk s hs w)
  have HB := Lib.hid (begins_walk s Pt.wh hs (by decide) w)
  have hsz : ((sb s).size : Int) = (s.length : Int) := by rw [sb_size]
  have hd : decide (((sb s).size : Int) ≤ 251) = decide (s.length ≤ 251) := decide_eq_decide.2 (by omega)
  have HB2 : Hid (Calls Tryd.prog 40 #[.string (sb s), .string ⟨#[46, 119, 104, 46]⟩] w fun e w' => e = .returned (.bool (Pt.wh.isPrefixOf s)) ∧ w' = w) := HB
  generalize isName s = A at *
  generalize decide (s.length ≤ 251) = B at *
  generalize Pt.wh.isPrefixOf s = C at *
  generalize sb s = b at *
  clear HB hsz hs
  cases A
  · go_enter Tryd.func13, Tryd.ntmps13
    go_wp2_with (first | ((with_reducible refine HN.out.mono ?_); rintro e w1 ⟨rfl, hw⟩; rw [hw]; clear hw) | ((with_reducible refine HB2.out.mono ?_); rintro e w1 ⟨rfl, hw⟩; rw [hw]; clear hw))
    go_ret
    exact ⟨rfl, rfl⟩
  · cases B
    · go_enter Tryd.func13, Tryd.ntmps13
      go_wp2_with (first | ((with_reducible refine HN.out.mono ?_); rintro e w1 ⟨rfl, hw⟩; rw [hw]; clear hw) | ((with_reducible refine HB2.out.mono ?_); rintro e w1 ⟨rfl, hw⟩; rw [hw]; clear hw))
      go_ret
      exact ⟨rfl, rfl⟩
    · go_enter Tryd.func13, Tryd.ntmps13
      go_wp2_with (first | ((with_reducible refine HN.out.mono ?_); rintro e w1 ⟨rfl, hw⟩; rw [hw]; clear hw) | ((with_reducible refine HB2.out.mono ?_); rintro e w1 ⟨rfl, hw⟩; rw [hw]; clear hw))
      go_ret
      exact ⟨by cases C <;> rfl, rfl⟩
end Go.Proofs.YtgdnemjlmhmhhaaDoor
