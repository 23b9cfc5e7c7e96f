/-
  The law of whiteouts.
-/
import Derived.Test.YtgdnemjlmhmhhaaDoorHwa
namespace Go.Proofs.YtgdnemjlmhmhhaaDoor
open Go.RowKit Go.Maps

theorem cutS (s : List UInt8) (N : Nat) : (sb s).extract 0 (min ((sb s).size : Int) (N : Int)).toNat = sb (s.take N) := by
  rw [sb_extract, sb_size]
  have e : (min (s.length : Int) (N : Int)).toNat = min s.length N := by omega
  rw [e, List.drop_zero, Nat.sub_zero]
  rcases Nat.le_total s.length N with h | h
  · rw [Nat.min_eq_left h, List.take_of_length_le (Nat.le_refl _), List.take_of_length_le h]
  · rw [Nat.min_eq_right h]
theorem whiteout_len (p : List UInt8) : (Pt.whiteout p).length ≤ p.length + 5 := by
  unfold Pt.whiteout
  split
  · rw [join_two _ _ (by simp [Pt.wh])]
    have h1 := cut_base p
    have h4 : Pt.wh.length = 4 := rfl
    split
    · rw [List.length_append]; omega
    · rename_i hd
      rcases cut_spec p with ⟨h2, _⟩ | ⟨a, b, h2, h3, _⟩
      · exact absurd (base_none p h2).2 hd
      · subst h2
        rw [(base_at a b h3).1, (base_at a b h3).2]
        simp; omega
  · simp
theorem opaq_len (p : List UInt8) : (Pt.opaq p).length ≤ p.length + 13 := by
  unfold Pt.opaq
  split
  · rw [join_two _ _ (by decide)]
    have h4 : Pt.opq.length = 12 := rfl
    split <;> simp <;> omega
  · simp
theorem tgt_len (p : List UInt8) : (Pt.tgt p).length ≤ p.length := by
  unfold Pt.tgt Pt.clsT
  split
  · split
    · exact Nat.le_refl _
    · split
      · exact gone_len p
      · split
        · exact parent_len p
        · simp
  · simp
set_option maxRecDepth 100000 in
set_option maxHeartbeats 8000000 in
theorem white_walk (w : World) (s : List UInt8) (hs : s.length ≤ maxLen) : Calls Tryd.prog 4 #[.string (sb s)] w (WakePost w) := by
  unfold WakePost
  unfold maxLen at hs
  have hcut := cutS s 5000
  have hsz := sb_size s
  have hp5 : (s.take 5000).length ≤ 5000 := List.length_take_le _ _
  obtain ⟨p, hp⟩ : ∃ p, s.take 5000 = p := ⟨_, rfl⟩
  rw [hp] at hcut hp5
  have hs2 : ((sb s).size : Int) ≤ 9223372036854775807 := by omega
  have hcut2 : (sb s).extract 0 (min ((sb s).size : Int) 5000).toNat = sb p := hcut
  generalize sb s = bs at *
  have hwl := whiteout_len p
  have hol := opaq_len p
  have HW : Hid (∀ w1, Below w.heap.size w w1 → Calls Tryd.prog 33 #[] w1 fun e w' => e = .returned (.bool true) ∧ Below w.heap.size w w') := Lib.hid (fun w1 hb => by
    have h := wakes_walk w1
    unfold WakePost at h
    exact h.mono fun _ _ ⟨h1, h2⟩ => ⟨h1, hb.trans (h2.mono hb.size)⟩)
  have HB : Hid (Below w.heap.size w w) := Lib.hid (Below.refl _ _)
  have hem : ((sb p).toList == []) = (p == []) := by rw [sb_list]
  have hee : ((sb p).toList == (sb p).toList) = true := beq_self_eq_true _
  have HM : Hid (∀ w1, Below w.heap.size w w1 → Calls Tryd.prog 14 #[.string (sb p)] w1 fun e w' => e = .returned (.bool (Pt.may p)) ∧ Below w.heap.size w w') := Lib.hid (fun w1 hb => by
      have h := may_walk p (by omega) w1
      exact h.mono fun _ _ ⟨h1, h2⟩ => ⟨h1, hb.trans (h2.mono hb.size)⟩)
  have HO : Hid (∀ w1, Below w.heap.size w w1 → Calls Tryd.prog 31 #[.string (sb p)] w1 fun e w' => e = .returned (.string (sb (Pt.opaq p))) ∧ Below w.heap.size w w') := Lib.hid (fun w1 hb => by
      have h := opaq_walk p (by omega) w1
      exact h.mono fun _ _ ⟨h1, h2⟩ => ⟨h1, hb.trans (h2.mono hb.size)⟩)
  have HWh : Hid (∀ w1, Below w.heap.size w w1 → Calls Tryd.prog 29 #[.string (sb p)] w1 fun e w' => e = .returned (.string (sb (Pt.whiteout p))) ∧ Below w.heap.size w w') := Lib.hid (fun w1 hb => by
      have h := whiteout_walk p (by omega) w1
      exact h.mono fun _ _ ⟨h1, h2⟩ => ⟨h1, hb.trans (h2.mono hb.size)⟩)
  clear hs hsz hcut hp
  cases hm : Pt.may p
  · rw [hm] at HM
    obtain ⟨e1, e2, e3⟩ := cls_other hm
    rw [e2] at HO
    rw [e1] at HWh
    have hn : ((sb []).toList == []) = true := by rw [sb_list]; rfl
    rcases e3 with ⟨c1, c2⟩ | ⟨c1, c2⟩ | ⟨c1, c2⟩ | ⟨c1, c2, c3⟩
    · have hc := And.intro c1 c2
      have HC : Hid (∀ w1, Below w.heap.size w w1 → Calls Tryd.prog 10 #[.string (sb p)] w1 fun e w' => e = .returned (.tuple #[.int .i64 0, .string (sb [])]) ∧ Below w.heap.size w w') := Lib.hid (fun w1 hb => by
          have h := class_walk p (by omega) w1
          unfold ClassPost at h
          rw [hc.1, hc.2] at h
          exact h.mono fun _ _ ⟨h1, h2⟩ => ⟨h1, hb.trans (h2.mono hb.size)⟩)
      generalize sb [] = be at *
      generalize sb p = b at *
      clear hm e1 e2 c1 c2 hc hwl hol hp5
      go_enter Tryd.func4, Tryd.ntmps4
      go_wp2_with (first
        | ((with_reducible refine (HM.out _ HB.out).mono ?_); rintro e w1 ⟨rfl, hb⟩; replace HB := Lib.hid hb; clear hb)
        | ((with_reducible refine (HO.out _ HB.out).mono ?_); rintro e w1 ⟨rfl, hb⟩; replace HB := Lib.hid hb; clear hb)
        | ((with_reducible refine (HWh.out _ HB.out).mono ?_); rintro e w1 ⟨rfl, hb⟩; replace HB := Lib.hid hb; clear hb)
        | ((with_reducible refine (HC.out _ HB.out).mono ?_); rintro e w1 ⟨rfl, hb⟩; replace HB := Lib.hid hb; clear hb)
        | ((with_reducible refine (HW.out _ HB.out).mono ?_); rintro e w1 ⟨rfl, hb⟩; replace HB := Lib.hid hb; clear hb))
      go_ret
      exact ⟨rfl, HB.out⟩
    · have hc := And.intro c1 (rfl : Pt.tgt p = Pt.tgt p)
      have htl := tgt_len p
      have HC : Hid (∀ w1, Below w.heap.size w w1 → Calls Tryd.prog 10 #[.string (sb p)] w1 fun e w' => e = .returned (.tuple #[.int .i64 2, .string (sb (Pt.tgt p))]) ∧ Below w.heap.size w w') := Lib.hid (fun w1 hb => by
          have h := class_walk p (by omega) w1
          unfold ClassPost at h
          rw [hc.1, hc.2] at h
          exact h.mono fun _ _ ⟨h1, h2⟩ => ⟨h1, hb.trans (h2.mono hb.size)⟩)
      have HT : Hid (∀ w1, Below w.heap.size w w1 → Calls Tryd.prog 29 #[.string (sb (Pt.tgt p))] w1 fun e w' => e = .returned (.string (sb p)) ∧ Below w.heap.size w w') := Lib.hid (fun w1 hb => by
          have h := whiteout_walk (Pt.tgt p) (by omega) w1
          rw [c2] at h
          exact h.mono fun _ _ ⟨h1, h2⟩ => ⟨h1, hb.trans (h2.mono hb.size)⟩)
      generalize sb (Pt.tgt p) = bt at *
      generalize sb [] = be at *
      generalize sb p = b at *
      clear hm e1 e2 c1 c2 hc hwl hol hp5 htl
      go_enter Tryd.func4, Tryd.ntmps4
      go_wp2_with (first
        | ((with_reducible refine (HM.out _ HB.out).mono ?_); rintro e w1 ⟨rfl, hb⟩; replace HB := Lib.hid hb; clear hb)
        | ((with_reducible refine (HO.out _ HB.out).mono ?_); rintro e w1 ⟨rfl, hb⟩; replace HB := Lib.hid hb; clear hb)
        | ((with_reducible refine (HWh.out _ HB.out).mono ?_); rintro e w1 ⟨rfl, hb⟩; replace HB := Lib.hid hb; clear hb)
        | ((with_reducible refine (HC.out _ HB.out).mono ?_); rintro e w1 ⟨rfl, hb⟩; replace HB := Lib.hid hb; clear hb)
        | ((with_reducible refine (HT.out _ HB.out).mono ?_); rintro e w1 ⟨rfl, hb⟩; replace HB := Lib.hid hb; clear hb)
        | ((with_reducible refine (HW.out _ HB.out).mono ?_); rintro e w1 ⟨rfl, hb⟩; replace HB := Lib.hid hb; clear hb))
      go_ret
      exact ⟨rfl, HB.out⟩
    · have hc := And.intro c1 (rfl : Pt.tgt p = Pt.tgt p)
      have htl := tgt_len p
      have HC : Hid (∀ w1, Below w.heap.size w w1 → Calls Tryd.prog 10 #[.string (sb p)] w1 fun e w' => e = .returned (.tuple #[.int .i64 3, .string (sb (Pt.tgt p))]) ∧ Below w.heap.size w w') := Lib.hid (fun w1 hb => by
          have h := class_walk p (by omega) w1
          unfold ClassPost at h
          rw [hc.1, hc.2] at h
          exact h.mono fun _ _ ⟨h1, h2⟩ => ⟨h1, hb.trans (h2.mono hb.size)⟩)
      have HT : Hid (∀ w1, Below w.heap.size w w1 → Calls Tryd.prog 31 #[.string (sb (Pt.tgt p))] w1 fun e w' => e = .returned (.string (sb p)) ∧ Below w.heap.size w w') := Lib.hid (fun w1 hb => by
          have h := opaq_walk (Pt.tgt p) (by omega) w1
          rw [c2] at h
          exact h.mono fun _ _ ⟨h1, h2⟩ => ⟨h1, hb.trans (h2.mono hb.size)⟩)
      generalize sb (Pt.tgt p) = bt at *
      generalize sb [] = be at *
      generalize sb p = b at *
      clear hm e1 e2 c1 c2 hc hwl hol hp5 htl
      go_enter Tryd.func4, Tryd.ntmps4
      go_wp2_with (first
        | ((with_reducible refine (HM.out _ HB.out).mono ?_); rintro e w1 ⟨rfl, hb⟩; replace HB := Lib.hid hb; clear hb)
        | ((with_reducible refine (HO.out _ HB.out).mono ?_); rintro e w1 ⟨rfl, hb⟩; replace HB := Lib.hid hb; clear hb)
        | ((with_reducible refine (HWh.out _ HB.out).mono ?_); rintro e w1 ⟨rfl, hb⟩; replace HB := Lib.hid hb; clear hb)
        | ((with_reducible refine (HC.out _ HB.out).mono ?_); rintro e w1 ⟨rfl, hb⟩; replace HB := Lib.hid hb; clear hb)
        | ((with_reducible refine (HT.out _ HB.out).mono ?_); rintro e w1 ⟨rfl, hb⟩; replace HB := Lib.hid hb; clear hb)
        | ((with_reducible refine (HW.out _ HB.out).mono ?_); rintro e w1 ⟨rfl, hb⟩; replace HB := Lib.hid hb; clear hb))
      go_ret
      exact ⟨rfl, HB.out⟩
    · have hc := And.intro c1 c2
      have ht : ((sb p).toList == [46, 119, 104, 46, 46, 119, 104, 46, 116, 111, 99]) = true := by rw [sb_list, c3]; rfl
      have HC : Hid (∀ w1, Below w.heap.size w w1 → Calls Tryd.prog 10 #[.string (sb p)] w1 fun e w' => e = .returned (.tuple #[.int .i64 4, .string (sb [])]) ∧ Below w.heap.size w w') := Lib.hid (fun w1 hb => by
          have h := class_walk p (by omega) w1
          unfold ClassPost at h
          rw [hc.1, hc.2] at h
          exact h.mono fun _ _ ⟨h1, h2⟩ => ⟨h1, hb.trans (h2.mono hb.size)⟩)
      generalize sb [] = be at *
      generalize sb p = b at *
      clear hm e1 e2 c1 c2 c3 hc hwl hol hp5
      go_enter Tryd.func4, Tryd.ntmps4
      go_wp2_with (first
        | ((with_reducible refine (HM.out _ HB.out).mono ?_); rintro e w1 ⟨rfl, hb⟩; replace HB := Lib.hid hb; clear hb)
        | ((with_reducible refine (HO.out _ HB.out).mono ?_); rintro e w1 ⟨rfl, hb⟩; replace HB := Lib.hid hb; clear hb)
        | ((with_reducible refine (HWh.out _ HB.out).mono ?_); rintro e w1 ⟨rfl, hb⟩; replace HB := Lib.hid hb; clear hb)
        | ((with_reducible refine (HC.out _ HB.out).mono ?_); rintro e w1 ⟨rfl, hb⟩; replace HB := Lib.hid hb; clear hb)
        | ((with_reducible refine (HW.out _ HB.out).mono ?_); rintro e w1 ⟨rfl, hb⟩; replace HB := Lib.hid hb; clear hb))
      go_ret
      exact ⟨rfl, HB.out⟩
  · rw [hm] at HM
    have hco := cls_opaq hm
    have HCo : Hid (∀ w1, Below w.heap.size w w1 → Calls Tryd.prog 10 #[.string (sb (Pt.opaq p))] w1 fun e w' => e = .returned (.tuple #[.int .i64 3, .string (sb p)]) ∧ Below w.heap.size w w') := Lib.hid (fun w1 hb => by
        have h := class_walk (Pt.opaq p) (by omega) w1
        unfold ClassPost at h
        rw [hco.1, hco.2] at h
        exact h.mono fun _ _ ⟨h1, h2⟩ => ⟨h1, hb.trans (h2.mono hb.size)⟩)
    by_cases h0 : p = []
    · rw [show (p == []) = true by rw [h0]; rfl] at hem
      have hc : Pt.cls p = 0 ∧ Pt.tgt p = p := by rw [h0]; exact cls_nil
      have HC : Hid (∀ w1, Below w.heap.size w w1 → Calls Tryd.prog 10 #[.string (sb p)] w1 fun e w' => e = .returned (.tuple #[.int .i64 0, .string (sb p)]) ∧ Below w.heap.size w w') := Lib.hid (fun w1 hb => by
          have h := class_walk p (by omega) w1
          unfold ClassPost at h
          rw [hc.1, hc.2] at h
          exact h.mono fun _ _ ⟨h1, h2⟩ => ⟨h1, hb.trans (h2.mono hb.size)⟩)
      generalize sb (Pt.opaq p) = bo at *
      generalize sb (Pt.whiteout p) = bw at *
      generalize sb p = b at *
      clear hm hco h0 hc hwl hol hp5
      go_enter Tryd.func4, Tryd.ntmps4
      go_wp2_with (first
        | ((with_reducible refine (HM.out _ HB.out).mono ?_); rintro e w1 ⟨rfl, hb⟩; replace HB := Lib.hid hb; clear hb)
        | ((with_reducible refine (HO.out _ HB.out).mono ?_); rintro e w1 ⟨rfl, hb⟩; replace HB := Lib.hid hb; clear hb)
        | ((with_reducible refine (HCo.out _ HB.out).mono ?_); rintro e w1 ⟨rfl, hb⟩; replace HB := Lib.hid hb; clear hb)
        | ((with_reducible refine (HC.out _ HB.out).mono ?_); rintro e w1 ⟨rfl, hb⟩; replace HB := Lib.hid hb; clear hb)
        | ((with_reducible refine (HW.out _ HB.out).mono ?_); rintro e w1 ⟨rfl, hb⟩; replace HB := Lib.hid hb; clear hb))
      go_ret
      exact ⟨rfl, HB.out⟩
    · rw [show (p == []) = false by simpa using h0] at hem
      have hc := cls_plain hm h0
      have hcw := cls_white hm h0
      have hpw := (white_base hm h0).2.1
      have hpp : ((sb (Pt.parent p)).toList == (sb (Pt.parent p)).toList) = true := beq_self_eq_true _
      have HC : Hid (∀ w1, Below w.heap.size w w1 → Calls Tryd.prog 10 #[.string (sb p)] w1 fun e w' => e = .returned (.tuple #[.int .i64 1, .string (sb p)]) ∧ Below w.heap.size w w') := Lib.hid (fun w1 hb => by
          have h := class_walk p (by omega) w1
          unfold ClassPost at h
          rw [hc.1, hc.2] at h
          exact h.mono fun _ _ ⟨h1, h2⟩ => ⟨h1, hb.trans (h2.mono hb.size)⟩)
      have HCw : Hid (∀ w1, Below w.heap.size w w1 → Calls Tryd.prog 10 #[.string (sb (Pt.whiteout p))] w1 fun e w' => e = .returned (.tuple #[.int .i64 2, .string (sb p)]) ∧ Below w.heap.size w w') := Lib.hid (fun w1 hb => by
          have h := class_walk (Pt.whiteout p) (by omega) w1
          unfold ClassPost at h
          rw [hcw.1, hcw.2] at h
          exact h.mono fun _ _ ⟨h1, h2⟩ => ⟨h1, hb.trans (h2.mono hb.size)⟩)
      have HPw : Hid (∀ w1, Below w.heap.size w w1 → Calls Tryd.prog 21 #[.string (sb (Pt.whiteout p))] w1 fun e w' => e = .returned (.string (sb (Pt.parent p))) ∧ Below w.heap.size w w') := Lib.hid (fun w1 hb => by
          have h := parent_walk (Pt.whiteout p) (by omega) w1
          rw [hpw] at h
          exact h.mono fun _ _ ⟨h1, h2⟩ => ⟨h1, by rw [h2]; exact hb⟩)
      have HPp : Hid (∀ w1, Below w.heap.size w w1 → Calls Tryd.prog 21 #[.string (sb p)] w1 fun e w' => e = .returned (.string (sb (Pt.parent p))) ∧ Below w.heap.size w w') := Lib.hid (fun w1 hb => by
          have h := parent_walk p (by omega) w1
          exact h.mono fun _ _ ⟨h1, h2⟩ => ⟨h1, by rw [h2]; exact hb⟩)
      generalize sb (Pt.opaq p) = bo at *
      generalize sb (Pt.whiteout p) = bw at *
      generalize sb (Pt.parent p) = bp at *
      generalize sb p = b at *
      clear hm hco h0 hc hcw hpw hwl hol hp5
      go_enter Tryd.func4, Tryd.ntmps4
      go_wp2_with (first
        | ((with_reducible refine (HM.out _ HB.out).mono ?_); rintro e w1 ⟨rfl, hb⟩; replace HB := Lib.hid hb; clear hb)
        | ((with_reducible refine (HO.out _ HB.out).mono ?_); rintro e w1 ⟨rfl, hb⟩; replace HB := Lib.hid hb; clear hb)
        | ((with_reducible refine (HCo.out _ HB.out).mono ?_); rintro e w1 ⟨rfl, hb⟩; replace HB := Lib.hid hb; clear hb)
        | ((with_reducible refine (HWh.out _ HB.out).mono ?_); rintro e w1 ⟨rfl, hb⟩; replace HB := Lib.hid hb; clear hb)
        | ((with_reducible refine (HCw.out _ HB.out).mono ?_); rintro e w1 ⟨rfl, hb⟩; replace HB := Lib.hid hb; clear hb)
        | ((with_reducible refine (HC.out _ HB.out).mono ?_); rintro e w1 ⟨rfl, hb⟩; replace HB := Lib.hid hb; clear hb)
        | ((with_reducible refine (HPw.out _ HB.out).mono ?_); rintro e w1 ⟨rfl, hb⟩; replace HB := Lib.hid hb; clear hb)
        | ((with_reducible refine (HPp.out _ HB.out).mono ?_); rintro e w1 ⟨rfl, hb⟩; replace HB := Lib.hid hb; clear hb)
        | ((with_reducible refine (HW.out _ HB.out).mono ?_); rintro e w1 ⟨rfl, hb⟩; replace HB := Lib.hid hb; clear hb))
      go_ret
      exact ⟨rfl, HB.out⟩
end Go.Proofs.YtgdnemjlmhmhhaaDoor
