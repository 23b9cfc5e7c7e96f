/-
  The law of each call.
-/
import Derived.Test.YtgdnemjlmhmhhaaDoorHrh
import Derived.Test.YtgdnemjlmhmhhaaDoorHwb
namespace Go.Proofs.YtgdnemjlmhmhhaaDoor
open Go.RowKit Go.Maps

set_option maxRecDepth 100000 in
set_option maxHeartbeats 16000000 in
theorem calls_walk (w : World) (s t : List UInt8) (hs : s.length ≤ maxLen) (ht : t.length ≤ maxLen) : Calls Tryd.prog 3 #[.string (sb s), .string (sb t)] w (WakePost w) := by
  unfold WakePost
  unfold maxLen at hs ht
  have hcut1 := cutS s 5000
  have hcut2 := cutS t 5000
  have hsz1 := sb_size s
  have hsz2 := sb_size t
  have hp5 : (s.take 5000).length ≤ 5000 := List.length_take_le _ _
  have hq5 : (t.take 5000).length ≤ 5000 := List.length_take_le _ _
  obtain ⟨p, hp⟩ : ∃ p, s.take 5000 = p := ⟨_, rfl⟩
  obtain ⟨q, hq⟩ : ∃ q, t.take 5000 = q := ⟨_, rfl⟩
  rw [hp] at hcut1 hp5
  rw [hq] at hcut2 hq5
  have hs1 : ((sb s).size : Int) ≤ 9223372036854775807 := by omega
  have hs2 : ((sb t).size : Int) ≤ 9223372036854775807 := by omega
  have hc1 : (sb s).extract 0 (min ((sb s).size : Int) 5000).toNat = sb p := hcut1
  have hc2 : (sb t).extract 0 (min ((sb t).size : Int) 5000).toNat = sb q := hcut2
  generalize sb s = b1 at *
  generalize sb t = b2 at *
  have hspl := split_len p
  have habl : (Pt.above p).length ≤ p.length := upTo_le p p.length
  have HW : Hid (∀ w1, Below w.heap.size w w1 → Calls Tryd.prog 33 #[] w1 fun e w' => e = .returned (.bool true) ∧ Below w.heap.size w w') := Lib.hid (fun w1 hb => by
    have h := wakes_walk w1
    unfold WakePost at h
    exact h.mono fun _ _ ⟨h1, h2⟩ => ⟨h1, hb.trans (h2.mono hb.size)⟩)
  have HB : Hid (∀ n, Below w.heap.size w (w.drewN n)) := Lib.hid (fun n => below_drewN (Below.refl _ _) n)
  have Ccl : Hid (∀ w1, Below w.heap.size w w1 → Calls Tryd.prog 8 #[.string (sb p)] w1 fun e w' => e = .returned (.tuple #[.string (sb (Pt.cleanP p)), .int .i64 (Pt.cleanE p)]) ∧ Below w.heap.size w w') := Lib.hid (fun w1 hb => by
    have h := clean_walk p (by omega) w1
    unfold CleanPost at h
    exact h.mono fun _ _ ⟨h1, h2⟩ => ⟨h1, hb.trans (h2.mono hb.size)⟩)
  have Rcl : Hid (∀ w1, Below w.heap.size w w1 → Calls Tryd.prog 9 #[.string (sb p)] w1 fun e w' => e = .returned (.tuple #[.string (sb (Pt.cleanP p)), .int .i64 (Pt.cleanE p)]) ∧ Below w.heap.size w w') := Lib.hid (fun w1 hb => by
    have h := rclean_walk p (by omega) w1
    unfold RCPost at h
    exact h.mono fun _ _ ⟨h1, h2⟩ => ⟨h1, hb.trans (h2.mono hb.size)⟩)
  have Ccs : Hid (∀ w1, Below w.heap.size w w1 → Calls Tryd.prog 10 #[.string (sb p)] w1 fun e w' => e = .returned (.tuple #[.int .i64 (Pt.cls p), .string (sb (Pt.tgt p))]) ∧ Below w.heap.size w w') := Lib.hid (fun w1 hb => by
    have h := class_walk p (by omega) w1
    unfold ClassPost at h
    exact h.mono fun _ _ ⟨h1, h2⟩ => ⟨h1, hb.trans (h2.mono hb.size)⟩)
  have Rcs : Hid (∀ w1, Below w.heap.size w w1 → Calls Tryd.prog 11 #[.string (sb p)] w1 fun e w' => e = .returned (.tuple #[.int .i64 (Pt.cls p), .string (sb (Pt.tgt p))]) ∧ Below w.heap.size w w') := Lib.hid (fun w1 hb => by
    have h := rclass_walk p (by omega) w1
    unfold RClsPost at h
    rw [rcls_eq] at h
    exact h.mono fun _ _ ⟨h1, h2⟩ => ⟨h1, hb.trans (h2.mono hb.size)⟩)
  have Cmn : Hid (∀ w1, Below w.heap.size w w1 → Calls Tryd.prog 12 #[.string (sb p)] w1 fun e w' => e = .returned (.bool (Pt.mayName p)) ∧ Below w.heap.size w w') := Lib.hid (fun w1 hb => by
    have h := mayName_walk p (by omega) w1
    unfold MayPost at h
    exact h.mono fun _ _ ⟨h1, h2⟩ => ⟨h1, hb.trans (h2.mono hb.size)⟩)
  have Rmn : Hid (∀ w1, Below w.heap.size w w1 → Calls Tryd.prog 13 #[.string (sb p)] w1 fun e w' => e = .returned (.bool (Pt.mayName p)) ∧ Below w.heap.size w w') := Lib.hid (fun w1 hb => by
    have h := rmayName_walk p (by omega) w1
    exact h.mono fun _ _ ⟨h1, h2⟩ => ⟨h1, by rw [h2]; exact hb⟩)
  have Cma : Hid (∀ w1, Below w.heap.size w w1 → Calls Tryd.prog 14 #[.string (sb p)] w1 fun e w' => e = .returned (.bool (Pt.may p)) ∧ Below w.heap.size w w') := Lib.hid (fun w1 hb => by
    have h := may_walk p (by omega) w1
    exact h.mono fun _ _ ⟨h1, h2⟩ => ⟨h1, hb.trans (h2.mono hb.size)⟩)
  have Rma : Hid (∀ w1, Below w.heap.size w w1 → Calls Tryd.prog 15 #[.string (sb p)] w1 fun e w' => e = .returned (.bool (Pt.may p)) ∧ Below w.heap.size w w') := Lib.hid (fun w1 hb => by
    have h := rmay_walk p (by omega) w1
    exact h.mono fun _ _ ⟨h1, h2⟩ => ⟨h1, hb.trans (h2.mono hb.size)⟩)
  have Cpa : Hid (∀ w1, Below w.heap.size w w1 → Calls Tryd.prog 21 #[.string (sb p)] w1 fun e w' => e = .returned (.string (sb (Pt.parent p))) ∧ Below w.heap.size w w') := Lib.hid (fun w1 hb => by
    have h := parent_walk p (by omega) w1
    exact h.mono fun _ _ ⟨h1, h2⟩ => ⟨h1, by rw [h2]; exact hb⟩)
  have Rpa : Hid (∀ w1, Below w.heap.size w w1 → Calls Tryd.prog 22 #[.string (sb p)] w1 fun e w' => e = .returned (.string (sb (Pt.parent p))) ∧ Below w.heap.size w w') := Lib.hid (fun w1 hb => by
    have h := rparent_walk p (by omega) w1
    exact h.mono fun _ _ ⟨h1, h2⟩ => ⟨h1, by rw [h2]; exact hb⟩)
  have Cba : Hid (∀ w1, Below w.heap.size w w1 → Calls Tryd.prog 23 #[.string (sb p)] w1 fun e w' => e = .returned (.string (sb (Pt.base p))) ∧ Below w.heap.size w w') := Lib.hid (fun w1 hb => by
    have h := base_walk p (by omega) w1
    exact h.mono fun _ _ ⟨h1, h2⟩ => ⟨h1, by rw [h2]; exact hb⟩)
  have Rba : Hid (∀ w1, Below w.heap.size w w1 → Calls Tryd.prog 24 #[.string (sb p)] w1 fun e w' => e = .returned (.string (sb (Pt.base p))) ∧ Below w.heap.size w w') := Lib.hid (fun w1 hb => by
    have h := rbase_walk p (by omega) w1
    exact h.mono fun _ _ ⟨h1, h2⟩ => ⟨h1, by rw [h2]; exact hb⟩)
  have Cun : Hid (∀ w1, Below w.heap.size w w1 → Calls Tryd.prog 27 #[.string (sb q), .string (sb p)] w1 fun e w' => e = .returned (.bool (Pt.under q p)) ∧ Below w.heap.size w w') := Lib.hid (fun w1 hb => by
    have h := under_walk q p w1
    exact h.mono fun _ _ ⟨h1, h2⟩ => ⟨h1, by rw [h2]; exact hb⟩)
  have Run : Hid (∀ w1, Below w.heap.size w w1 → Calls Tryd.prog 28 #[.string (sb q), .string (sb p)] w1 fun e w' => e = .returned (.bool (Pt.under q p)) ∧ Below w.heap.size w w') := Lib.hid (fun w1 hb => by
    have h := runder_walk q p (by omega) (by omega) w1
    exact h.mono fun _ _ ⟨h1, h2⟩ => ⟨h1, by rw [h2]; exact hb⟩)
  have Cwh : Hid (∀ w1, Below w.heap.size w w1 → Calls Tryd.prog 29 #[.string (sb p)] w1 fun e w' => e = .returned (.string (sb (Pt.whiteout p))) ∧ Below w.heap.size w w') := Lib.hid (fun w1 hb => by
    have h := whiteout_walk p (by omega) w1
    exact h.mono fun _ _ ⟨h1, h2⟩ => ⟨h1, hb.trans (h2.mono hb.size)⟩)
  have Rwh : Hid (∀ w1, Below w.heap.size w w1 → Calls Tryd.prog 30 #[.string (sb p)] w1 fun e w' => e = .returned (.string (sb (Pt.whiteout p))) ∧ Below w.heap.size w w') := Lib.hid (fun w1 hb => by
    have h := rwhiteout_walk p (by omega) w1
    exact h.mono fun _ _ ⟨h1, h2⟩ => ⟨h1, hb.trans (h2.mono hb.size)⟩)
  have Cop : Hid (∀ w1, Below w.heap.size w w1 → Calls Tryd.prog 31 #[.string (sb p)] w1 fun e w' => e = .returned (.string (sb (Pt.opaq p))) ∧ Below w.heap.size w w') := Lib.hid (fun w1 hb => by
    have h := opaq_walk p (by omega) w1
    exact h.mono fun _ _ ⟨h1, h2⟩ => ⟨h1, hb.trans (h2.mono hb.size)⟩)
  have Rop : Hid (∀ w1, Below w.heap.size w w1 → Calls Tryd.prog 32 #[.string (sb p)] w1 fun e w' => e = .returned (.string (sb (Pt.opaq p))) ∧ Below w.heap.size w w') := Lib.hid (fun w1 hb => by
    have h := ropaq_walk p (by omega) w1
    exact h.mono fun _ _ ⟨h1, h2⟩ => ⟨h1, hb.trans (h2.mono hb.size)⟩)
  have Csp : Hid (∀ w1, Calls Tryd.prog 17 #[.string (sb p)] w1 fun e w' => ∃ v, e = .returned v ∧ SlV w' v (sl (Pt.split p)) ∧ Below w1.heap.size w1 w') := Lib.hid (fun w1 => split_walk p (by omega) w1)
  have Rsp : Hid (∀ w1, Calls Tryd.prog 18 #[.string (sb p)] w1 fun e w' => ∃ v, e = .returned v ∧ SlV w' v (sl (Pt.split p)) ∧ Below w1.heap.size w1 w') := Lib.hid (fun w1 => rsplit_walk p (by omega) w1)
  have Esp : Hid (∀ v1 v2 w1, Below w.heap.size w w1 → SlV w1 v1 (sl (Pt.split p)) → SlV w1 v2 (sl (Pt.split p)) → Calls Tryd.prog 16 #[v1, v2] w1 fun e w' => e = .returned (.bool true) ∧ Below w.heap.size w w') := Lib.hid (fun v1 v2 w1 hb h1 h2 => by
    have h := eq_walk (Pt.split p) (Pt.split p) (by omega) v1 v2 w1 h1 h2
    rw [decide_eq_true rfl] at h
    exact h.mono fun _ _ ⟨h1, h2⟩ => ⟨h1, hb.trans (h2.mono hb.size)⟩)
  have Cab : Hid (∀ w1, Calls Tryd.prog 25 #[.string (sb p)] w1 fun e w' => ∃ v, e = .returned v ∧ SlV w' v (sl (Pt.above p)) ∧ Below w1.heap.size w1 w') := Lib.hid (fun w1 => above_walk p (by omega) w1)
  have Rab : Hid (∀ w1, Calls Tryd.prog 26 #[.string (sb p)] w1 fun e w' => ∃ v, e = .returned v ∧ SlV w' v (sl (Pt.above p)) ∧ Below w1.heap.size w1 w') := Lib.hid (fun w1 => rabove_walk p (by omega) w1)
  have Eab : Hid (∀ v1 v2 w1, Below w.heap.size w w1 → SlV w1 v1 (sl (Pt.above p)) → SlV w1 v2 (sl (Pt.above p)) → Calls Tryd.prog 16 #[v1, v2] w1 fun e w' => e = .returned (.bool true) ∧ Below w.heap.size w w') := Lib.hid (fun v1 v2 w1 hb h1 h2 => by
    have h := eq_walk (Pt.above p) (Pt.above p) (by omega) v1 v2 w1 h1 h2
    rw [decide_eq_true rfl] at h
    exact h.mono fun _ _ ⟨h1, h2⟩ => ⟨h1, hb.trans (h2.mono hb.size)⟩)
  have hjl : (Pt.join [p, q, p]).length ≤ 20000 := by
    have h1 := glue_le 5000 (Pt.full [p, q, p]) (fun x hx => by
      have := full_mem _ x hx
      simp only [List.mem_cons, List.not_mem_nil, or_false] at this
      rcases this with rfl | rfl | rfl <;> omega)
    have h2 : (Pt.full [p, q, p]).length ≤ 3 := List.length_filter_le _ _
    have h3 : (Pt.full [p, q, p]).length * (5000 + 1) ≤ 3 * 5001 := Nat.mul_le_mul h2 (Nat.le_refl _)
    unfold Pt.join; omega
  have CJ : Hid (∀ w1 : World, Below w.heap.size w w1 → Calls Tryd.prog 19 #[.slice (some ⟨w1.heap.size, 0, none⟩) 3 3] (w1.alloc (.cells #[.string (sb p), .string (sb q), .string (sb p)] 9)) fun e w' => e = .returned (.string (sb (Pt.join [p, q, p]))) ∧ Below w.heap.size w w') := Lib.hid (fun w1 hb => by
    have h := join_walk [p, q, p] (by simp) (by omega) _ _ (slv_new w1 (sl [p, q, p]) 9)
    unfold JoinPost at h
    have hb2 := hb.alloc hb.size (.cells #[.string (sb p), .string (sb q), .string (sb p)] 9)
    exact h.mono fun _ _ ⟨h1, h2⟩ => ⟨h1, hb2.trans (h2.mono hb2.size)⟩)
  have RJ : Hid (∀ w1 : World, Below w.heap.size w w1 → Calls Tryd.prog 20 #[.slice (some ⟨w1.heap.size, 0, none⟩) 3 3] (w1.alloc (.cells #[.string (sb p), .string (sb q), .string (sb p)] 9)) fun e w' => e = .returned (.string (sb (Pt.join [p, q, p]))) ∧ Below w.heap.size w w') := Lib.hid (fun w1 hb => by
    have h := rjoin_walk [p, q, p] (by simp) (by omega) (fun x hx => by
      simp only [List.mem_cons, List.not_mem_nil, or_false] at hx
      rcases hx with rfl | rfl | rfl <;> omega) _ _ (slv_new w1 (sl [p, q, p]) 9)
    have hb2 := hb.alloc hb.size (.cells #[.string (sb p), .string (sb q), .string (sb p)] 9)
    exact h.mono fun _ _ ⟨h1, h2⟩ => ⟨h1, by rw [h2]; exact hb2⟩)
  generalize sb (Pt.cleanP p) = k1 at *
  have zk1 : (k1.toList == k1.toList) = true := beq_self_eq_true _
  generalize sb (Pt.tgt p) = k2 at *
  have zk2 : (k2.toList == k2.toList) = true := beq_self_eq_true _
  generalize sb (Pt.parent p) = k3 at *
  have zk3 : (k3.toList == k3.toList) = true := beq_self_eq_true _
  generalize sb (Pt.base p) = k4 at *
  have zk4 : (k4.toList == k4.toList) = true := beq_self_eq_true _
  generalize sb (Pt.whiteout p) = k5 at *
  have zk5 : (k5.toList == k5.toList) = true := beq_self_eq_true _
  generalize sb (Pt.opaq p) = k6 at *
  have zk6 : (k6.toList == k6.toList) = true := beq_self_eq_true _
  generalize sb (Pt.join [p, q, p]) = k7 at *
  have zk7 : (k7.toList == k7.toList) = true := beq_self_eq_true _
  generalize Pt.mayName p = m1 at *
  have zm1 : (m1 == m1) = true := beq_self_eq_true _
  generalize Pt.may p = m2 at *
  have zm2 : (m2 == m2) = true := beq_self_eq_true _
  generalize Pt.under q p = m3 at *
  have zm3 : (m3 == m3) = true := beq_self_eq_true _
  generalize Pt.cleanE p = i1 at *
  have zi1 : (i1 == i1) = true := beq_self_eq_true _
  generalize Pt.cls p = i2 at *
  have zi2 : (i2 == i2) = true := beq_self_eq_true _
  generalize sb p = bp at *
  generalize sb q = bq at *
  clear hs ht hcut1 hcut2 hsz1 hsz2 hp hq hp5 hq5 hspl habl hjl
  go_enter Tryd.func3, Tryd.ntmps3
  simp only [List.append_eq, List.cons_append, List.nil_append]
  go_wp2_with fail
  go_quiet (fail)
  replace HB := Lib.hid (HB.out nq)
  go_wp2_with (first
    | ((with_reducible refine (Ccl.out _ HB.out).mono ?_); rintro e w1 ⟨rfl, hb⟩; replace HB := Lib.hid hb; clear hb)
    | ((with_reducible refine (Rcl.out _ HB.out).mono ?_); rintro e w1 ⟨rfl, hb⟩; replace HB := Lib.hid hb; clear hb)
    | ((with_reducible refine (Ccs.out _ HB.out).mono ?_); rintro e w1 ⟨rfl, hb⟩; replace HB := Lib.hid hb; clear hb)
    | ((with_reducible refine (Rcs.out _ HB.out).mono ?_); rintro e w1 ⟨rfl, hb⟩; replace HB := Lib.hid hb; clear hb)
    | ((with_reducible refine (Cmn.out _ HB.out).mono ?_); rintro e w1 ⟨rfl, hb⟩; replace HB := Lib.hid hb; clear hb)
    | ((with_reducible refine (Rmn.out _ HB.out).mono ?_); rintro e w1 ⟨rfl, hb⟩; replace HB := Lib.hid hb; clear hb)
    | ((with_reducible refine (Cma.out _ HB.out).mono ?_); rintro e w1 ⟨rfl, hb⟩; replace HB := Lib.hid hb; clear hb)
    | ((with_reducible refine (Rma.out _ HB.out).mono ?_); rintro e w1 ⟨rfl, hb⟩; replace HB := Lib.hid hb; clear hb)
    | ((with_reducible refine (Cpa.out _ HB.out).mono ?_); rintro e w1 ⟨rfl, hb⟩; replace HB := Lib.hid hb; clear hb)
    | ((with_reducible refine (Rpa.out _ HB.out).mono ?_); rintro e w1 ⟨rfl, hb⟩; replace HB := Lib.hid hb; clear hb)
    | ((with_reducible refine (Cba.out _ HB.out).mono ?_); rintro e w1 ⟨rfl, hb⟩; replace HB := Lib.hid hb; clear hb)
    | ((with_reducible refine (Rba.out _ HB.out).mono ?_); rintro e w1 ⟨rfl, hb⟩; replace HB := Lib.hid hb; clear hb)
    | ((with_reducible refine (Cun.out _ HB.out).mono ?_); rintro e w1 ⟨rfl, hb⟩; replace HB := Lib.hid hb; clear hb)
    | ((with_reducible refine (Run.out _ HB.out).mono ?_); rintro e w1 ⟨rfl, hb⟩; replace HB := Lib.hid hb; clear hb)
    | ((with_reducible refine (Cwh.out _ HB.out).mono ?_); rintro e w1 ⟨rfl, hb⟩; replace HB := Lib.hid hb; clear hb)
    | ((with_reducible refine (Rwh.out _ HB.out).mono ?_); rintro e w1 ⟨rfl, hb⟩; replace HB := Lib.hid hb; clear hb)
    | ((with_reducible refine (Cop.out _ HB.out).mono ?_); rintro e w1 ⟨rfl, hb⟩; replace HB := Lib.hid hb; clear hb)
    | ((with_reducible refine (Rop.out _ HB.out).mono ?_); rintro e w1 ⟨rfl, hb⟩; replace HB := Lib.hid hb; clear hb)
    | ((with_reducible refine (HW.out _ HB.out).mono ?_); rintro e w1 ⟨rfl, hb⟩; replace HB := Lib.hid hb; clear hb)
    | ((with_reducible refine (Csp.out _).mono ?_); rintro e w1 ⟨v1, rfl, hv, hb⟩; have V1sp := Lib.hid hv; replace HB := Lib.hid (HB.out.trans (hb.mono HB.out.size)); clear hb hv)
    | ((with_reducible refine (Rsp.out _).mono ?_); rintro e w1 ⟨v2, rfl, hv, hb⟩; have V2sp := Lib.hid hv; replace V1sp := Lib.hid (V1sp.out.below hb (Nat.le_refl _)); replace HB := Lib.hid (HB.out.trans (hb.mono HB.out.size)); clear hb hv)
    | ((with_reducible refine (Esp.out _ _ _ HB.out V1sp.out V2sp.out).mono ?_); rintro e w1 ⟨rfl, hb⟩; replace HB := Lib.hid hb; clear hb)
    | ((with_reducible refine (Cab.out _).mono ?_); rintro e w1 ⟨v1, rfl, hv, hb⟩; have V1ab := Lib.hid hv; replace HB := Lib.hid (HB.out.trans (hb.mono HB.out.size)); clear hb hv)
    | ((with_reducible refine (Rab.out _).mono ?_); rintro e w1 ⟨v2, rfl, hv, hb⟩; have V2ab := Lib.hid hv; replace V1ab := Lib.hid (V1ab.out.below hb (Nat.le_refl _)); replace HB := Lib.hid (HB.out.trans (hb.mono HB.out.size)); clear hb hv)
    | ((with_reducible refine (Eab.out _ _ _ HB.out V1ab.out V2ab.out).mono ?_); rintro e w1 ⟨rfl, hb⟩; replace HB := Lib.hid hb; clear hb)
    | ((with_reducible refine (CJ.out _ HB.out).mono ?_); rintro e w1 ⟨rfl, hb⟩; replace HB := Lib.hid hb; clear hb)
    | ((with_reducible refine (RJ.out _ HB.out).mono ?_); rintro e w1 ⟨rfl, hb⟩; replace HB := Lib.hid hb; clear hb))
  go_ret
  exact ⟨rfl, HB.out⟩
end Go.Proofs.YtgdnemjlmhmhhaaDoor
