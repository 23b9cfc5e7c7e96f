/-
  Sizes: withDigits, isSize, beginsSize.
-/
import Derived.Test.YtjgphicmkmdeiaaDoorPn
namespace Go.Proofs.YtjgphicmkmdeiaaDoor
open Go.RowKit Go.Maps

set_option maxHeartbeats 1000000 in
theorem wd_walk (w : World) (o : Nat) (ho : o ≤ 1099511627776) (hP : PxAt w) :
    Calls Tryd.prog 29 #[.int .i64 (o : Int)] w fun e w' => e = .returned (.int .i64 (Px.wd o : Int)) ∧ Below w.heap.size w w' := by
  have HP := Lib.hid hP
  have HD : Hid (∀ (n : Nat) w1, n ≤ 9223372036854775807 → Below w.heap.size w w1 → Calls Tryd.prog 38 #[.int .i64 (n : Int)] w1 fun e w' => e = .returned (.int .i64 (dg n : Int)) ∧ Below w.heap.size w w') := Lib.hid (fun n w1 hn hb => (digits_walk w1 n hn (hP.below hb (Nat.le_refl _))).mono fun _ _ ⟨h1, h2⟩ => ⟨h1, hb.trans (h2.mono hb.size)⟩)
  have hmax : ∀ z, z ≤ Px.wd o → dg z ≤ 20 := fun z hz => Nat.le_trans (Px.dg_mono (Nat.le_trans hz (show Px.wd o ≤ 10 ^ 15 by
    unfold Px.wd
    have h1 : Lib.nDigits o ≤ 20 := Px.dg_lt (k := 19) (by omega)
    have h2 : Lib.nDigits (o + Lib.nDigits o) ≤ 20 := Px.dg_lt (k := 19) (by omega)
    omega))) (Px.dg_lt (k := 19) (by decide))
  have HM := Lib.hid hmax
  have HW := Lib.hid (Px.wd_fix o)
  have HG := Lib.hid (Px.wd_ge o)
  clear hP hmax
  go_enter Tryd.func29, Tryd.ntmps29
  go_wp2_with fail
  go_loopw [3] (fun sz w' => ∃ z : Nat, sz = .int .i64 (z : Int) ∧ z ≤ Px.wd o ∧ o ≤ z ∧ z ≤ o + dg z ∧ Below w.heap.size w w') (fun sz _ => Px.wd o - (intOf sz).toNat)
  case atStart => exact ⟨o, rfl, by have := HG.out; omega, Nat.le_refl _, by omega, Below.refl _ _⟩
  case round =>
    obtain ⟨z, rfl, h1, h2, h3, hb⟩ := hrel
    have HB := Lib.hid hb
    have hd : dg z ≤ 20 := HM.out z h1
    have hdw : dg z ≤ dg (Px.wd o) := Px.dg_mono h1
    have hup : o + dg z ≤ Px.wd o := by have := HW.out; unfold dg at *; omega
    have hnx : o + dg z ≤ o + dg (o + dg z) := Nat.add_le_add_left (Px.dg_mono h3) o
    have HC := Lib.hid (HD.out z wr (by omega) hb)
    clear hb
    have hze : z = o + dg z → Px.wd o ≤ z := Px.wd_least
    have HD2 : Hid (∀ w1, Below w.heap.size w w1 → _) := Lib.hid (fun w1 => HD.out z w1 (by omega))
    generalize hdz : dg z = d at *
    have hz40 : z ≤ 1099511628776 := by omega
    have HX : Hid (o + d ≤ Px.wd o ∧ (z ≠ o + d → z < o + d) ∧ o + d ≤ o + dg (o + d) ∧ (z = o + d → Px.wd o ≤ z) ∧ z ≤ Px.wd o) := Lib.hid ⟨hup, fun h => by omega, hnx, hze, h1⟩
    clear hup hnx hdw hdz hze h1
    by_cases hzz : z = o + d
    · have hzI : ((z : Int) == (o : Int) + (d : Int)) = true := by rw [beq_iff_eq]; omega
      have HZ := Lib.hid hzz
      clear hzz h2 h3
      go_wp2_with ((with_reducible refine HC.out.mono ?_); rintro e w1 ⟨rfl, hb⟩; have B1 := Lib.hid hb; clear hb)
      go_ret
      have h9 := HX.out.2.2.2.1 HZ.out
      have h8 := HX.out.2.2.2.2
      exact ⟨by rw [show Px.wd o = z by omega]; rfl, B1.out⟩
    · have hzI : ((z : Int) == (o : Int) + (d : Int)) = false := by rw [beq_eq_false_iff_ne]; omega
      have HZ := Lib.hid (HX.out.2.1 hzz)
      clear hzz h2 h3
      go_wp2_with (first
        | ((with_reducible refine HC.out.mono ?_); rintro e w1 ⟨rfl, hb⟩; have HC2 := Lib.hid (HD2.out w1 hb); clear hb)
        | ((with_reducible refine HC2.out.mono ?_); rintro e w2 ⟨rfl, hb⟩; have B2 := Lib.hid hb; clear hb))
      have hz9 := HZ.out
      have hx := HX.out
      refine ⟨⟨o + d, ?_, hx.1, by omega, hx.2.2.1, B2.out⟩, ?_⟩
      · go_num
      · simp only [intOf]; omega
set_option maxHeartbeats 1000000 in
theorem isSz_walk (w : World) (n : Nat) (ho : n ≤ 1099511627776) (hP : PxAt w) :
    Calls Tryd.prog 40 #[.int .i64 (n : Int)] w fun e w' => e = .returned (.bool (Px.isSz n)) ∧ Below w.heap.size w w' := by
  have HC := Lib.hid (digits_walk w n (by omega) hP)
  have HW : Hid (∀ (m : Nat) w1, m ≤ 1099511627776 → Below w.heap.size w w1 → Calls Tryd.prog 29 #[.int .i64 (m : Int)] w1 fun e w' => e = .returned (.int .i64 (Px.wd m : Int)) ∧ Below w.heap.size w w') := Lib.hid (fun m w1 hn hb => (wd_walk w1 m hn (hP.below hb (Nat.le_refl _))).mono fun _ _ ⟨h1, h2⟩ => ⟨h1, hb.trans (h2.mono hb.size)⟩)
  have hE : Px.isSz n = (decide (dg n + 4 ≤ n) && (decide (n ≤ 16777216) && decide (Px.wd (n - dg n) = n))) := rfl
  have hd : dg n ≤ 20 := Px.dg_lt (k := 19) (by omega)
  rw [hE]
  clear hP hE
  generalize dg n = d at *
  by_cases h4 : d + 4 ≤ n
  · obtain ⟨m, hm⟩ : ∃ m : Nat, (n : Int) - (d : Int) = (m : Int) := ⟨n - d, by omega⟩
    obtain rfl : m = n - d := by omega
    rw [decide_eq_true h4, Bool.true_and]
    have h4I : decide (4 ≤ ((n - d : Nat) : Int)) = true := decide_eq_true (by omega)
    by_cases h5 : n ≤ 16777216
    · rw [decide_eq_true h5, Bool.true_and]
      have h5I : decide ((n : Int) ≤ 16777216) = true := decide_eq_true (by omega)
      obtain ⟨W, hW⟩ : ∃ W, Px.wd (n - d) = W := ⟨_, rfl⟩
      have HW2 : Hid (∀ w1, Below w.heap.size w w1 → _) := Lib.hid (fun w1 => HW.out (n - d) w1 (by omega))
      rw [hW] at HW2 ⊢
      have hwI : ((W : Int) == (n : Int)) = decide (W = n) := by
        by_cases h : W = n
        · rw [decide_eq_true h, beq_iff_eq]; omega
        · rw [decide_eq_false h, beq_eq_false_iff_ne]; omega
      have HWI := Lib.hid hwI
      clear h4 h5 hW HW hwI
      go_enter Tryd.func40, Tryd.ntmps40
      go_wp2_with (first
        | ((with_reducible refine HC.out.mono ?_); rintro e w1 ⟨rfl, hb⟩; have HC2 := Lib.hid (HW2.out w1 hb); clear hb)
        | ((with_reducible refine HC2.out.mono ?_); rintro e w2 ⟨rfl, hb⟩; have B2 := Lib.hid hb; clear hb))
      go_ret
      exact ⟨by rw [← HWI.out]; rfl, B2.out⟩
    · rw [decide_eq_false h5, Bool.false_and]
      have h5I : decide ((n : Int) ≤ 16777216) = false := decide_eq_false (by omega)
      clear h4 h5 HW
      go_enter Tryd.func40, Tryd.ntmps40
      go_wp2_with ((with_reducible refine HC.out.mono ?_); rintro e w1 ⟨rfl, hb⟩; have B1 := Lib.hid hb; clear hb)
      go_ret
      exact ⟨rfl, B1.out⟩
  · rw [decide_eq_false h4, Bool.false_and]
    have h4I : decide (4 ≤ (n : Int) - (d : Int)) = false := decide_eq_false (by omega)
    clear h4 HW
    go_enter Tryd.func40, Tryd.ntmps40
    go_wp2_with ((with_reducible refine HC.out.mono ?_); rintro e w1 ⟨rfl, hb⟩; have B1 := Lib.hid hb; clear hb)
    go_ret
    exact ⟨rfl, B1.out⟩
set_option maxHeartbeats 1000000 in
theorem begSz_walk (w : World) (n : Nat) (ho : n ≤ 16777216) (hP : PxAt w) :
    Calls Tryd.prog 41 #[.int .i64 (n : Int)] w fun e w' => e = .returned (.bool (Px.begSz n)) ∧ Below w.heap.size w w' := by
  have HC := Lib.hid (isSz_walk w n (by omega) hP)
  have HW : Hid (∀ w1, Below w.heap.size w w1 → Calls Tryd.prog 40 #[.int .i64 (10 * (n : Int) + 1)] w1 fun e w' => e = .returned (.bool (Px.isSz (10 * n + 1))) ∧ Below w.heap.size w w') := Lib.hid (fun w1 hb => (isSz_walk w1 (10 * n + 1) (by omega) (hP.below hb (Nat.le_refl _))).mono fun _ _ ⟨h1, h2⟩ => ⟨h1, hb.trans (h2.mono hb.size)⟩)
  have hE : Px.begSz n = (Px.isSz n || Px.isSz (10 * n + 1)) := rfl
  rw [hE]
  clear hP hE
  obtain ⟨A, hA⟩ : ∃ A, Px.isSz n = A := ⟨_, rfl⟩
  obtain ⟨B, hB⟩ : ∃ B, Px.isSz (10 * n + 1) = B := ⟨_, rfl⟩
  rw [hA] at HC ⊢
  rw [hB] at HW ⊢
  clear hA hB
  cases A
  · go_enter Tryd.func41, Tryd.ntmps41
    go_wp2_with (first
      | ((with_reducible refine HC.out.mono ?_); rintro e w1 ⟨rfl, hb⟩; have HC2 := Lib.hid (HW.out w1 hb); clear hb)
      | ((with_reducible refine HC2.out.mono ?_); rintro e w2 ⟨rfl, hb⟩; have B2 := Lib.hid hb; clear hb))
    go_ret
    exact ⟨rfl, B2.out⟩
  · go_enter Tryd.func41, Tryd.ntmps41
    go_wp2_with ((with_reducible refine HC.out.mono ?_); rintro e w1 ⟨rfl, hb⟩; have B1 := Lib.hid hb; clear hb)
    go_ret
    exact ⟨rfl, B1.out⟩
end Go.Proofs.YtjgphicmkmdeiaaDoor
