/-
  slices.Equal over texts; the examples that each statement asks (wakes).
-/
import Derived.Test.YtgdnemjlmhmhhaaDoorHxb
namespace Go.Proofs.YtgdnemjlmhmhhaaDoor
open Go.RowKit Go.Maps

set_option maxRecDepth 100000 in
set_option maxHeartbeats 4000000 in
theorem eq_walk (a b : List (List UInt8)) (ha : a.length ≤ 1000000) (v1 v2 : Value) (w : World) (h1 : SlV w v1 (sl a)) (h2 : SlV w v2 (sl b)) : Calls Tryd.prog 16 #[v1, v2] w fun e w' => e = .returned (.bool (decide (a = b))) ∧ Below w.heap.size w w' := by
  obtain ⟨p1, c1, rfl⟩ := h1.shape
  obtain ⟨p2, c2, rfl⟩ := h2.shape
  simp only [sl_length] at *
  have H1 := Lib.hid h1
  have H2 := Lib.hid h2
  by_cases hl : a.length = b.length
  · obtain ⟨n, hn⟩ : ∃ n, a.length = n := ⟨_, rfl⟩
    have HA := Lib.hid hn
    have HB : Hid (b.length = n) := Lib.hid (by rw [← hl]; exact hn)
    rw [← hl, hn] at H2
    rw [← hl]
    rw [hn] at H1 ha ⊢
    clear h1 h2 hl hn
    have hee : ((n : Int) == (n : Int)) = true := beq_self_eq_true _
    go_enter Tryd.func16, Tryd.ntmps16
    go_wp2_with fail
    go_loopw [13] (fun v13 wr => ∃ k : Nat, k ≤ n ∧ v13 = .int .i64 (k : Int) ∧ a.take k = b.take k ∧ ∃ q, wr = w.drewN q) (fun v13 _ => n - (intOf v13).toNat)
    case atStart => exact ⟨0, Nat.zero_le _, rfl, rfl, 0, rfl⟩
    case round =>
      obtain ⟨k, hk, rfl, hpre, q, rfl⟩ := hrel
      have HP := Lib.hid hpre
      clear hpre
      by_cases hkn : k < n
      · obtain ⟨g1, o1, rfl, r1⟩ := H1.out.some (by omega)
        obtain ⟨g2, o2, rfl, r2⟩ := H2.out.some (by omega)
        have hc1 := r1.sl k (by rw [HA.out]; exact hkn)
        have hc2 := r2.sl k (by rw [HB.out]; exact hkn)
        have l1 := H1.out.le
        have l2 := H2.out.le
        have hkI : (k : Int) < (n : Int) := by omega
        have hbe := sb_beq (a.getD k []) (b.getD k [])
        have hka : k < a.length := by rw [HA.out]; exact hkn
        have hkb : k < b.length := by rw [HB.out]; exact hkn
        have ea : a.getD k [] = a[k] := by simp [hka]
        have eb : b.getD k [] = b[k] := by simp [hkb]
        have HNX : Hid (a.getD k [] = b.getD k [] → a.take (k + 1) = b.take (k + 1)) := Lib.hid (fun e => by
          rw [List.take_succ_eq_append_getElem hka, List.take_succ_eq_append_getElem hkb, HP.out, ← ea, ← eb, e])
        have HNE : Hid (a.getD k [] ≠ b.getD k [] → a ≠ b) := Lib.hid (fun e h => e (by rw [h]))
        clear r1 r2 hka hkb ea eb
        by_cases hx : a.getD k [] = b.getD k []
        · rw [show (a.getD k [] == b.getD k []) = true by rw [hx]; exact beq_self_eq_true _] at hbe
          have HNX := Lib.hid (HNX.out hx)
          clear hx HNE
          generalize sb (a.getD k []) = x at *
          generalize sb (b.getD k []) = y at *
          go_wp2_with fail
          go_quiet (fail)
          go_wp2_with fail
          go_roundw
          case rel => exact ⟨k + 1, by omega, by go_num, HNX.out, _, rfl⟩
          case measure => simp [intOf]; omega
        · rw [beq_eq_false_iff_ne.2 hx] at hbe
          have HNE := Lib.hid (HNE.out hx)
          clear hx HNX
          generalize sb (a.getD k []) = x at *
          generalize sb (b.getD k []) = y at *
          go_wp2_with fail
          go_quiet (fail)
          go_wp2_with fail
          go_ret
          exact ⟨by rw [decide_eq_false HNE.out]; rfl, below_drewN (below_drewN (Below.refl _ _) _) _⟩
      · obtain rfl : k = n := by omega
        have hz : decide ((k : Int) < (k : Int)) = false := decide_eq_false (by omega)
        go_wp2_with fail
        go_ret
        have h := HP.out
        rw [List.take_of_length_le (by rw [HA.out]; exact Nat.le_refl _), List.take_of_length_le (by rw [HB.out]; exact Nat.le_refl _)] at h
        exact ⟨by rw [decide_eq_true h]; rfl, below_drewN (Below.refl _ _) _⟩
  · have hne : a ≠ b := fun e => hl (by rw [e])
    have hee : ((a.length : Int) == (b.length : Int)) = false := beq_eq_false_iff_ne.2 (by omega)
    rw [decide_eq_false hne]
    clear h1 h2 H1 H2 hne
    go_enter Tryd.func16, Tryd.ntmps16
    go_wp2_with fail
    go_ret
    exact ⟨rfl, Below.refl _ _⟩
def WakePost (w : World) (e : Ending) (w' : World) : Prop := e = .returned (.bool true) ∧ Below w.heap.size w w'
set_option maxRecDepth 100000 in
set_option maxHeartbeats 4000000 in
theorem wakes_walk (w : World) : Calls Tryd.prog 33 #[] w (WakePost w) := by
  unfold WakePost
  have H0 : Hid (∀ w1, Below w.heap.size w w1 → Calls Tryd.prog 8 #[.string ⟨#[46, 47, 97, 47, 47, 98, 47, 46, 47, 99, 47]⟩] w1 fun e w' => e = .returned (.tuple #[.string ⟨#[97, 47, 98, 47, 99]⟩, .int .i64 0]) ∧ Below w.heap.size w w') := Lib.hid (fun w1 hb => by
    have h := clean_walk [46, 47, 97, 47, 47, 98, 47, 46, 47, 99, 47] (by decide) w1
    unfold CleanPost at h
    rw [show Pt.cleanP [46, 47, 97, 47, 47, 98, 47, 46, 47, 99, 47] = [97, 47, 98, 47, 99] by kernel_rfl, show Pt.cleanE [46, 47, 97, 47, 47, 98, 47, 46, 47, 99, 47] = 0 by kernel_rfl] at h
    exact h.mono fun _ _ ⟨h1, h2⟩ => ⟨h1, hb.trans (h2.mono hb.size)⟩)
  have H1 : Hid (∀ w1, Below w.heap.size w w1 → Calls Tryd.prog 8 #[.string ⟨#[47, 97]⟩] w1 fun e w' => e = .returned (.tuple #[.string ⟨#[]⟩, .int .i64 30]) ∧ Below w.heap.size w w') := Lib.hid (fun w1 hb => by
    have h := clean_walk [47, 97] (by decide) w1
    unfold CleanPost at h
    rw [show Pt.cleanP [47, 97] = [] by kernel_rfl, show Pt.cleanE [47, 97] = 30 by kernel_rfl] at h
    exact h.mono fun _ _ ⟨h1, h2⟩ => ⟨h1, hb.trans (h2.mono hb.size)⟩)
  have H2 : Hid (∀ w1, Below w.heap.size w w1 → Calls Tryd.prog 8 #[.string ⟨#[97, 47, 46, 46, 47, 98]⟩] w1 fun e w' => e = .returned (.tuple #[.string ⟨#[]⟩, .int .i64 30]) ∧ Below w.heap.size w w') := Lib.hid (fun w1 hb => by
    have h := clean_walk [97, 47, 46, 46, 47, 98] (by decide) w1
    unfold CleanPost at h
    rw [show Pt.cleanP [97, 47, 46, 46, 47, 98] = [] by kernel_rfl, show Pt.cleanE [97, 47, 46, 46, 47, 98] = 30 by kernel_rfl] at h
    exact h.mono fun _ _ ⟨h1, h2⟩ => ⟨h1, hb.trans (h2.mono hb.size)⟩)
  have H3 : Hid (∀ w1, Below w.heap.size w w1 → Calls Tryd.prog 8 #[.string ⟨#[46]⟩] w1 fun e w' => e = .returned (.tuple #[.string ⟨#[]⟩, .int .i64 0]) ∧ Below w.heap.size w w') := Lib.hid (fun w1 hb => by
    have h := clean_walk [46] (by decide) w1
    unfold CleanPost at h
    rw [show Pt.cleanP [46] = [] by kernel_rfl, show Pt.cleanE [46] = 0 by kernel_rfl] at h
    exact h.mono fun _ _ ⟨h1, h2⟩ => ⟨h1, hb.trans (h2.mono hb.size)⟩)
  have H4 : Hid (∀ w1, Below w.heap.size w w1 → Calls Tryd.prog 10 #[.string ⟨#[97, 47, 46, 119, 104, 46, 98]⟩] w1 fun e w' => e = .returned (.tuple #[.int .i64 2, .string ⟨#[97, 47, 98]⟩]) ∧ Below w.heap.size w w') := Lib.hid (fun w1 hb => by
    have h := class_walk [97, 47, 46, 119, 104, 46, 98] (by decide) w1
    unfold ClassPost at h
    rw [show Pt.tgt [97, 47, 46, 119, 104, 46, 98] = [97, 47, 98] by kernel_rfl, show Pt.cls [97, 47, 46, 119, 104, 46, 98] = 2 by kernel_rfl] at h
    exact h.mono fun _ _ ⟨h1, h2⟩ => ⟨h1, hb.trans (h2.mono hb.size)⟩)
  have H5 : Hid (∀ w1, Below w.heap.size w w1 → Calls Tryd.prog 10 #[.string ⟨#[46, 119, 104, 46, 46, 119, 104, 46, 46, 111, 112, 113]⟩] w1 fun e w' => e = .returned (.tuple #[.int .i64 3, .string ⟨#[]⟩]) ∧ Below w.heap.size w w') := Lib.hid (fun w1 hb => by
    have h := class_walk [46, 119, 104, 46, 46, 119, 104, 46, 46, 111, 112, 113] (by decide) w1
    unfold ClassPost at h
    rw [show Pt.tgt [46, 119, 104, 46, 46, 119, 104, 46, 46, 111, 112, 113] = [] by kernel_rfl, show Pt.cls [46, 119, 104, 46, 46, 119, 104, 46, 46, 111, 112, 113] = 3 by kernel_rfl] at h
    exact h.mono fun _ _ ⟨h1, h2⟩ => ⟨h1, hb.trans (h2.mono hb.size)⟩)
  have H6 : Hid (∀ w1, Below w.heap.size w w1 → Calls Tryd.prog 10 #[.string ⟨#[97, 47, 46, 119, 104, 46, 46, 120]⟩] w1 fun e w' => e = .returned (.tuple #[.int .i64 2, .string ⟨#[97, 47, 46, 120]⟩]) ∧ Below w.heap.size w w') := Lib.hid (fun w1 hb => by
    have h := class_walk [97, 47, 46, 119, 104, 46, 46, 120] (by decide) w1
    unfold ClassPost at h
    rw [show Pt.tgt [97, 47, 46, 119, 104, 46, 46, 120] = [97, 47, 46, 120] by kernel_rfl, show Pt.cls [97, 47, 46, 119, 104, 46, 46, 120] = 2 by kernel_rfl] at h
    exact h.mono fun _ _ ⟨h1, h2⟩ => ⟨h1, hb.trans (h2.mono hb.size)⟩)
  have H7 : Hid (∀ w1, Below w.heap.size w w1 → Calls Tryd.prog 10 #[.string ⟨#[46, 119, 104, 46, 46, 119, 104, 46, 120]⟩] w1 fun e w' => e = .returned (.tuple #[.int .i64 0, .string ⟨#[]⟩]) ∧ Below w.heap.size w w') := Lib.hid (fun w1 hb => by
    have h := class_walk [46, 119, 104, 46, 46, 119, 104, 46, 120] (by decide) w1
    unfold ClassPost at h
    rw [show Pt.tgt [46, 119, 104, 46, 46, 119, 104, 46, 120] = [] by kernel_rfl, show Pt.cls [46, 119, 104, 46, 46, 119, 104, 46, 120] = 0 by kernel_rfl] at h
    exact h.mono fun _ _ ⟨h1, h2⟩ => ⟨h1, hb.trans (h2.mono hb.size)⟩)
  have H8 : Hid (∀ w1, Below w.heap.size w w1 → Calls Tryd.prog 10 #[.string ⟨#[97, 47, 46, 119, 104, 46, 46, 119, 104, 46, 116, 111, 99]⟩] w1 fun e w' => e = .returned (.tuple #[.int .i64 0, .string ⟨#[]⟩]) ∧ Below w.heap.size w w') := Lib.hid (fun w1 hb => by
    have h := class_walk [97, 47, 46, 119, 104, 46, 46, 119, 104, 46, 116, 111, 99] (by decide) w1
    unfold ClassPost at h
    rw [show Pt.tgt [97, 47, 46, 119, 104, 46, 46, 119, 104, 46, 116, 111, 99] = [] by kernel_rfl, show Pt.cls [97, 47, 46, 119, 104, 46, 46, 119, 104, 46, 116, 111, 99] = 0 by kernel_rfl] at h
    exact h.mono fun _ _ ⟨h1, h2⟩ => ⟨h1, hb.trans (h2.mono hb.size)⟩)
  have HA : Hid (∀ w1, Below w.heap.size w w1 → Calls Tryd.prog 25 #[.string ⟨#[97, 47, 98, 47, 99]⟩] w1 fun e w' => (∃ v, e = .returned v ∧ SlV w' v (sl [[97], [97, 47, 98]])) ∧ Below w.heap.size w w') := Lib.hid (fun w1 hb => by
    have h := above_walk [97, 47, 98, 47, 99] (by decide) w1
    unfold SlPost at h
    rw [show Pt.above [97, 47, 98, 47, 99] = [[97], [97, 47, 98]] by kernel_rfl] at h
    exact h.mono fun _ _ ⟨v, h1, h2, h3⟩ => ⟨⟨v, h1, h2⟩, hb.trans (h3.mono hb.size)⟩)
  have HE : Hid (∀ v1 w1, Below w.heap.size w w1 → SlV w1 v1 (sl [[97], [97, 47, 98]]) → Calls Tryd.prog 16 #[v1, .slice (some ⟨w1.heap.size, 0, none⟩) 2 2] (w1.alloc (.cells #[.string ⟨#[97]⟩, .string ⟨#[97, 47, 98]⟩] 9)) fun e w' => e = .returned (.bool true) ∧ Below w.heap.size w w') := Lib.hid (fun v1 w1 hb hv => by
    have h := eq_walk [[97], [97, 47, 98]] [[97], [97, 47, 98]] (by decide) v1 (.slice (some ⟨w1.heap.size, 0, none⟩) 2 2) (w1.alloc (.cells #[.string ⟨#[97]⟩, .string ⟨#[97, 47, 98]⟩] 9)) (hv.below ((Below.refl _ _).alloc (Nat.le_refl _) _) (Nat.le_refl _)) (slv_new w1 (sl [[97], [97, 47, 98]]) 9)
    have hb2 := hb.alloc hb.size (.cells #[.string ⟨#[97]⟩, .string ⟨#[97, 47, 98]⟩] 9)
    exact h.mono fun _ _ ⟨h1, h2⟩ => ⟨h1, hb2.trans (h2.mono hb2.size)⟩)
  have s0 : ((⟨#[]⟩ : ByteArray).toList == []) = true := by kernel_rfl
  have s1 : ((⟨#[97, 47, 46, 120]⟩ : ByteArray).toList == [97, 47, 46, 120]) = true := by kernel_rfl
  have s2 : ((⟨#[97, 47, 98]⟩ : ByteArray).toList == [97, 47, 98]) = true := by kernel_rfl
  have s3 : ((⟨#[97, 47, 98, 47, 99]⟩ : ByteArray).toList == [97, 47, 98, 47, 99]) = true := by kernel_rfl
  have HB : Hid (Below w.heap.size w w) := Lib.hid (Below.refl _ _)
  go_enter Tryd.func33, Tryd.ntmps33
  go_wp2_with (first
    | ((with_reducible refine (H0.out _ HB.out).mono ?_); rintro e w1 ⟨rfl, hb⟩; replace HB := Lib.hid hb; clear hb)
    | ((with_reducible refine (H1.out _ HB.out).mono ?_); rintro e w1 ⟨rfl, hb⟩; replace HB := Lib.hid hb; clear hb)
    | ((with_reducible refine (H2.out _ HB.out).mono ?_); rintro e w1 ⟨rfl, hb⟩; replace HB := Lib.hid hb; clear hb)
    | ((with_reducible refine (H3.out _ HB.out).mono ?_); rintro e w1 ⟨rfl, hb⟩; replace HB := Lib.hid hb; clear hb)
    | ((with_reducible refine (H4.out _ HB.out).mono ?_); rintro e w1 ⟨rfl, hb⟩; replace HB := Lib.hid hb; clear hb)
    | ((with_reducible refine (H5.out _ HB.out).mono ?_); rintro e w1 ⟨rfl, hb⟩; replace HB := Lib.hid hb; clear hb)
    | ((with_reducible refine (H6.out _ HB.out).mono ?_); rintro e w1 ⟨rfl, hb⟩; replace HB := Lib.hid hb; clear hb)
    | ((with_reducible refine (H7.out _ HB.out).mono ?_); rintro e w1 ⟨rfl, hb⟩; replace HB := Lib.hid hb; clear hb)
    | ((with_reducible refine (H8.out _ HB.out).mono ?_); rintro e w1 ⟨rfl, hb⟩; replace HB := Lib.hid hb; clear hb)
    | ((with_reducible refine (HA.out _ HB.out).mono ?_); rintro e w1 ⟨⟨v, rfl, hv⟩, hb⟩; replace HB := Lib.hid hb; have HV := Lib.hid hv; clear hb hv)
    | ((with_reducible refine (HE.out _ _ HB.out HV.out).mono ?_); rintro e w1 ⟨rfl, hb⟩; replace HB := Lib.hid hb; clear hb))
  go_ret
  exact ⟨rfl, HB.out⟩
end Go.Proofs.YtgdnemjlmhmhhaaDoor
