/-
  The law of what is clean.
-/
import Derived.Test.YtgdnemjlmhmhhaaDoorHcb
import Derived.Test.YtgdnemjlmhmhhaaDoorHwb
namespace Go.Proofs.YtgdnemjlmhmhhaaDoor
open Go.RowKit Go.Maps

set_option maxRecDepth 100000 in
set_option maxHeartbeats 16000000 in
theorem cleans_walk (w : World) (s : List UInt8) (hs : s.length ≤ maxLen) (hm : ∃ m, w.cell? ⟨0, 0, none⟩ = some (.int .i64 m)) : Calls Tryd.prog 5 #[.string (sb s)] w (WakePost w) := by
  unfold WakePost
  unfold maxLen at hs
  have hcut1 := cutS s 5000
  have hsz1 := sb_size s
  have hp5 : (s.take 5000).length ≤ 5000 := List.length_take_le _ _
  obtain ⟨p, hp⟩ : ∃ p, s.take 5000 = p := ⟨_, rfl⟩
  rw [hp] at hcut1 hp5
  have hs1 : ((sb s).size : Int) ≤ 9223372036854775807 := by omega
  have hc1 : (sb s).extract 0 (min ((sb s).size : Int) 5000).toNat = sb p := hcut1
  generalize sb s = b1 at *
  clear hs hcut1 hsz1 hp
  have hrl := rep_len p
  have hwl : (wrapT p).length ≤ 25000 := by unfold wrapT; simp; omega
  have HML : Hid (∀ w1, Below w.heap.size w w1 → ∃ m, w1.cell? ⟨0, 0, none⟩ = some (.int .i64 m)) := Lib.hid (fun w1 hb => by
    obtain ⟨m, hm⟩ := hm
    exact ⟨m, by rw [hb.cell (p := ⟨0, 0, none⟩) (block_lt_of_cell hm)]; exact hm⟩)
  have HW : Hid (∀ w1, Below w.heap.size w w1 → Calls Tryd.prog 33 #[] w1 fun e w' => e = .returned (.bool true) ∧ Below w.heap.size w w') := Lib.hid (fun w1 hb => by
    have h := wakes_walk w1
    unfold WakePost at h
    exact h.mono fun _ _ ⟨h1, h2⟩ => ⟨h1, hb.trans (h2.mono hb.size)⟩)
  have HB : Hid (Below w.heap.size w w) := Lib.hid (Below.refl _ _)
  have HC0 : Hid (∀ w1, Below w.heap.size w w1 → Calls Tryd.prog 8 #[.string (sb (p))] w1 fun e w' => e = .returned (.tuple #[.string (sb (Pt.cleanP (p))), .int .i64 (Pt.cleanE (p))]) ∧ Below w.heap.size w w') := Lib.hid (fun w1 hb => by
    have h := clean_walk (p) (by first | omega | (simp; omega)) w1
    unfold CleanPost at h
    exact h.mono fun _ _ ⟨h1, h2⟩ => ⟨h1, hb.trans (h2.mono hb.size)⟩)
  have HC1 : Hid (∀ w1, Below w.heap.size w w1 → Calls Tryd.prog 8 #[.string (sb (47 :: p))] w1 fun e w' => e = .returned (.tuple #[.string (sb (Pt.cleanP (47 :: p))), .int .i64 (Pt.cleanE (47 :: p))]) ∧ Below w.heap.size w w') := Lib.hid (fun w1 hb => by
    have h := clean_walk (47 :: p) (by first | omega | (simp; omega)) w1
    unfold CleanPost at h
    exact h.mono fun _ _ ⟨h1, h2⟩ => ⟨h1, hb.trans (h2.mono hb.size)⟩)
  have HC2 : Hid (∀ w1, Below w.heap.size w w1 → Calls Tryd.prog 8 #[.string (sb (p ++ [47, 46, 46]))] w1 fun e w' => e = .returned (.tuple #[.string (sb (Pt.cleanP (p ++ [47, 46, 46]))), .int .i64 (Pt.cleanE (p ++ [47, 46, 46]))]) ∧ Below w.heap.size w w') := Lib.hid (fun w1 hb => by
    have h := clean_walk (p ++ [47, 46, 46]) (by first | omega | (simp; omega)) w1
    unfold CleanPost at h
    exact h.mono fun _ _ ⟨h1, h2⟩ => ⟨h1, hb.trans (h2.mono hb.size)⟩)
  have HC3 : Hid (∀ w1, Below w.heap.size w w1 → Calls Tryd.prog 8 #[.string (sb ([46, 46, 47] ++ p))] w1 fun e w' => e = .returned (.tuple #[.string (sb (Pt.cleanP ([46, 46, 47] ++ p))), .int .i64 (Pt.cleanE ([46, 46, 47] ++ p))]) ∧ Below w.heap.size w w') := Lib.hid (fun w1 hb => by
    have h := clean_walk ([46, 46, 47] ++ p) (by first | omega | (simp; omega)) w1
    unfold CleanPost at h
    exact h.mono fun _ _ ⟨h1, h2⟩ => ⟨h1, hb.trans (h2.mono hb.size)⟩)
  have HC4 : Hid (∀ w1, Below w.heap.size w w1 → Calls Tryd.prog 8 #[.string (sb (wrapT p))] w1 fun e w' => e = .returned (.tuple #[.string (sb (Pt.cleanP (wrapT p))), .int .i64 (Pt.cleanE (wrapT p))]) ∧ Below w.heap.size w w') := Lib.hid (fun w1 hb => by
    have h := clean_walk (wrapT p) (by first | omega | (simp; omega)) w1
    unfold CleanPost at h
    exact h.mono fun _ _ ⟨h1, h2⟩ => ⟨h1, hb.trans (h2.mono hb.size)⟩)
  have HRp : Hid (∀ w1, Below w.heap.size w w1 → Calls Tryd.prog 34 #[.string (sb p), .string ⟨#[47]⟩, .string ⟨#[47, 46, 47, 47]⟩] w1 fun e w' => e = .returned (.string (sb (rep p))) ∧ Below w.heap.size w w') := Lib.hid (fun w1 hb => by
    have h := replace_walk p (by omega) w1 (HML.out w1 hb)
    exact h.mono fun _ _ ⟨h1, h2⟩ => ⟨h1, hb.trans (h2.mono hb.size)⟩)
  have HPx : Hid (∀ w1, Below w.heap.size w w1 → Calls Tryd.prog 35 #[.string (sb p), .string ⟨#[47]⟩] w1 fun e w' => e = .returned (.bool ([47].isPrefixOf p)) ∧ Below w.heap.size w w') := Lib.hid (fun w1 hb => by
    have h := hp_walk (sb p) ⟨#[47]⟩ w1
    rw [sb_data] at h
    exact h.mono fun _ _ ⟨h1, h2⟩ => ⟨h1, by rw [h2]; exact hb⟩)
  obtain ⟨t1, t2, t3⟩ := clean_three p
  rw [t1] at HC1
  rw [t2] at HC2
  rw [t3] at HC3
  have k1 : (⟨#[47]⟩ : ByteArray) ++ sb p = sb (47 :: p) := sb_append [47] p
  have k2 : sb p ++ (⟨#[47, 46, 46]⟩ : ByteArray) = sb (p ++ [47, 46, 46]) := sb_append p [47, 46, 46]
  have k3 : (⟨#[46, 46, 47]⟩ : ByteArray) ++ sb p = sb ([46, 46, 47] ++ p) := sb_append [46, 46, 47] p
  have k4 : (⟨#[46, 47]⟩ : ByteArray) ++ sb (rep p) = sb ([46, 47] ++ rep p) := sb_append [46, 47] (rep p)
  have k5 : sb ([46, 47] ++ rep p) ++ (⟨#[47, 46]⟩ : ByteArray) = sb (wrapT p) := sb_append ([46, 47] ++ rep p) [47, 46]
  have z1 : ((sb p).size : Int) ≤ 5000 := by rw [sb_size]; omega
  have z2 : ((sb (rep p)).size : Int) ≤ 20000 := by rw [sb_size]; omega
  have z3 : ((sb ([46, 47] ++ rep p)).size : Int) ≤ 20002 := by rw [sb_size]; simp; omega
  have y1 : ((⟨#[47]⟩ : ByteArray).size : Int) = 1 := rfl
  have y2 : ((⟨#[47, 46, 46]⟩ : ByteArray).size : Int) = 3 := rfl
  have y3 : ((⟨#[46, 46, 47]⟩ : ByteArray).size : Int) = 3 := rfl
  have y4 : ((⟨#[46, 47]⟩ : ByteArray).size : Int) = 2 := rfl
  have y5 : ((⟨#[47, 46]⟩ : ByteArray).size : Int) = 2 := rfl
  have hpp : ((sb (Pt.cleanP p)).toList == (sb (Pt.cleanP p)).toList) = true := beq_self_eq_true _
  have hbad := @clean_bad p
  have hwc := @wrap_clean p
  have hno := @cleanP_bad p
  have hem : Pt.cleanE p ≠ 0 → ((sb (Pt.cleanP p)).toList == []) = true := fun h => by rw [sb_list, cleanP_bad h]; rfl
  clear t1 t2 t3 hrl hwl
  cases hD : [47].isPrefixOf p
  · rw [hD] at HPx
    obtain ⟨hw1, hw2⟩ := hwc hD
    rw [hw1, hw2] at HC4
    rcases cleanE_vals p with hE | hE | hE
    · rw [hE] at HC0 HC4 hem
      have he := hem (by decide)
      clear hD hw1 hw2 hbad hwc hno hem hE hp5
      generalize sb (Pt.cleanP (47 :: p)) = x0 at *
      generalize sb (Pt.cleanP (p ++ [47, 46, 46])) = x1 at *
      generalize sb (Pt.cleanP ([46, 46, 47] ++ p)) = x2 at *
      generalize sb (47 :: p) = x3 at *
      generalize sb (p ++ [47, 46, 46]) = x4 at *
      generalize sb ([46, 46, 47] ++ p) = x5 at *
      generalize sb ([46, 47] ++ rep p) = x6 at *
      generalize sb (rep p) = x7 at *
      generalize sb (wrapT p) = x8 at *
      generalize sb (Pt.cleanP p) = x9 at *
      generalize sb p = x10 at *
      go_enter Tryd.func5, Tryd.ntmps5
      go_wp2_with (first
        | ((with_reducible refine (HC0.out _ HB.out).mono ?_); rintro e w1 ⟨rfl, hb⟩; replace HB := Lib.hid hb; clear hb)
        | ((with_reducible refine (HC1.out _ HB.out).mono ?_); rintro e w1 ⟨rfl, hb⟩; replace HB := Lib.hid hb; clear hb)
        | ((with_reducible refine (HC2.out _ HB.out).mono ?_); rintro e w1 ⟨rfl, hb⟩; replace HB := Lib.hid hb; clear hb)
        | ((with_reducible refine (HC3.out _ HB.out).mono ?_); rintro e w1 ⟨rfl, hb⟩; replace HB := Lib.hid hb; clear hb)
        | ((with_reducible refine (HC4.out _ HB.out).mono ?_); rintro e w1 ⟨rfl, hb⟩; replace HB := Lib.hid hb; clear hb)
        | ((with_reducible refine (HRp.out _ HB.out).mono ?_); rintro e w1 ⟨rfl, hb⟩; replace HB := Lib.hid hb; clear hb)
        | ((with_reducible refine (HPx.out _ HB.out).mono ?_); rintro e w1 ⟨rfl, hb⟩; replace HB := Lib.hid hb; clear hb)
        | ((with_reducible refine (HW.out _ HB.out).mono ?_); rintro e w1 ⟨rfl, hb⟩; replace HB := Lib.hid hb; clear hb))
      go_ret
      exact ⟨rfl, HB.out⟩
    · rw [hE] at HC0 HC4 hem
      have he := hem (by decide)
      clear hD hw1 hw2 hbad hwc hno hem hE hp5
      generalize sb (Pt.cleanP (47 :: p)) = x0 at *
      generalize sb (Pt.cleanP (p ++ [47, 46, 46])) = x1 at *
      generalize sb (Pt.cleanP ([46, 46, 47] ++ p)) = x2 at *
      generalize sb (47 :: p) = x3 at *
      generalize sb (p ++ [47, 46, 46]) = x4 at *
      generalize sb ([46, 46, 47] ++ p) = x5 at *
      generalize sb ([46, 47] ++ rep p) = x6 at *
      generalize sb (rep p) = x7 at *
      generalize sb (wrapT p) = x8 at *
      generalize sb (Pt.cleanP p) = x9 at *
      generalize sb p = x10 at *
      go_enter Tryd.func5, Tryd.ntmps5
      go_wp2_with (first
        | ((with_reducible refine (HC0.out _ HB.out).mono ?_); rintro e w1 ⟨rfl, hb⟩; replace HB := Lib.hid hb; clear hb)
        | ((with_reducible refine (HC1.out _ HB.out).mono ?_); rintro e w1 ⟨rfl, hb⟩; replace HB := Lib.hid hb; clear hb)
        | ((with_reducible refine (HC2.out _ HB.out).mono ?_); rintro e w1 ⟨rfl, hb⟩; replace HB := Lib.hid hb; clear hb)
        | ((with_reducible refine (HC3.out _ HB.out).mono ?_); rintro e w1 ⟨rfl, hb⟩; replace HB := Lib.hid hb; clear hb)
        | ((with_reducible refine (HC4.out _ HB.out).mono ?_); rintro e w1 ⟨rfl, hb⟩; replace HB := Lib.hid hb; clear hb)
        | ((with_reducible refine (HRp.out _ HB.out).mono ?_); rintro e w1 ⟨rfl, hb⟩; replace HB := Lib.hid hb; clear hb)
        | ((with_reducible refine (HPx.out _ HB.out).mono ?_); rintro e w1 ⟨rfl, hb⟩; replace HB := Lib.hid hb; clear hb)
        | ((with_reducible refine (HW.out _ HB.out).mono ?_); rintro e w1 ⟨rfl, hb⟩; replace HB := Lib.hid hb; clear hb))
      go_ret
      exact ⟨rfl, HB.out⟩
    · obtain ⟨kg, ks, ke, kf, kl, ka1, ka2⟩ := clean_kept hE
      rw [hE] at HC0 HC4
      obtain ⟨K, hK⟩ : ∃ K, Pt.kept (Pt.parts p) = K := ⟨_, rfl⟩
      rw [hK] at ks ke kf
      have HSp : Hid (∀ w1, Calls Tryd.prog 17 #[.string (sb (Pt.cleanP p))] w1 fun e w' => ∃ v, e = .returned v ∧ SlV w' v (sl K) ∧ Below w1.heap.size w1 w') := Lib.hid (fun w1 => by
        have h := split_walk (Pt.cleanP p) (by omega) w1
        unfold SlPost at h
        rw [ks] at h; exact h)
      have HC5 : Hid (∀ w1, Below w.heap.size w w1 → Calls Tryd.prog 8 #[.string (sb (Pt.cleanP p))] w1 fun e w' => e = .returned (.tuple #[.string (sb (Pt.cleanP p)), .int .i64 0]) ∧ Below w.heap.size w w') := Lib.hid (fun w1 hb => by
        have h := clean_walk (Pt.cleanP p) (by omega) w1
        unfold CleanPost at h
        rw [ka1, ka2] at h
        exact h.mono fun _ _ ⟨h1, h2⟩ => ⟨h1, hb.trans (h2.mono hb.size)⟩)
      have HKE := Lib.hid ke
      have hz4 : ((sb (Pt.cleanP p)).size : Int) ≤ 4096 := by rw [sb_size]; omega
      obtain ⟨N, hN⟩ : ∃ N, K.length = N := ⟨_, rfl⟩
      have HN := Lib.hid hN
      rw [hN] at kf
      have HCA : Hid (∀ x ∈ K, ∀ w1, Below w.heap.size w w1 → Calls Tryd.prog 36 #[.string (sb x), .string ⟨#[47, 0]⟩] w1 fun e w' => e = .returned (.bool false) ∧ Below w.heap.size w w' ∧ Below w1.heap.size w1 w') := Lib.hid (fun x hx w1 hb => by
        obtain ⟨_, _, _, h4, h5⟩ := ke x hx
        have h := ca_walk x (by omega) w1
        rw [h5] at h
        exact h.mono fun _ _ ⟨h1, h2⟩ => ⟨h1, hb.trans (h2.mono hb.size), h2⟩)
      clear hD hw1 hw2 hbad hwc hno hem hE hp5 kg ks ke kl ka1 ka2 hK hN
      generalize sb (Pt.cleanP (47 :: p)) = x0 at *
      generalize sb (Pt.cleanP (p ++ [47, 46, 46])) = x1 at *
      generalize sb (Pt.cleanP ([46, 46, 47] ++ p)) = x2 at *
      generalize sb (47 :: p) = x3 at *
      generalize sb (p ++ [47, 46, 46]) = x4 at *
      generalize sb ([46, 46, 47] ++ p) = x5 at *
      generalize sb ([46, 47] ++ rep p) = x6 at *
      generalize sb (rep p) = x7 at *
      generalize sb (wrapT p) = x8 at *
      generalize sb (Pt.cleanP p) = x9 at *
      generalize sb p = x10 at *
      go_enter Tryd.func5, Tryd.ntmps5
      go_wp2_with (first
        | ((with_reducible refine (HC0.out _ HB.out).mono ?_); rintro e w1 ⟨rfl, hb⟩; replace HB := Lib.hid hb; clear hb)
        | ((with_reducible refine (HC1.out _ HB.out).mono ?_); rintro e w1 ⟨rfl, hb⟩; replace HB := Lib.hid hb; clear hb)
        | ((with_reducible refine (HC2.out _ HB.out).mono ?_); rintro e w1 ⟨rfl, hb⟩; replace HB := Lib.hid hb; clear hb)
        | ((with_reducible refine (HC3.out _ HB.out).mono ?_); rintro e w1 ⟨rfl, hb⟩; replace HB := Lib.hid hb; clear hb)
        | ((with_reducible refine (HC4.out _ HB.out).mono ?_); rintro e w1 ⟨rfl, hb⟩; replace HB := Lib.hid hb; clear hb)
        | ((with_reducible refine (HRp.out _ HB.out).mono ?_); rintro e w1 ⟨rfl, hb⟩; replace HB := Lib.hid hb; clear hb)
        | ((with_reducible refine (HPx.out _ HB.out).mono ?_); rintro e w1 ⟨rfl, hb⟩; replace HB := Lib.hid hb; clear hb)
        | ((with_reducible refine (HW.out _ HB.out).mono ?_); rintro e w1 ⟨rfl, hb⟩; replace HB := Lib.hid hb; clear hb)
        | ((with_reducible refine (HSp.out _).mono ?_); rintro e w1 ⟨v, rfl, hv, hb⟩; obtain ⟨pp, cap, rfl⟩ := hv.shape; have hnn := HN.out; rw [sl_length, hnn] at hv ⊢; clear hnn; have HV := Lib.hid hv; replace HB := Lib.hid (HB.out.trans (hb.mono HB.out.size)); clear hb hv))
      go_loopw [94] (fun v94 wr => ∃ k : Nat, k ≤ N ∧ v94 = .int .i64 (k : Int) ∧ Below w1.heap.size w1 wr) (fun v94 _ => N - (intOf v94).toNat)
      case atStart => exact ⟨0, Nat.zero_le _, rfl, Below.refl _ _⟩
      case round =>
        obtain ⟨k, hk, rfl, hb2⟩ := hrel
        have HB2 := Lib.hid hb2
        clear hb2
        by_cases hkN : k < N
        · obtain ⟨g, o, rfl, hrow⟩ := HV.out.some (by omega)
          have hkl : k < K.length := by rw [HN.out]; exact hkN
          have hcell := HB2.out.cell (p := ⟨g, o + k, none⟩) (block_lt_of_cell (hrow.sl k hkl))
          rw [hrow.sl k hkl] at hcell
          have hcap := HV.out.le
          have hkI : (k : Int) < (N : Int) := by omega
          have ek : K.getD k [] = K[k] := by simp [hkl]
          have hmem : K.getD k [] ∈ K := by rw [ek]; exact List.getElem_mem hkl
          obtain ⟨e1, e2, e3, e4, _⟩ := HKE.out _ hmem
          have HCC := Lib.hid (HCA.out _ hmem wr (HB.out.trans (HB2.out.mono HB.out.size)))
          have q0 : ((sb (K.getD k [])).toList == []) = false := by rw [sb_list]; simpa using e1
          have q1 : ((sb (K.getD k [])).toList == [46]) = false := by rw [sb_list]; simpa using e2
          have q2 : ((sb (K.getD k [])).toList == [46, 46]) = false := by rw [sb_list]; simpa using e3
          have q3 : decide (255 < ((sb (K.getD k [])).size : Int)) = false := decide_eq_false (by rw [sb_size]; omega)
          clear hrow hkl ek hmem e1 e2 e3 e4
          generalize sb (K.getD k []) = bx at *
          go_wp2_with ((with_reducible refine HCC.out.mono ?_); rintro e w2 ⟨rfl, hb3, hb4⟩; have HB4 := Lib.hid hb4; clear hb3 hb4)
          go_roundw
          case rel => exact ⟨k + 1, by omega, by go_num, HB2.out.trans (HB4.out.mono HB2.out.size)⟩
          case measure => simp [intOf] <;> omega
        · obtain rfl : k = N := by omega
          have hz9 : decide ((k : Int) < (k : Int)) = false := decide_eq_false (by omega)
          replace HB := Lib.hid (HB.out.trans (HB2.out.mono HB.out.size))
          go_wp2_with (first
            | ((with_reducible refine (HC5.out _ HB.out).mono ?_); rintro e w1 ⟨rfl, hb⟩; replace HB := Lib.hid hb; clear hb)
            | ((with_reducible refine (HW.out _ HB.out).mono ?_); rintro e w1 ⟨rfl, hb⟩; replace HB := Lib.hid hb; clear hb))
          go_ret
          exact ⟨rfl, HB.out⟩
  · rw [hD] at HPx
    have hE := (hbad (by rw [hD, Bool.or_true])).1
    rw [hE] at HC0 hem
    have he := hem (by decide)
    clear hD hbad hwc hno hem hE hp5
    generalize Pt.cleanE (wrapT p) = x20 at *
    generalize sb (Pt.cleanP (wrapT p)) = x21 at *
    generalize sb (Pt.cleanP (47 :: p)) = x0 at *
    generalize sb (Pt.cleanP (p ++ [47, 46, 46])) = x1 at *
    generalize sb (Pt.cleanP ([46, 46, 47] ++ p)) = x2 at *
    generalize sb (47 :: p) = x3 at *
    generalize sb (p ++ [47, 46, 46]) = x4 at *
    generalize sb ([46, 46, 47] ++ p) = x5 at *
    generalize sb ([46, 47] ++ rep p) = x6 at *
    generalize sb (rep p) = x7 at *
    generalize sb (wrapT p) = x8 at *
    generalize sb (Pt.cleanP p) = x9 at *
    generalize sb p = x10 at *
    go_enter Tryd.func5, Tryd.ntmps5
    go_wp2_with (first
      | ((with_reducible refine (HC0.out _ HB.out).mono ?_); rintro e w1 ⟨rfl, hb⟩; replace HB := Lib.hid hb; clear hb)
      | ((with_reducible refine (HC1.out _ HB.out).mono ?_); rintro e w1 ⟨rfl, hb⟩; replace HB := Lib.hid hb; clear hb)
      | ((with_reducible refine (HC2.out _ HB.out).mono ?_); rintro e w1 ⟨rfl, hb⟩; replace HB := Lib.hid hb; clear hb)
      | ((with_reducible refine (HC3.out _ HB.out).mono ?_); rintro e w1 ⟨rfl, hb⟩; replace HB := Lib.hid hb; clear hb)
      | ((with_reducible refine (HC4.out _ HB.out).mono ?_); rintro e w1 ⟨rfl, hb⟩; replace HB := Lib.hid hb; clear hb)
      | ((with_reducible refine (HRp.out _ HB.out).mono ?_); rintro e w1 ⟨rfl, hb⟩; replace HB := Lib.hid hb; clear hb)
      | ((with_reducible refine (HPx.out _ HB.out).mono ?_); rintro e w1 ⟨rfl, hb⟩; replace HB := Lib.hid hb; clear hb)
      | ((with_reducible refine (HW.out _ HB.out).mono ?_); rintro e w1 ⟨rfl, hb⟩; replace HB := Lib.hid hb; clear hb))
    go_ret
    exact ⟨rfl, HB.out⟩
end Go.Proofs.YtgdnemjlmhmhhaaDoor
