/-
  The document's own answers: May, Join, cut, Parent, Base, Above, Under, Whiteout, Opaque.
-/
import Derived.Test.YtgdnemjlmhmhhaaDoorHrb
namespace Go.Proofs.YtgdnemjlmhmhhaaDoor
open Go.RowKit Go.Maps

set_option maxRecDepth 100000 in
set_option maxHeartbeats 4000000 in
theorem rmay_walk (p : List UInt8) (hp : p.length ≤ 100000) (w : World) : Calls Tryd.prog 15 #[.string (sb p)] w fun e w' => e = .returned (.bool (Pt.may p)) ∧ Below w.heap.size w w' := by
  have hsz : ((sb p).size : Int) = (p.length : Int) := by rw [sb_size]
  have hE : Pt.may p = (decide (p.length ≤ 4080) && (decide ((Pt.split p).length ≤ 254) && (Pt.split p).all Pt.mayName)) := rfl
  rw [hE]
  have HS := Lib.hid (rsplit_walk p hp w)
  unfold SlPost at HS
  have hml := split_mem p
  have hsl := split_len p
  have hd4 : decide (((sb p).size : Int) ≤ 4080) = decide (p.length ≤ 4080) := decide_eq_decide.2 (by omega)
  generalize decide (p.length ≤ 4080) = D4 at *
  obtain ⟨L, hL⟩ : ∃ L, Pt.split p = L := ⟨_, rfl⟩
  rw [hL] at HS hml hsl ⊢
  obtain ⟨N, hN⟩ : ∃ N, L.length = N := ⟨_, rfl⟩
  have HN := Lib.hid hN
  rw [hN] at hsl ⊢
  have HMN : Hid (∀ x ∈ L, ∀ w, _) := Lib.hid (fun x hx w => rmayName_walk x (by have := hml x hx; omega) w)
  have hd2 : decide ((N : Int) ≤ 254) = decide (N ≤ 254) := decide_eq_decide.2 (by omega)
  generalize sb p = b at *
  generalize decide (N ≤ 254) = D2 at *
  clear hE hsz hL hN hml
  go_enter Tryd.func15, Tryd.ntmps15
  go_wp2_with ((with_reducible refine HS.out.mono ?_); rintro e w1 ⟨v, rfl, hv, hb⟩; obtain ⟨pp, cap, rfl⟩ := hv.shape; have hnn := HN.out; rw [sl_length, hnn] at hv ⊢; clear hnn; have HV := Lib.hid hv; have HB := Lib.hid hb; clear hv hb)
  go_loopw [4] (fun v4 wr => ∃ k : Nat, k ≤ N ∧ v4 = .int .i64 (k : Int) ∧ (L.take k).all Pt.mayName = true ∧ wr = w1) (fun v4 _ => N - (intOf v4).toNat)
  case atStart => exact ⟨0, Nat.zero_le _, rfl, rfl, rfl⟩
  case round =>
    obtain ⟨k, hk, rfl, hal, rfl⟩ := hrel
    have HA := Lib.hid hal
    clear hal
    by_cases hkN : k < N
    · obtain ⟨g, o, rfl, hrow⟩ := HV.out.some (by omega)
      have hkl : k < L.length := by rw [HN.out]; exact hkN
      have hcell := hrow.sl k hkl
      have hcap := HV.out.le
      have hkI : (k : Int) < (N : Int) := by omega
      have ek : L.getD k [] = L[k] := by simp [hkl]
      have HC : Hid (∀ w, _) := Lib.hid (HMN.out (L.getD k []) (by rw [ek]; exact List.getElem_mem hkl))
      have HT : Hid ((L.take (k + 1)).all Pt.mayName = Pt.mayName (L.getD k [])) := Lib.hid (by
        rw [List.take_succ_eq_append_getElem hkl, List.all_append, HA.out, ek]; simp)
      have HF : Hid (Pt.mayName (L.getD k []) = false → L.all Pt.mayName = false) := Lib.hid (fun h => by
        rw [Bool.eq_false_iff]
        intro ha
        rw [List.all_eq_true] at ha
        rw [ek] at h
        exact absurd (ha _ (List.getElem_mem hkl)) (by rw [h]; decide))
      generalize sb (L.getD k []) = bx at *
      generalize Pt.mayName (L.getD k []) = M at *
      clear hrow hkl ek
      cases M
      · have HR := Lib.hid (HF.out rfl)
        go_wp2_with ((with_reducible refine (HC.out _).mono ?_); rintro e w2 ⟨rfl, hw⟩; rw [hw]; clear hw)
        go_ret
        exact ⟨by rw [HR.out]; simp, HB.out⟩
      · go_wp2_with ((with_reducible refine (HC.out _).mono ?_); rintro e w2 ⟨rfl, hw⟩; rw [hw]; clear hw)
        go_roundw
        case rel => exact ⟨k + 1, by omega, by go_num, HT.out, trivial⟩
        case measure => simp [intOf] <;> omega
    · obtain rfl : k = N := by omega
      have hz : decide ((k : Int) < (k : Int)) = false := decide_eq_false (by omega)
      have hall := HA.out
      rw [List.take_of_length_le (by rw [HN.out]; exact Nat.le_refl _)] at hall
      have HAL := Lib.hid hall
      clear hall
      cases D2
      · go_wp2_with fail
        go_ret
        exact ⟨by simp, HB.out⟩
      · go_wp2_with fail
        go_ret
        exact ⟨by rw [HAL.out]; cases D4 <;> rfl, HB.out⟩
theorem glue_snoc (l : List (List UInt8)) (x : List UInt8) (hl : l ≠ []) : Pt.glue (l ++ [x]) = Pt.glue l ++ 47 :: x := by
  induction l with
  | nil => exact absurd rfl hl
  | cons a r ih =>
    cases r with
    | nil => rfl
    | cons b r =>
      show a ++ 47 :: Pt.glue ((b :: r) ++ [x]) = (a ++ 47 :: Pt.glue (b :: r)) ++ 47 :: x
      rw [ih (by simp)]
      simp
theorem glue_ne {l : List (List UInt8)} (h : ∀ x ∈ l, x ≠ []) (hl : l ≠ []) : Pt.glue l ≠ [] := by
  cases l with
  | nil => exact absurd rfl hl
  | cons a r =>
    have ha := h a (by simp)
    cases r with
    | nil => exact ha
    | cons b r => intro e; have : a ++ 47 :: Pt.glue (b :: r) = [] := e; simp at this
theorem full_ne (l : List (List UInt8)) : ∀ x ∈ Pt.full l, x ≠ [] := fun x hx => by
  have := (List.mem_filter.1 hx).2
  simpa using this
/-- Join grows with its names. -/
theorem join_succ (l : List (List UInt8)) (k : Nat) (hk : k < l.length) : Pt.join (l.take (k + 1)) = if l.getD k [] = [] then Pt.join (l.take k) else if Pt.join (l.take k) = [] then l.getD k [] else Pt.join (l.take k) ++ 47 :: l.getD k [] := by
  unfold Pt.join
  rw [full_succ l k hk]
  by_cases h : l.getD k [] = []
  · rw [if_pos h, if_pos h]
  · rw [if_neg h, if_neg h]
    by_cases h2 : Pt.full (l.take k) = []
    · rw [h2]; rfl
    · rw [glue_snoc _ _ h2, if_neg (glue_ne (full_ne _) h2)]
theorem join_le (l : List (List UInt8)) (k : Nat) : (Pt.join (l.take k)).length ≤ (Pt.join l).length := by
  by_cases h : k < l.length
  · have h1 := join_succ l k h
    have h2 := join_le l (k + 1)
    have : (Pt.join (l.take k)).length ≤ (Pt.join (l.take (k + 1))).length := by
      rw [h1]
      split
      · exact Nat.le_refl _
      · split
        · rename_i e; rw [e]; exact Nat.zero_le _
        · simp
    omega
  · rw [List.take_of_length_le (by omega)]; exact Nat.le_refl _
termination_by l.length - k
set_option maxRecDepth 100000 in
set_option maxHeartbeats 4000000 in
theorem rjoin_walk (l : List (List UInt8)) (hl : l.length ≤ 1000000) (hG : (Pt.join l).length ≤ 1000000) (hm : ∀ x ∈ l, x.length ≤ 1000000) (v : Value) (w : World) (hv : SlV w v (sl l)) : Calls Tryd.prog 20 #[v] w fun e w' => e = .returned (.string (sb (Pt.join l))) ∧ w' = w := by
  obtain ⟨p, cap, rfl⟩ := hv.shape
  rw [sl_length] at *
  obtain ⟨N, hN⟩ : ∃ N, l.length = N := ⟨_, rfl⟩
  have HV := Lib.hid hv
  have HN := Lib.hid hN
  have HG := Lib.hid hG
  have HMM := Lib.hid hm
  rw [hN] at hl HV ⊢
  clear hv hN hG hm
  have hsl : ((⟨#[47]⟩ : ByteArray).size : Int) = 1 := rfl
  go_enter Tryd.func20, Tryd.ntmps20
  go_wp2_with fail
  go_loopw [3, 4] (fun v3 v4 wr => ∃ k : Nat, k ≤ N ∧ v4 = .int .i64 (k : Int) ∧ v3 = .string (sb (Pt.join (l.take k))) ∧ wr = w) (fun _ v4 _ => N - (intOf v4).toNat)
  case atStart => exact ⟨0, Nat.zero_le _, rfl, rfl, rfl⟩
  case round =>
    obtain ⟨k, hk, rfl, rfl, rfl⟩ := hrel
    by_cases hkN : k < N
    · obtain ⟨g, o, rfl, hrow⟩ := HV.out.some (by omega)
      have hkl : k < l.length := by rw [HN.out]; exact hkN
      have hcell := hrow.sl k hkl
      have hcap := HV.out.le
      have hkI : (k : Int) < (N : Int) := by omega
      have ek : l.getD k [] = l[k] := by simp [hkl]
      have hxl : (l.getD k []).length ≤ 1000000 := by rw [ek]; exact HMM.out _ (List.getElem_mem hkl)
      have hjl := Nat.le_trans (join_le l k) HG.out
      have HJ := Lib.hid (join_succ l k hkl)
      have hem : ((sb (l.getD k [])).toList == []) = (l.getD k [] == []) := by rw [sb_list]
      have hoe : ((sb (Pt.join (l.take k))).toList == []) = (Pt.join (l.take k) == []) := by rw [sb_list]
      have hz1 : ((sb (l.getD k [])).size : Int) ≤ 1000000 := by rw [sb_size]; omega
      have hz2 : ((sb (Pt.join (l.take k))).size : Int) ≤ 1000000 := by rw [sb_size]; omega
      have hz3 : ((sb (Pt.join (l.take k) ++ [47])).size : Int) ≤ 1000001 := by rw [sb_size, List.length_append, List.length_singleton]; omega
      have hc1 : sb (Pt.join (l.take k)) ++ (⟨#[47]⟩ : ByteArray) = sb (Pt.join (l.take k) ++ [47]) := sb_append _ [47]
      have hc2 : sb (Pt.join (l.take k) ++ [47]) ++ sb (l.getD k []) = sb (Pt.join (l.take k) ++ 47 :: l.getD k []) := by rw [sb_append, List.append_assoc]; rfl
      have hc3 : Pt.join (l.take k) = [] → sb (Pt.join (l.take k)) ++ sb (l.getD k []) = sb (l.getD k []) := fun e => by rw [e]; exact sb_append [] _
      generalize Pt.join (l.take k) = J at *
      generalize l.getD k [] = x at *
      clear hrow hkl ek hxl hjl
      by_cases hx : x = []
      · rw [show (x == []) = true by rw [hx]; rfl] at hem
        have HJ2 := HJ.out
        rw [if_pos hx] at HJ2
        have HJ2 := Lib.hid HJ2
        clear hx HJ hc1 hc2 hc3 hoe
        generalize sb x = bx at *
        generalize hbJ : sb J = bJ at *
        have HBJ := Lib.hid hbJ
        clear hbJ
        go_wp2_with fail
        go_roundw
        case rel => exact ⟨k + 1, by omega, by go_num, by rw [HJ2.out, HBJ.out], trivial⟩
        case measure => simp [intOf] <;> omega
      · rw [show (x == []) = false by simpa using hx] at hem
        have HJ2 := HJ.out
        rw [if_neg hx] at HJ2
        by_cases hj : J = []
        · rw [if_pos hj] at HJ2
          have HJ2 := Lib.hid HJ2
          rw [show (J == []) = true by rw [hj]; rfl] at hoe
          have hc := hc3 hj
          clear hx hj HJ hc1 hc2 hc3 hz3
          generalize hbx : sb x = bx at *
          have HBX := Lib.hid hbx
          generalize sb J = bJ at *
          clear hbx
          go_wp2_with fail
          go_roundw
          case rel => exact ⟨k + 1, by omega, by go_num, by rw [HJ2.out, HBX.out], trivial⟩
          case measure => simp [intOf] <;> omega
        · rw [if_neg hj] at HJ2
          have HJ2 := Lib.hid HJ2
          rw [show (J == []) = false by simpa using hj] at hoe
          clear hx hj HJ hc3
          generalize hb3 : sb (J ++ 47 :: x) = b3 at *
          have HB3 := Lib.hid hb3
          generalize sb (J ++ [47]) = b4 at *
          generalize sb x = bx at *
          generalize sb J = bJ at *
          clear hb3
          go_wp2_with fail
          go_roundw
          case rel => exact ⟨k + 1, by omega, by go_num, by rw [HJ2.out, HB3.out], trivial⟩
          case measure => simp [intOf] <;> omega
    · obtain rfl : k = N := by omega
      have hz : decide ((k : Int) < (k : Int)) = false := decide_eq_false (by omega)
      have htk : l.take k = l := List.take_of_length_le (by rw [HN.out]; exact Nat.le_refl _)
      rw [htk]
      generalize hbj : sb (Pt.join l) = bj at *
      have HBJ := Lib.hid hbj
      clear htk hbj
      go_wp2_with fail
      go_ret
      exact ⟨by rw [HBJ.out]; rfl, rfl⟩
end Go.Proofs.YtgdnemjlmhmhhaaDoor
