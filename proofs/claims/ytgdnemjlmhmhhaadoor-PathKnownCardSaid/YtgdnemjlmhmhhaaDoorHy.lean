/-
  May: every name of a path may be a tree's name.
-/
import Derived.Test.YtgdnemjlmhmhhaaDoorHs
namespace Go.Proofs.YtgdnemjlmhmhhaaDoor
open Go.RowKit Go.Maps

set_option maxHeartbeats 1000000 in
theorem bad_walk (s : List UInt8) (hs : s.length ≤ 100000) (w : World) : Calls Tryd.prog 44 #[.string (sb s)] w fun e w' => e = .returned (.bool (!Pt.mayName s)) ∧ Below w.heap.size w w' := by
  have HC := Lib.hid (mayName_walk s hs w)
  unfold MayPost at HC
  generalize Pt.mayName s = M at *
  generalize sb s = b at *
  clear hs
  go_enter Tryd.func44, Tryd.ntmps44
  go_wp2_with ((with_reducible refine HC.out.mono ?_); rintro e w1 ⟨rfl, hb1⟩; have HB := Lib.hid hb1; clear hb1)
  go_ret
  exact ⟨rfl, HB.out⟩
/-- Where the first bad name stands; -1: there is none. -/
def firstBad : List (List UInt8) → Int
  | [] => -1
  | x :: t => if Pt.mayName x = false then 0 else if firstBad t = -1 then -1 else firstBad t + 1
theorem firstBad_ge (l : List (List UInt8)) : -1 ≤ firstBad l := by
  induction l with
  | nil => exact Int.le_refl _
  | cons x t ih => unfold firstBad; split <;> (try split) <;> omega
theorem firstBad_all (l : List (List UInt8)) : decide (0 ≤ firstBad l) = !(l.all Pt.mayName) := by
  induction l with
  | nil => rfl
  | cons x t ih =>
    have hg := firstBad_ge t
    unfold firstBad
    rw [List.all_cons]
    by_cases h : Pt.mayName x = false
    · rw [if_pos h, h]; rfl
    · rw [if_neg h]
      have h2 : Pt.mayName x = true := by simpa using h
      rw [h2, Bool.true_and, ← ih]
      by_cases h1 : firstBad t = -1
      · rw [h1]; rfl
      · rw [if_neg h1, decide_eq_true (by omega), decide_eq_true (by omega)]
theorem firstBad_hit (l : List (List UInt8)) (k : Nat) (hk : k < l.length) (hno : (l.take k).all Pt.mayName = true) (hb : Pt.mayName (l.getD k []) = false) : firstBad l = (k : Int) := by
  induction l generalizing k with
  | nil => simp at hk
  | cons x t ih =>
    unfold firstBad
    cases k with
    | zero =>
      have : Pt.mayName x = false := by simpa using hb
      rw [if_pos this]; rfl
    | succ k =>
      rw [List.take_succ_cons, List.all_cons, Bool.and_eq_true] at hno
      rw [if_neg (by rw [hno.1]; decide), ih k (by simpa using hk) hno.2 (by simpa using hb), if_neg (by omega)]
      omega
theorem firstBad_none (l : List (List UInt8)) (h : l.all Pt.mayName = true) : firstBad l = -1 := by
  have h1 := firstBad_all l
  have h2 := firstBad_ge l
  rw [h] at h1
  have : ¬ 0 ≤ firstBad l := of_decide_eq_false h1
  omega
set_option maxHeartbeats 2000000 in
theorem idxf_walk (l : List (List UInt8)) (hl : l.length ≤ 1000000) (hs : ∀ x ∈ l, x.length ≤ 100000) (v : Value) (w : World) (hv : SlV w v (sl l)) : Calls Tryd.prog 63 #[v, .func (.func 44) #[] #[]] w fun e w' => e = .returned (.int .i64 (firstBad l)) ∧ Below w.heap.size w w' := by
  obtain ⟨p, cap, rfl⟩ := hv.shape
  rw [sl_length] at *
  obtain ⟨N, hN⟩ : ∃ N, l.length = N := ⟨_, rfl⟩
  have HV := Lib.hid hv
  have HN := Lib.hid hN
  have HS := Lib.hid hs
  rw [hN] at hl HV ⊢
  clear hv hN hs
  go_enter Tryd.func63, Tryd.ntmps63
  go_wp2_with fail
  go_loopw [8] (fun v8 wr => ∃ k : Nat, k ≤ N ∧ v8 = .int .i64 (k : Int) ∧ (l.take k).all Pt.mayName = true ∧ Below w.heap.size w wr) (fun v8 _ => N - (intOf v8).toNat)
  case atStart => exact ⟨0, Nat.zero_le _, rfl, rfl, Below.refl _ _⟩
  case round =>
    obtain ⟨k, hk, rfl, hno, hb⟩ := hrel
    have HB := Lib.hid hb
    have HNO := Lib.hid hno
    clear hb hno
    by_cases hkN : k < N
    · obtain ⟨g, o, rfl, hrow⟩ := HV.out.some (by omega)
      have hcell := HB.out.cell (p := ⟨g, o + k, none⟩) (block_lt_of_cell (hrow.sl k (by rw [HN.out]; exact hkN)))
      rw [hrow.sl k (by rw [HN.out]; exact hkN)] at hcell
      have hlen : (l.getD k []).length ≤ 100000 := by
        have hk2 : k < l.length := by rw [HN.out]; exact hkN
        have : l.getD k [] = l[k] := by simp [hk2]
        rw [this]; exact HS.out _ (List.getElem_mem hk2)
      have HC := Lib.hid (bad_walk (l.getD k []) hlen wr)
      obtain ⟨M, hM⟩ : ∃ M, Pt.mayName (l.getD k []) = M := ⟨_, rfl⟩
      have HM := Lib.hid hM
      rw [hM] at HC
      have hkI : (k : Int) < (N : Int) := by omega
      clear hM hlen hrow
      generalize sb (l.getD k []) = b at *
      cases M
      · go_wp2_with ((with_reducible refine HC.out.mono ?_); rintro e w1 ⟨rfl, hb1⟩; have HB1 := Lib.hid hb1; clear hb1)
        go_ret
        exact ⟨by rw [firstBad_hit l k (by rw [HN.out]; exact hkN) HNO.out HM.out]; rfl, HB.out.trans (HB1.out.mono HB.out.size)⟩
      · go_wp2_with ((with_reducible refine HC.out.mono ?_); rintro e w1 ⟨rfl, hb1⟩; have HB1 := Lib.hid hb1; clear hb1)
        go_roundw
        case rel =>
          refine ⟨k + 1, by omega, by go_num, ?_, HB.out.trans (HB1.out.mono HB.out.size)⟩
          have hk2 : k < l.length := by rw [HN.out]; exact hkN
          rw [List.take_succ_eq_append_getElem hk2, List.all_append, HNO.out]
          have := HM.out
          have e : l.getD k [] = l[k] := by simp [hk2]
          rw [e] at this
          simp [this]
        case measure => simp [intOf]; omega
    · obtain rfl : k = N := by omega
      have hz : decide ((k : Int) < (k : Int)) = false := decide_eq_false (by omega)
      go_wp2_with fail
      go_ret
      refine ⟨?_, HB.out⟩
      have := HNO.out
      rw [List.take_of_length_le (by rw [HN.out]; exact Nat.le_refl _)] at this
      rw [firstBad_none l this]; rfl
set_option maxHeartbeats 1000000 in
theorem contf_walk (l : List (List UInt8)) (hl : l.length ≤ 1000000) (hs : ∀ x ∈ l, x.length ≤ 100000) (v : Value) (w : World) (hv : SlV w v (sl l)) : Calls Tryd.prog 45 #[v, .func (.func 44) #[] #[]] w fun e w' => e = .returned (.bool (!(l.all Pt.mayName))) ∧ Below w.heap.size w w' := by
  have HC := Lib.hid (idxf_walk l hl hs v w hv)
  have HE := Lib.hid (firstBad_all l)
  generalize firstBad l = F at *
  clear hv hl hs
  go_enter Tryd.func45, Tryd.ntmps45
  go_wp2_with ((with_reducible refine HC.out.mono ?_); rintro e w1 ⟨rfl, hb1⟩; have HB1 := Lib.hid hb1; clear hb1)
  go_ret
  exact ⟨by rw [← HE.out]; rfl, HB1.out⟩
theorem parts_mem (p : List UInt8) : ∀ x ∈ Pt.parts p, x.length ≤ p.length := by
  induction p with
  | nil => intro x hx; have : x = [] := by simpa [Pt.parts] using hx
           subst this; exact Nat.le_refl _
  | cons c t ih =>
    rw [parts_cons]
    by_cases hc : c = 47
    · rw [if_pos hc]
      intro x hx
      rcases List.mem_cons.1 hx with rfl | hx
      · exact Nat.zero_le _
      · have := ih x hx; simp; omega
    · rw [if_neg hc]
      split
      · intro x hx
        have : x = [c] := by simpa using hx
        subst this; simp
      · rename_i a r h
        rw [h] at ih
        intro x hx
        rcases List.mem_cons.1 hx with rfl | hx
        · have := ih a (by simp); simp; omega
        · have := ih x (by simp [hx]); simp; omega
theorem split_mem (p : List UInt8) : ∀ x ∈ Pt.split p, x.length ≤ p.length := by
  unfold Pt.split
  split
  · intro x hx; cases hx
  · exact parts_mem p
theorem split_len (p : List UInt8) : (Pt.split p).length ≤ p.length + 1 := by
  unfold Pt.split
  split
  · exact Nat.zero_le _
  · rw [parts_len]; have : p.count 47 ≤ p.length := List.count_le_length
    omega
set_option maxHeartbeats 2000000 in
theorem may_walk (p : List UInt8) (hp : p.length ≤ 100000) (w : World) : Calls Tryd.prog 14 #[.string (sb p)] w fun e w' => e = .returned (.bool (Pt.may p)) ∧ Below w.heap.size w w' := by
  have hsz : ((sb p).size : Int) = (p.length : Int) := by rw [sb_size]
  unfold Pt.may
  by_cases h1 : p.length ≤ 4080
  · rw [decide_eq_true h1]
    have hd : decide (4080 < ((sb p).size : Int)) = false := decide_eq_false (by omega)
    have HC := Lib.hid (split_walk p hp w)
    have hm := split_mem p
    have hl := split_len p
    generalize Pt.split p = L at *
    have HF : Hid (∀ v w1, SlV w1 v (sl L) → Calls Tryd.prog 45 #[v, .func (.func 44) #[] #[]] w1 fun e w' => e = .returned (.bool (!(L.all Pt.mayName))) ∧ Below w1.heap.size w1 w') := Lib.hid (fun v w1 hv => contf_walk L (by omega) (fun x hx => Nat.le_trans (hm x hx) hp) v w1 hv)
    generalize sb p = b at *
    obtain ⟨A, hA⟩ : ∃ A, L.all Pt.mayName = A := ⟨_, rfl⟩
    rw [hA] at HF ⊢
    obtain ⟨N, hN⟩ : ∃ N, L.length = N := ⟨_, rfl⟩
    have HN := Lib.hid hN
    rw [hN] at hl ⊢
    clear hsz hm hp h1 hA hN
    by_cases h2 : N ≤ 254
    · have hd2 : decide ((N : Int) ≤ 254) = true := decide_eq_true (by omega)
      rw [decide_eq_true h2]
      go_enter Tryd.func14, Tryd.ntmps14
      go_wp2_with (first
        | ((with_reducible refine HC.out.mono ?_); rintro e w1 ⟨v, rfl, hv, hb1⟩; obtain ⟨pp, cap, rfl⟩ := hv.shape; rw [sl_length, HN.out] at *; have HB1 := Lib.hid hb1; have HV := Lib.hid (HF.out _ _ hv); clear hb1 hv)
        | ((with_reducible refine HV.out.mono ?_); rintro e w2 ⟨rfl, hb2⟩; have HB2 := Lib.hid hb2; clear hb2))
      go_ret
      exact ⟨by cases A <;> rfl, HB1.out.trans (HB2.out.mono HB1.out.size)⟩
    · have hd2 : decide ((N : Int) ≤ 254) = false := decide_eq_false (by omega)
      rw [decide_eq_false h2]
      go_enter Tryd.func14, Tryd.ntmps14
      go_wp2_with (first
        | ((with_reducible refine HC.out.mono ?_); rintro e w1 ⟨v, rfl, hv, hb1⟩; obtain ⟨pp, cap, rfl⟩ := hv.shape; rw [sl_length, HN.out] at *; have HB1 := Lib.hid hb1; clear hb1 hv))
      go_ret
      exact ⟨rfl, HB1.out⟩
  · rw [decide_eq_false h1]
    have hd : decide (4080 < ((sb p).size : Int)) = true := decide_eq_true (by omega)
    generalize sb p = b at *
    clear hsz h1
    go_enter Tryd.func14, Tryd.ntmps14
    go_wp2_with fail
    go_ret
    exact ⟨rfl, Below.refl _ _⟩
end Go.Proofs.YtgdnemjlmhmhhaaDoor
