/-
  The document's own answers: Whiteout, Opaque.
-/
import Derived.Test.YtgdnemjlmhmhhaaDoorHrd
namespace Go.Proofs.YtgdnemjlmhmhhaaDoor
open Go.RowKit Go.Maps

def RJPost (l : List (List UInt8)) (w : World) (e : Ending) (w' : World) : Prop := e = .returned (.string (sb (Pt.join l))) ∧ Below w.heap.size w w'
theorem rjoin_post (l : List (List UInt8)) (hl : l.length ≤ 1000000) (hG : (Pt.join l).length ≤ 1000000) (hm : ∀ x ∈ l, x.length ≤ 1000000) (v : Value) (w : World) (hv : SlV w v (sl l)) : Calls Tryd.prog 20 #[v] w (RJPost l w) :=
  (rjoin_walk l hl hG hm v w hv).mono fun _ _ ⟨h1, h2⟩ => ⟨h1, by rw [h2]; exact Below.refl _ _⟩
set_option maxHeartbeats 2000000 in
theorem ropaq_walk (d : List UInt8) (hd : d.length ≤ 100000) (w : World) : Calls Tryd.prog 32 #[.string (sb d)] w fun e w' => e = .returned (.string (sb (Pt.opaq d))) ∧ Below w.heap.size w w' := by
  have HM := Lib.hid (rmay_walk d hd w)
  unfold Pt.opaq
  by_cases h : Pt.may d = true
  · rw [if_pos h]
    rw [h] at HM
    have hJ : (Pt.join [d, Pt.opq]).length ≤ 100100 := by
      have : Pt.full [d, Pt.opq] = [Pt.opq] ∨ Pt.full [d, Pt.opq] = [d, Pt.opq] := by
        unfold Pt.full
        by_cases hd0 : d = []
        · exact .inl (by rw [hd0]; rfl)
        · exact .inr (by rw [List.filter_cons_of_pos (by simpa using hd0)]; rfl)
      unfold Pt.join
      rcases this with e | e <;> rw [e]
      · decide
      · show (d ++ 47 :: Pt.opq).length ≤ _
        have : Pt.opq.length = 12 := rfl
        simp; omega
    have HJ : Hid (∀ w1 : World, Calls Tryd.prog 20 #[.slice (some ⟨w1.heap.size, 0, none⟩) 2 2] (w1.alloc (.cells #[.string (sb d), .string ⟨#[46, 119, 104, 46, 46, 119, 104, 46, 46, 111, 112, 113]⟩] 9)) (RJPost [d, Pt.opq] (w1.alloc (.cells #[.string (sb d), .string ⟨#[46, 119, 104, 46, 46, 119, 104, 46, 46, 111, 112, 113]⟩] 9)))) := Lib.hid (fun w1 =>
      rjoin_post [d, Pt.opq] (by simp) (by omega) (by simp [Pt.opq]; omega) _ _ (slv_new w1 (sl [d, Pt.opq]) 9))
    have HBA : Hid (∀ w1 : World, Below w1.heap.size w1 (w1.alloc (.cells #[.string (sb d), .string ⟨#[46, 119, 104, 46, 46, 119, 104, 46, 46, 111, 112, 113]⟩] 9))) := Lib.hid (fun w1 => (Below.refl _ _).alloc (Nat.le_refl _) _)
    unfold RJPost at HJ
    generalize sb (Pt.join [d, Pt.opq]) = bj at *
    generalize sb d = b at *
    clear h hd hJ
    go_enter Tryd.func32, Tryd.ntmps32
    go_wp2_with (first
      | ((with_reducible refine HM.out.mono ?_); rintro e w1 ⟨rfl, hb⟩; have HB1 := Lib.hid hb; clear hb)
      | ((with_reducible refine (HJ.out _).mono ?_); rintro e w2 ⟨rfl, hb⟩; have HB2 := Lib.hid hb; clear hb))
    go_ret
    exact ⟨rfl, HB1.out.trans (((HBA.out w1).trans (HB2.out.mono (by simp))).mono HB1.out.size)⟩
  · rw [if_neg h]
    rw [show Pt.may d = false by simpa using h] at HM
    generalize sb d = b at *
    clear h
    go_enter Tryd.func32, Tryd.ntmps32
    go_wp2_with ((with_reducible refine HM.out.mono ?_); rintro e w1 ⟨rfl, hb⟩; have HB1 := Lib.hid hb; clear hb)
    go_ret
    exact ⟨rfl, HB1.out⟩
set_option maxHeartbeats 2000000 in
theorem rwhiteout_walk (p : List UInt8) (hp : p.length ≤ 100000) (w : World) : Calls Tryd.prog 30 #[.string (sb p)] w fun e w' => e = .returned (.string (sb (Pt.whiteout p))) ∧ Below w.heap.size w w' := by
  have HM := Lib.hid (rmay_walk p hp w)
  have h1 : ((sb p).toList == []) = (p == []) := by rw [sb_list]
  have h3 : (p != []) = !(p == []) := rfl
  unfold Pt.whiteout
  rw [h3]
  by_cases h0 : p = []
  · rw [show (p == []) = true by rw [h0]; rfl] at h1 ⊢
    generalize sb p = b at *
    clear h0 HM h3
    go_enter Tryd.func30, Tryd.ntmps30
    go_wp2_with fail
    go_ret
    exact ⟨rfl, Below.refl _ _⟩
  · rw [show (p == []) = false by simpa using h0] at h1 ⊢
    by_cases h : Pt.may p = true
    · rw [h] at HM ⊢
      rw [if_pos (show (!false && true) = true from rfl)]
      have hpl := parent_len p
      have hbl := base_len p
      have hJ : (Pt.join [Pt.parent p, Pt.wh ++ Pt.base p]).length ≤ 300000 := by
        have hwl : Pt.wh.length = 4 := rfl
        have : Pt.full [Pt.parent p, Pt.wh ++ Pt.base p] = [Pt.wh ++ Pt.base p] ∨ Pt.full [Pt.parent p, Pt.wh ++ Pt.base p] = [Pt.parent p, Pt.wh ++ Pt.base p] := by
          unfold Pt.full
          by_cases hd0 : Pt.parent p = []
          · exact .inl (by rw [hd0]; rfl)
          · exact .inr (by rw [List.filter_cons_of_pos (by simpa using hd0)]; rfl)
        unfold Pt.join
        rcases this with e | e <;> rw [e]
        · show (Pt.wh ++ Pt.base p).length ≤ _
          simp; omega
        · show (Pt.parent p ++ 47 :: (Pt.wh ++ Pt.base p)).length ≤ _
          simp; omega
      have HJ : Hid (∀ w1 : World, Calls Tryd.prog 20 #[.slice (some ⟨w1.heap.size, 0, none⟩) 2 2] (w1.alloc (.cells #[.string (sb (Pt.parent p)), .string (sb (Pt.wh ++ Pt.base p))] 9)) (RJPost [Pt.parent p, Pt.wh ++ Pt.base p] (w1.alloc (.cells #[.string (sb (Pt.parent p)), .string (sb (Pt.wh ++ Pt.base p))] 9)))) := Lib.hid (fun w1 =>
        rjoin_post [Pt.parent p, Pt.wh ++ Pt.base p] (by simp) (by omega) (by simp [Pt.wh]; omega) _ _ (slv_new w1 (sl [Pt.parent p, Pt.wh ++ Pt.base p]) 9))
      have HBA : Hid (∀ w1 : World, Below w1.heap.size w1 (w1.alloc (.cells #[.string (sb (Pt.parent p)), .string (sb (Pt.wh ++ Pt.base p))] 9))) := Lib.hid (fun w1 => (Below.refl _ _).alloc (Nat.le_refl _) _)
      unfold RJPost at HJ
      have HPA : Hid (∀ w1, _) := Lib.hid (fun w1 => rparent_walk p hp w1)
      have HBS : Hid (∀ w1, _) := Lib.hid (fun w1 => rbase_walk p hp w1)
      have hcat : (⟨#[46, 119, 104, 46]⟩ : ByteArray) ++ sb (Pt.base p) = sb (Pt.wh ++ Pt.base p) := sb_append Pt.wh (Pt.base p)
      have hbs : ((sb (Pt.base p)).size : Int) ≤ 100000 := by rw [sb_size]; omega
      generalize sb (Pt.join [Pt.parent p, Pt.wh ++ Pt.base p]) = bj at *
      generalize sb (Pt.wh ++ Pt.base p) = bw at *
      generalize sb (Pt.base p) = bb at *
      generalize sb (Pt.parent p) = bp at *
      generalize sb p = b at *
      clear h hp hJ h0 h3 hpl hbl
      go_enter Tryd.func30, Tryd.ntmps30
      go_wp2_with (first
        | ((with_reducible refine HM.out.mono ?_); rintro e w1 ⟨rfl, hb⟩; have HB1 := Lib.hid hb; clear hb)
        | ((with_reducible refine (HPA.out _).mono ?_); rintro e w1 ⟨rfl, hw⟩; rw [hw]; clear hw)
        | ((with_reducible refine (HBS.out _).mono ?_); rintro e w1 ⟨rfl, hw⟩; rw [hw]; clear hw)
        | ((with_reducible refine (HJ.out _).mono ?_); rintro e w2 ⟨rfl, hb⟩; have HB2 := Lib.hid hb; clear hb))
      go_ret
      exact ⟨rfl, HB1.out.trans (((HBA.out _).trans (HB2.out.mono (by simp))).mono HB1.out.size)⟩
    · rw [show Pt.may p = false by simpa using h] at HM ⊢
      generalize sb p = b at *
      clear h h0 h3
      go_enter Tryd.func30, Tryd.ntmps30
      go_wp2_with ((with_reducible refine HM.out.mono ?_); rintro e w1 ⟨rfl, hb⟩; have HB1 := Lib.hid hb; clear hb)
      go_ret
      exact ⟨rfl, HB1.out⟩
end Go.Proofs.YtgdnemjlmhmhhaaDoor
