/-
  What the walk of the document's Lengths needs of the packs.
-/
import Derived.Test.YtoifppfhnedahaaPutQ
import Derived.Test.YtoifppfhnedahaaRefA
namespace Go.Proofs.Ytoifppfhnedahaa
open Go.RowKit Hf
def cf (C : List Int) : Nat → Int := fun s => C.getD s 0
theorem itS_len (C : List Int) (i : Nat) : (itS C i).length ≤ i := by rw [(itS_ok C i).1.length_eq]; exact posTo_le C i
theorem len_of_rq {Q : List Qe} {c : Nat → Int} {ss : List Nat} (h : Q.map rq = itR c ss) : Q.length = ss.length := by
  have := congrArg List.length h
  simpa [itR] using this
theorem cnts_is (C : List Int) : cnts C (syms C) = (syms C).map (cf C) := rfl
theorem lstR_len (C : List Int) (j : Nat) : (lstR (itR (cf C) (syms C)) j).length = (lst (its (cnts C (syms C))) j).length := by
  have h := (pr_lst (itR (cf C) (syms C)) (by rw [pr_it]; exact syms_ris C) j).1
  rw [← pr_length, h, pr_it]; rfl
theorem last_long (C : List Int) (L : Nat) (hL1 : 1 ≤ L) (hk : 2 ≤ (syms C).length) (hL : (syms C).length ≤ 2 ^ L) : 2 * (syms C).length - 2 ≤ (lstR (itR (cf C) (syms C)) (L - 1)).length := by
  have := tk_le (cnts C (syms C)) (syms C).length L (cnts_length _ _) (by omega) hL 0 (by omega)
  rw [lstR_len]
  exact this
theorem ref_lens (C : List Int) (L : Nat) (hL1 : 1 ≤ L) (hk : 2 ≤ (syms C).length) : bump (allS ((lstR (itR (cf C) (syms C)) (L - 1)).take (2 * (syms C).length - 2))) (zeros C.length) = lensF C L := by
  have h := ref_is (cf C) (syms C) C.length L hL1 (syms_ris C) (syms_lt C) (fun x hx => syms_lt C x (allS_in (cf C) (syms C) _ _ x hx))
  unfold lensF
  rw [if_neg (by omega), if_pos (by omega)]
  exact h
theorem allS_append (a b : List Rp) : allS (a ++ b) = allS a ++ allS b := by simp [allS]
theorem allS_take_succ (R : List Rp) (a : Nat) (ha : a < R.length) : allS (R.take (a + 1)) = allS (R.take a) ++ (R[a]).2.2 := by
  rw [List.take_add_one, List.getElem?_eq_getElem ha, allS_append]
  congr 1
  simp [allS]
/-- What is laid on the way is not above what is laid in the end. -/
theorem way_le (C : List Int) (L : Nat) (hL1 : 1 ≤ L) (hL15 : L ≤ 15) (hk : 2 ≤ (syms C).length) (hL : (syms C).length ≤ 2 ^ L) (a b : Nat) (ha : a < 2 * (syms C).length - 2) (hal : a < (lstR (itR (cf C) (syms C)) (L - 1)).length) (x : Nat) :
    0 ≤ (bump (allS ((lstR (itR (cf C) (syms C)) (L - 1)).take a) ++ (((lstR (itR (cf C) (syms C)) (L - 1))[a]).2.2).take b) (zeros C.length)).getD x 0 ∧ (bump (allS ((lstR (itR (cf C) (syms C)) (L - 1)).take a) ++ (((lstR (itR (cf C) (syms C)) (L - 1))[a]).2.2).take b) (zeros C.length)).getD x 0 ≤ 15 := by
  have hin : ∀ T, ∀ s ∈ allS ((lstR (itR (cf C) (syms C)) (L - 1)).take T), s < (zeros C.length).length := fun T s hs => by
    rw [zeros_length]; exact syms_lt C s (allS_in (cf C) (syms C) _ _ s hs)
  have hsub : (allS ((lstR (itR (cf C) (syms C)) (L - 1)).take a) ++ (((lstR (itR (cf C) (syms C)) (L - 1))[a]).2.2).take b).Sublist (allS ((lstR (itR (cf C) (syms C)) (L - 1)).take (a + 1))) := by
    rw [allS_take_succ _ _ hal]
    exact List.Sublist.append (List.Sublist.refl _) (List.take_sublist _ _)
  have hsub2 : (allS ((lstR (itR (cf C) (syms C)) (L - 1)).take (a + 1))).Sublist (allS ((lstR (itR (cf C) (syms C)) (L - 1)).take (2 * (syms C).length - 2))) := by
    have e : (lstR (itR (cf C) (syms C)) (L - 1)).take (a + 1) = ((lstR (itR (cf C) (syms C)) (L - 1)).take (2 * (syms C).length - 2)).take (a + 1) := by rw [List.take_take, Nat.min_eq_left (by omega)]
    rw [e]
    generalize (lstR (itR (cf C) (syms C)) (L - 1)).take (2 * (syms C).length - 2) = T
    have h : allS T = allS (T.take (a + 1)) ++ allS (T.drop (a + 1)) := by rw [← allS_append, List.take_append_drop]
    rw [h]
    exact List.sublist_append_left _ _
  rw [bump_at _ _ _ (fun s hs => hin (a + 1) s (hsub.subset hs)), zeros_getD]
  have h1 := (hsub.trans hsub2).count_le x
  have h2 := bump_at (allS ((lstR (itR (cf C) (syms C)) (L - 1)).take (2 * (syms C).length - 2))) (zeros C.length) x (hin _)
  rw [ref_lens C L hL1 hk, zeros_getD] at h2
  have h3 := (lens_are C L hL1 hL15 hL).bound x
  omega
end Go.Proofs.Ytoifppfhnedahaa
