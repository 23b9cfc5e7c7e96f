/-
  The document's own answers: Class, its mathematics.
-/
import Derived.Test.YtgdnemjlmhmhhaaDoorHrf
namespace Go.Proofs.YtgdnemjlmhmhhaaDoor

def ini (p : List UInt8) : List (List UInt8) := (Pt.parts p).take ((Pt.parts p).length - 1)
theorem ini_none {p : List UInt8} (h : 47 ∉ p) : ini p = [] ∧ (Pt.parts p).getD ((Pt.parts p).length - 1) [] = p := by
  unfold ini
  rw [parts_none p h]
  exact ⟨rfl, rfl⟩
theorem ini_at (a b : List UInt8) (h : 47 ∉ b) : ini (a ++ 47 :: b) = Pt.parts a ∧ (Pt.parts (a ++ 47 :: b)).getD ((Pt.parts (a ++ 47 :: b)).length - 1) [] = b := by
  unfold ini
  rw [parts_last a b h, List.length_append, List.length_singleton, Nat.add_sub_cancel]
  refine ⟨List.take_left' rfl, ?_⟩
  rw [List.getD_eq_getElem?_getD, List.getElem?_append_right (Nat.le_refl _), Nat.sub_self]
  rfl
theorem last_base (p : List UInt8) : (Pt.parts p).getD ((Pt.parts p).length - 1) [] = Pt.base p := by
  rcases cut_spec p with ⟨h1, _⟩ | ⟨a, b, h1, h2, _⟩
  · rw [(ini_none h1).2, (base_none p h1).1]
  · subst h1
    rw [(ini_at a b h2).2, (base_at a b h2).1]
theorem full_names {l : List (List UInt8)} (h : l.all Pt.mayName = true) : Pt.full l = l := by
  unfold Pt.full
  rw [List.filter_eq_self]
  intro x hx
  rw [List.all_eq_true] at h
  simpa using (name_facts (h x hx)).1
/-- Where the names ahead are a tree's: the path in two. -/
theorem ini_two {p : List UInt8} (h : (ini p).all Pt.mayName = true) : Pt.join (ini p) = Pt.parent p ∧ p = (if Pt.parent p = [] then Pt.base p else Pt.parent p ++ 47 :: Pt.base p) ∧ 47 ∉ Pt.base p := by
  rcases cut_spec p with ⟨h1, _⟩ | ⟨a, b, h1, h2, _⟩
  · obtain ⟨e1, e2⟩ := base_none p h1
    rw [(ini_none h1).1, e1, e2]
    exact ⟨rfl, by rw [if_pos rfl], h1⟩
  · subst h1
    obtain ⟨e1, e2⟩ := base_at a b h2
    rw [(ini_at a b h2).1] at h ⊢
    rw [e1, e2]
    refine ⟨by unfold Pt.join; rw [full_names h, glue_parts], ?_, h2⟩
    rw [if_neg (fun ha => ?_)]
    rw [ha] at h
    exact absurd h (by decide)
theorem may_ini {p : List UInt8} (hm : Pt.may p = true) (h0 : p ≠ []) : (ini p).all Pt.mayName = true := by
  unfold Pt.may Pt.split at hm
  rw [if_neg h0, Bool.and_eq_true, Bool.and_eq_true] at hm
  rw [List.all_eq_true]
  intro x hx
  exact List.all_eq_true.1 hm.2.2 x (List.mem_of_mem_take hx)
theorem parts_may {p : List UInt8} (hm : Pt.may p = true) (h0 : p ≠ []) : (Pt.parts p).all Pt.mayName = true := by
  unfold Pt.may Pt.split at hm
  rw [if_neg h0, Bool.and_eq_true, Bool.and_eq_true] at hm
  exact hm.2.2
/-- The names ahead of the last one of a tree's path, with another last one. -/
theorem ini_other {t : List UInt8} (hm : Pt.may t = true) (h0 : t ≠ []) (b : List UInt8) (hb : 47 ∉ b) : (ini (if Pt.parent t = [] then b else Pt.parent t ++ 47 :: b)).all Pt.mayName = true := by
  by_cases hp : Pt.parent t = []
  · rw [if_pos hp, (ini_none hb).1]; rfl
  · rw [if_neg hp, (ini_at _ b hb).1]
    have h := may_ini hm h0
    rcases (may_split hm h0).2 with ⟨_, h2, _⟩ | ⟨_, h2⟩
    · exact absurd h2 hp
    · obtain ⟨_, _, _, _, h47, _⟩ := name_facts (may_split hm h0).1
      rw [h2, (ini_at _ _ h47).1] at h
      exact h
def rC (p : List UInt8) (i : List (List UInt8)) (b : List UInt8) : Int × List UInt8 :=
  if Pt.mayName b then (1, p) else if b = Pt.opq then (3, Pt.join i) else if (Pt.wh.isPrefixOf b && Pt.mayName (b.drop 4)) then (2, Pt.join [Pt.join i, b.drop 4]) else (0, [])
def rCls (p : List UInt8) : Int × List UInt8 :=
  if p = Pt.toc then (4, []) else if p = [] then (0, []) else if (ini p).all Pt.mayName = false then (0, []) else
  if ((rC p (ini p) (Pt.base p)).1 == 0 || !Pt.may (rC p (ini p) (Pt.base p)).2) = true then (0, []) else rC p (ini p) (Pt.base p)
theorem cls_zero {p : List UInt8} (h : Pt.clsB p = false) : (Pt.cls p, Pt.tgt p) = (0, []) := by rw [(cls_no h).1, (cls_no h).2]
theorem rcls_eq (p : List UInt8) : rCls p = (Pt.cls p, Pt.tgt p) := by
  unfold rCls
  by_cases ht : p = Pt.toc
  · rw [if_pos ht, ht]; decide
  rw [if_neg ht]
  by_cases h0 : p = []
  · rw [if_pos h0, h0]; decide
  rw [if_neg h0]
  have h4 : (p == Pt.toc) = false := by simpa using ht
  cases hM : (ini p).all Pt.mayName
  · rw [if_pos rfl]
    symm
    apply cls_zero
    rw [Bool.eq_false_iff]
    intro hB
    have hB0 := hB
    unfold Pt.clsB at hB
    rcases lastC_four (Pt.base p) with h | ⟨h, _⟩ | h | h
    · rw [h, if_pos rfl, Bool.and_eq_true] at hB
      rw [may_ini hB.2 h0] at hM; cases hM
    · rw [h, if_neg (by decide), if_pos rfl] at hB
      have he := eq_of_beq hB
      by_cases hm : Pt.may (Pt.goneT p) = true
      · by_cases hg : Pt.goneT p = []
        · rw [hg] at he; exact h0 he.symm
        · rw [whiteout_eq hm hg] at he
          obtain ⟨_, _, _, _, h47, _⟩ := name_facts (may_split hm hg).1
          have := ini_other hm hg (Pt.wh ++ Pt.base (Pt.goneT p)) (no47_wh h47)
          rw [he, hM] at this; cases this
      · rw [(cls_other (by simpa using hm)).1] at he
        exact h0 he.symm
    · rw [h, if_neg (by decide), if_neg (by decide), if_pos rfl] at hB
      have he := eq_of_beq hB
      by_cases hm : Pt.may (Pt.parent p) = true
      · rw [opaq_eq hm] at he
        by_cases hd : Pt.parent p = []
        · rw [if_pos hd] at he
          rw [← he] at hM; revert hM; decide
        · rw [if_neg hd] at he
          rw [← he, (ini_at _ _ (by decide)).1, parts_may hm hd] at hM; cases hM
      · rw [(cls_other (by simpa using hm)).2.1] at he
        exact h0 he.symm
    · rw [h, if_neg (by decide), if_neg (by decide), if_neg (by decide), h4] at hB; cases hB
  · rw [if_neg (by decide)]
    obtain ⟨hj, hp2, h47⟩ := ini_two hM
    have hC : rC p (ini p) (Pt.base p) = if Pt.mayName (Pt.base p) = true then (1, p) else if Pt.base p = Pt.opq then (3, Pt.parent p) else if (Pt.wh.isPrefixOf (Pt.base p) && Pt.mayName ((Pt.base p).drop 4)) = true then (2, Pt.join [Pt.parent p, (Pt.base p).drop 4]) else (0, []) := by
      unfold rC; rw [hj]
    cases hn : Pt.mayName (Pt.base p)
    · rw [hn, if_neg (show ¬ false = true by decide)] at hC
      by_cases ho : Pt.base p = Pt.opq
      · rw [if_pos ho] at hC
        rw [hC]
        show (if ((3 : Int) == 0 || !Pt.may (Pt.parent p)) = true then (0, []) else (3, Pt.parent p)) = _
        have hl : Pt.lastC (Pt.base p) = 3 := by rw [ho]; rfl
        cases hm : Pt.may (Pt.parent p)
        · rw [if_pos (by rfl)]
          symm
          apply cls_zero
          unfold Pt.clsB
          rw [hl, if_neg (by decide), if_neg (by decide), if_pos rfl, (cls_other hm).2.1]
          rw [beq_eq_false_iff_ne]; exact fun e => h0 e.symm
        · rw [if_neg (by decide)]
          have he : p = Pt.opaq (Pt.parent p) := by rw [opaq_eq hm, ← ho]; exact hp2
          obtain ⟨c1, c2⟩ := cls_opaq hm
          rw [← he] at c1 c2
          rw [c1, c2]
      · rw [if_neg ho] at hC
        cases hw : (Pt.wh.isPrefixOf (Pt.base p) && Pt.mayName ((Pt.base p).drop 4))
        · rw [hw, if_neg (show ¬ false = true by decide)] at hC
          rw [hC, if_pos (by rfl)]
          symm
          apply cls_zero
          rw [Bool.eq_false_iff]
          intro hB
          unfold Pt.clsB at hB
          rcases lastC_four (Pt.base p) with h | ⟨h, _⟩ | h | h
          · rw [h, if_pos rfl, Bool.and_eq_true] at hB
            rw [(may_split hB.2 h0).1] at hn; cases hn
          · rw [h, if_neg (by decide), if_pos rfl] at hB
            have he := eq_of_beq hB
            by_cases hm : Pt.may (Pt.goneT p) = true
            · by_cases hg : Pt.goneT p = []
              · rw [hg] at he; exact h0 he.symm
              · have hb := (white_base hm hg).1
                rw [he] at hb
                rw [hb, wh_pre, Bool.true_and] at hw
                have hd : (Pt.wh ++ Pt.base (Pt.goneT p)).drop 4 = Pt.base (Pt.goneT p) := rfl
                rw [hd, (may_split hm hg).1] at hw; cases hw
            · rw [(cls_other (by simpa using hm)).1] at he
              exact h0 he.symm
          · have : Pt.base p = Pt.opq := by
              unfold Pt.lastC at h
              by_cases e : Pt.base p = Pt.opq
              · exact e
              · rw [if_neg e] at h
                split at h
                · exact absurd h (by decide)
                · split at h <;> exact absurd h (by decide)
            exact ho this
          · rw [h, if_neg (by decide), if_neg (by decide), if_neg (by decide), h4] at hB; cases hB
        · rw [hw, if_pos rfl] at hC
          rw [hC]
          rw [Bool.and_eq_true] at hw
          obtain ⟨r, hr⟩ := List.isPrefixOf_iff_prefix.1 hw.1
          have hd : (Pt.base p).drop 4 = r := by rw [← hr]; rfl
          show (if ((2 : Int) == 0 || !Pt.may (Pt.join [Pt.parent p, (Pt.base p).drop 4])) = true then (0, []) else (2, Pt.join [Pt.parent p, (Pt.base p).drop 4])) = _
          rw [hd] at hw ⊢
          obtain ⟨hr0, _, _, _, hr47, _, hrw⟩ := name_facts hw.2
          rw [join_two _ _ hr0]
          have hl : Pt.lastC (Pt.base p) = 2 := by rw [← hr]; exact lastC_wh hrw
          obtain ⟨T, hT⟩ : ∃ T, (if Pt.parent p = [] then r else Pt.parent p ++ 47 :: r) = T := ⟨_, rfl⟩
          rw [hT]
          have hT0 : T ≠ [] := by rw [← hT]; split <;> simp [hr0]
          have hg : Pt.goneT p = T := by
            unfold Pt.goneT
            rw [hd, ← hT]
            by_cases hpp : Pt.parent p = []
            · rw [if_pos hpp] at hp2 ⊢
              have e1 : p.length - (Pt.base p).length = 0 := by rw [← hp2]; exact Nat.sub_self _
              rw [e1]; rfl
            · rw [if_neg hpp] at hp2 ⊢
              have e1 : p.length - (Pt.base p).length = (Pt.parent p ++ [47]).length := by
                have := congrArg List.length hp2
                simp at this ⊢; omega
              rw [e1]
              have e2 : p = (Pt.parent p ++ [47]) ++ Pt.base p := by rw [List.append_assoc]; exact hp2
              conv => lhs; lhs; rw [e2]
              rw [List.take_left' (by rw [← e2]), List.append_assoc]; rfl
          cases hm : Pt.may T
          · rw [if_pos (by rfl)]
            symm
            apply cls_zero
            unfold Pt.clsB
            rw [hl, if_neg (by decide), if_pos rfl, hg, (cls_other hm).1]
            rw [beq_eq_false_iff_ne]; exact fun e => h0 e.symm
          · rw [if_neg (by decide)]
            have hbT : Pt.base T = r ∧ Pt.parent T = Pt.parent p := by
              rw [← hT]
              by_cases hpp : Pt.parent p = []
              · rw [if_pos hpp, hpp]; exact base_none r hr47
              · rw [if_neg hpp]; exact base_at _ r hr47
            have he : Pt.whiteout T = p := by
              rw [whiteout_eq hm hT0, hbT.1, hbT.2, hr]; exact hp2.symm
            obtain ⟨c1, c2⟩ := cls_white hm hT0
            rw [he] at c1 c2
            rw [c1, c2]
    · rw [hn, if_pos rfl] at hC
      rw [hC]
      show (if ((1 : Int) == 0 || !Pt.may p) = true then (0, []) else (1, p)) = _
      have hl : Pt.lastC (Pt.base p) = 1 := lastC_name (name_facts hn).2.2.2.2.2.2
      have hne : (p != []) = true := by simpa using h0
      cases hm : Pt.may p
      · rw [if_pos (by rfl)]
        symm
        apply cls_zero
        unfold Pt.clsB
        rw [hl, if_pos rfl, hm, Bool.and_false]
      · rw [if_neg (by decide)]
        obtain ⟨c1, c2⟩ := cls_plain hm h0
        rw [c1, c2]
end Go.Proofs.YtgdnemjlmhmhhaaDoor
