/-
  Whiteouts, marks, classes: their mathematics.
-/
import Derived.Test.YtgdnemjlmhmhhaaDoorHe
namespace Go.Proofs.YtgdnemjlmhmhhaaDoor

theorem parts_last (a b : List UInt8) (h : 47 ∉ b) : Pt.parts (a ++ 47 :: b) = Pt.parts a ++ [b] := by
  induction a with
  | nil =>
    show Pt.parts (47 :: b) = _
    rw [parts_cons, if_pos rfl, parts_none b h]; rfl
  | cons x t ih =>
    show Pt.parts (x :: (t ++ 47 :: b)) = _
    rw [parts_cons, parts_cons, ih]
    by_cases hx : x = 47
    · rw [if_pos hx, if_pos hx]; rfl
    · rw [if_neg hx, if_neg hx]
      have hne := parts_ne t
      cases hp : Pt.parts t with
      | nil => exact absurd hp hne
      | cons y r => rfl
theorem base_none (p : List UInt8) (h : 47 ∉ p) : Pt.base p = p ∧ Pt.parent p = [] := by
  unfold Pt.base Pt.parent
  rw [cut_none p h]
  exact ⟨rfl, rfl⟩
theorem base_at (a b : List UInt8) (h : 47 ∉ b) : Pt.base (a ++ 47 :: b) = b ∧ Pt.parent (a ++ 47 :: b) = a := by
  unfold Pt.base Pt.parent
  rw [cut_at a b h]
  have e1 : ((a.length : Int) + 1).toNat = a.length + 1 := by omega
  have e2 : ((a.length : Int)).toNat = a.length := by omega
  rw [e1, e2]
  refine ⟨?_, by simp⟩
  rw [List.drop_append, List.drop_eq_nil_of_le (by omega)]
  simp
theorem join_two (d b : List UInt8) (hb : b ≠ []) : Pt.join [d, b] = if d = [] then b else d ++ 47 :: b := by
  unfold Pt.join Pt.full
  have h2 : (b != []) = true := by simpa using hb
  by_cases hd : d = []
  · rw [if_pos hd, hd]
    simp [h2, Pt.glue]
  · rw [if_neg hd]
    have h1 : (d != []) = true := by simpa using hd
    simp [h1, h2, Pt.glue]
theorem name_facts {s : List UInt8} (h : Pt.mayName s = true) : s ≠ [] ∧ s ≠ [46] ∧ s ≠ [46, 46] ∧ s.length ≤ 251 ∧ 47 ∉ s ∧ 0 ∉ s ∧ Pt.wh.isPrefixOf s = false := by
  unfold Pt.mayName at h
  simp only [Bool.and_eq_true, bne_iff_ne, decide_eq_true_eq, Bool.not_eq_true', ne_eq] at h
  obtain ⟨⟨⟨⟨⟨h1, h2⟩, h3⟩, h4⟩, h5⟩, h6⟩ := h
  rw [List.all_eq_true] at h5
  refine ⟨h1, h2, h3, h4, fun hm => ?_, fun hm => ?_, h6⟩
  · have := h5 _ hm; revert this; decide
  · have := h5 _ hm; revert this; decide
/-- A tree's path but the root: its parent and its base. -/
theorem may_split {p : List UInt8} (hm : Pt.may p = true) (h0 : p ≠ []) : Pt.mayName (Pt.base p) = true ∧ ((47 ∉ p ∧ Pt.parent p = [] ∧ Pt.base p = p) ∨ (Pt.parent p ≠ [] ∧ p = Pt.parent p ++ 47 :: Pt.base p)) := by
  unfold Pt.may Pt.split at hm
  rw [if_neg h0, Bool.and_eq_true, Bool.and_eq_true, List.all_eq_true] at hm
  obtain ⟨_, _, hall⟩ := hm
  rcases cut_spec p with ⟨h1, h2⟩ | ⟨a, b, h1, h2, h3⟩
  · obtain ⟨e1, e2⟩ := base_none p h1
    rw [e1]
    exact ⟨hall p (by rw [parts_none p h1]; simp), .inl ⟨h1, e2, rfl⟩⟩
  · subst h1
    obtain ⟨e1, e2⟩ := base_at a b h2
    rw [e1, e2]
    rw [parts_last a b h2] at hall
    refine ⟨hall b (by simp), .inr ⟨fun ha => ?_, rfl⟩⟩
    have := hall [] (by rw [ha]; simp [Pt.parts])
    exact absurd this (by decide)
theorem lastC_name {b : List UInt8} (h : Pt.wh.isPrefixOf b = false) : Pt.lastC b = 1 := by
  unfold Pt.lastC
  have h1 : b ≠ Pt.opq := fun e => by rw [e] at h; exact absurd h (by decide)
  have h2 : b ≠ Pt.toc := fun e => by rw [e] at h; exact absurd h (by decide)
  rw [if_neg h1, if_neg h2, h, if_neg (by decide)]
theorem wh_pre (b : List UInt8) : Pt.wh.isPrefixOf (Pt.wh ++ b) = true := List.isPrefixOf_iff_prefix.2 ⟨b, rfl⟩
theorem lastC_wh {b : List UInt8} (h : Pt.wh.isPrefixOf b = false) : Pt.lastC (Pt.wh ++ b) = 2 := by
  unfold Pt.lastC
  have h1 : Pt.wh ++ b ≠ Pt.opq := fun e => by
    have e2 : Pt.opq = Pt.wh ++ [46, 119, 104, 46, 46, 111, 112, 113] := rfl
    rw [e2] at e
    have := List.append_cancel_left e
    rw [this] at h; exact absurd h (by decide)
  have h2 : Pt.wh ++ b ≠ Pt.toc := fun e => by
    have e2 : Pt.toc = Pt.wh ++ [46, 119, 104, 46, 116, 111, 99] := rfl
    rw [e2] at e
    have := List.append_cancel_left e
    rw [this] at h; exact absurd h (by decide)
  rw [if_neg h1, if_neg h2, wh_pre, if_pos rfl]
theorem whiteout_eq {p : List UInt8} (hm : Pt.may p = true) (h0 : p ≠ []) : Pt.whiteout p = if Pt.parent p = [] then Pt.wh ++ Pt.base p else Pt.parent p ++ 47 :: (Pt.wh ++ Pt.base p) := by
  unfold Pt.whiteout
  have h1 : (p != []) = true := by simpa using h0
  rw [h1, hm, if_pos (show (true && true) = true from rfl), join_two _ _ (by simp [Pt.wh])]
theorem no47_wh {b : List UInt8} (h : 47 ∉ b) : 47 ∉ Pt.wh ++ b := by
  rw [List.mem_append, not_or]
  exact ⟨by decide, h⟩
theorem white_base {p : List UInt8} (hm : Pt.may p = true) (h0 : p ≠ []) : Pt.base (Pt.whiteout p) = Pt.wh ++ Pt.base p ∧ Pt.parent (Pt.whiteout p) = Pt.parent p ∧ Pt.goneT (Pt.whiteout p) = p := by
  obtain ⟨hn, hs⟩ := may_split hm h0
  obtain ⟨_, _, _, _, h47, _, hw⟩ := name_facts hn
  have h4 := no47_wh h47
  rw [whiteout_eq hm h0]
  rcases hs with ⟨h1, h2, h3⟩ | ⟨h1, h2⟩
  · rw [if_pos h2]
    obtain ⟨e1, e2⟩ := base_none _ h4
    refine ⟨e1, by rw [e2, h2], ?_⟩
    unfold Pt.goneT
    rw [e1, Nat.sub_self, List.take_zero, List.nil_append, h3]
    rfl
  · rw [if_neg h1]
    obtain ⟨e1, e2⟩ := base_at (Pt.parent p) _ h4
    refine ⟨e1, e2, ?_⟩
    unfold Pt.goneT
    rw [e1]
    have hl : (Pt.parent p ++ 47 :: (Pt.wh ++ Pt.base p)).length - (Pt.wh ++ Pt.base p).length = (Pt.parent p ++ [47]).length := by simp; omega
    rw [hl]
    have e3 : Pt.parent p ++ 47 :: (Pt.wh ++ Pt.base p) = (Pt.parent p ++ [47]) ++ (Pt.wh ++ Pt.base p) := by simp
    rw [e3, List.take_left]
    have e4 : (Pt.wh ++ Pt.base p).drop 4 = Pt.base p := rfl
    rw [e4, List.append_assoc]
    exact h2.symm
theorem cls_white {p : List UInt8} (hm : Pt.may p = true) (h0 : p ≠ []) : Pt.cls (Pt.whiteout p) = 2 ∧ Pt.tgt (Pt.whiteout p) = p := by
  obtain ⟨hn, _⟩ := may_split hm h0
  obtain ⟨_, _, _, _, h47, _, hw⟩ := name_facts hn
  obtain ⟨e1, e2, e3⟩ := white_base hm h0
  have hl : Pt.lastC (Pt.base (Pt.whiteout p)) = 2 := by rw [e1]; exact lastC_wh hw
  have hB : Pt.clsB (Pt.whiteout p) = true := by
    unfold Pt.clsB
    rw [hl, if_neg (by decide), if_pos rfl, e3]
    exact beq_self_eq_true _
  obtain ⟨c1, c2⟩ := cls_yes hB
  refine ⟨by rw [c1, hl], ?_⟩
  rw [c2]
  unfold Pt.clsT
  rw [hl, if_neg (by decide), if_pos rfl, e3]
theorem cls_plain {p : List UInt8} (hm : Pt.may p = true) (h0 : p ≠ []) : Pt.cls p = 1 ∧ Pt.tgt p = p := by
  obtain ⟨hn, _⟩ := may_split hm h0
  obtain ⟨_, _, _, _, h47, _, hw⟩ := name_facts hn
  have hl : Pt.lastC (Pt.base p) = 1 := lastC_name hw
  have hB : Pt.clsB p = true := by
    unfold Pt.clsB
    rw [hl, if_pos rfl, hm, Bool.and_true]
    simpa using h0
  obtain ⟨c1, c2⟩ := cls_yes hB
  refine ⟨by rw [c1, hl], ?_⟩
  rw [c2]
  unfold Pt.clsT
  rw [hl, if_pos rfl]
theorem opaq_eq {d : List UInt8} (hm : Pt.may d = true) : Pt.opaq d = if d = [] then Pt.opq else d ++ 47 :: Pt.opq := by
  unfold Pt.opaq
  rw [hm, if_pos rfl, join_two _ _ (by decide)]
theorem opaq_base {d : List UInt8} (hm : Pt.may d = true) : Pt.base (Pt.opaq d) = Pt.opq ∧ Pt.parent (Pt.opaq d) = d := by
  rw [opaq_eq hm]
  by_cases hd : d = []
  · rw [if_pos hd, hd]; exact base_none _ (by decide)
  · rw [if_neg hd]; exact base_at d _ (by decide)
theorem cls_opaq {d : List UInt8} (hm : Pt.may d = true) : Pt.cls (Pt.opaq d) = 3 ∧ Pt.tgt (Pt.opaq d) = d := by
  obtain ⟨e1, e2⟩ := opaq_base hm
  have hl : Pt.lastC (Pt.base (Pt.opaq d)) = 3 := by rw [e1]; rfl
  have hB : Pt.clsB (Pt.opaq d) = true := by
    unfold Pt.clsB
    rw [hl, if_neg (by decide), if_neg (by decide), if_pos rfl, e2]
    exact beq_self_eq_true _
  obtain ⟨c1, c2⟩ := cls_yes hB
  refine ⟨by rw [c1, hl], ?_⟩
  rw [c2]
  unfold Pt.clsT
  rw [hl, if_neg (by decide), if_neg (by decide), if_pos rfl, e2]
theorem may_nil : Pt.may [] = true := by decide
theorem cls_nil : Pt.cls [] = 0 ∧ Pt.tgt [] = [] := by decide
/-- What is no tree's path: its class. -/
theorem cls_other {p : List UInt8} (hm : Pt.may p = false) : Pt.whiteout p = [] ∧ Pt.opaq p = [] ∧
    ((Pt.cls p = 0 ∧ Pt.tgt p = []) ∨ (Pt.cls p = 2 ∧ Pt.whiteout (Pt.tgt p) = p) ∨ (Pt.cls p = 3 ∧ Pt.opaq (Pt.tgt p) = p) ∨ (Pt.cls p = 4 ∧ Pt.tgt p = [] ∧ p = Pt.toc)) := by
  refine ⟨by unfold Pt.whiteout; rw [hm, Bool.and_false, if_neg (by decide)], by unfold Pt.opaq; rw [hm, if_neg (by decide)], ?_⟩
  cases hB : Pt.clsB p
  · exact .inl (cls_no hB)
  · obtain ⟨c1, c2⟩ := cls_yes hB
    rw [c1, c2]
    unfold Pt.clsB at hB
    unfold Pt.clsT
    rcases lastC_four (Pt.base p) with h | ⟨h, _⟩ | h | h
    · rw [h, if_pos rfl, hm, Bool.and_false] at hB; cases hB
    · rw [h, if_neg (by decide), if_pos rfl] at hB
      rw [h, if_neg (by decide), if_pos rfl]
      exact .inr (.inl ⟨rfl, eq_of_beq hB⟩)
    · rw [h, if_neg (by decide), if_neg (by decide), if_pos rfl] at hB
      rw [h, if_neg (by decide), if_neg (by decide), if_pos rfl]
      exact .inr (.inr (.inl ⟨rfl, eq_of_beq hB⟩))
    · rw [h, if_neg (by decide), if_neg (by decide), if_neg (by decide)] at hB
      rw [h, if_neg (by decide), if_neg (by decide), if_neg (by decide)]
      exact .inr (.inr (.inr ⟨rfl, rfl, eq_of_beq hB⟩))
end Go.Proofs.YtgdnemjlmhmhhaaDoor
