/-
  What is cleaned is clean: mathematics; strings.ReplaceAll of a slash.
-/
import Derived.Test.YtgdnemjlmhmhhaaDoorHrg
namespace Go.Proofs.YtgdnemjlmhmhhaaDoor
open Go.RowKit Go.Maps

theorem clean_three (p : List UInt8) : Pt.cleanE (47 :: p) = 30 ∧ Pt.cleanE (p ++ [47, 46, 46]) = 30 ∧ Pt.cleanE ([46, 46, 47] ++ p) = 30 := by
  refine ⟨(clean_bad (by simp)).1, (clean_dots ?_).1, (clean_dots ?_).1⟩
  · rw [show p ++ [47, 46, 46] = p ++ 47 :: [46, 46] from rfl, parts_last p [46, 46] (by decide), List.contains_append]
    simp
  · rw [show [46, 46, 47] ++ p = [46, 46] ++ 47 :: p from rfl, parts_at [46, 46] p (by decide)]
    simp
theorem cleanE_vals (p : List UInt8) : Pt.cleanE p = 30 ∨ Pt.cleanE p = 3 ∨ Pt.cleanE p = 0 := by
  unfold Pt.cleanE
  split
  · exact .inl rfl
  · split
    · exact .inr (.inl rfl)
    · exact .inr (.inr rfl)
theorem cleanP_bad {p : List UInt8} (h : Pt.cleanE p ≠ 0) : Pt.cleanP p = [] := by unfold Pt.cleanP; rw [if_neg h]
theorem parts_no (p : List UInt8) : ∀ x ∈ Pt.parts p, 47 ∉ x ∧ ∀ y ∈ x, y ∈ p := by
  induction p with
  | nil => intro x hx; have : x = [] := by simpa [Pt.parts] using hx
           subst this; exact ⟨by simp, fun y hy => by cases hy⟩
  | cons c t ih =>
    rw [parts_cons]
    by_cases hc : c = 47
    · rw [if_pos hc]
      intro x hx
      rcases List.mem_cons.1 hx with rfl | hx
      · exact ⟨by simp, fun y hy => by cases hy⟩
      · obtain ⟨h1, h2⟩ := ih x hx
        exact ⟨h1, fun y hy => List.mem_cons_of_mem _ (h2 y hy)⟩
    · rw [if_neg hc]
      split
      · intro x hx
        have : x = [c] := by simpa using hx
        subst this
        exact ⟨by simpa using fun e => hc e.symm, fun y hy => by rw [List.mem_singleton] at hy; rw [hy]; simp⟩
      · rename_i a r h
        rw [h] at ih
        intro x hx
        rcases List.mem_cons.1 hx with rfl | hx
        · obtain ⟨h1, h2⟩ := ih a (by simp)
          refine ⟨by rw [List.mem_cons, not_or]; exact ⟨fun e => hc e.symm, h1⟩, fun y hy => ?_⟩
          rcases List.mem_cons.1 hy with rfl | hy
          · simp
          · exact List.mem_cons_of_mem _ (h2 y hy)
        · obtain ⟨h1, h2⟩ := ih x (by simp [hx])
          exact ⟨h1, fun y hy => List.mem_cons_of_mem _ (h2 y hy)⟩
theorem parts_glue : ∀ K : List (List UInt8), K ≠ [] → (∀ x ∈ K, 47 ∉ x) → Pt.parts (Pt.glue K) = K
  | [], h, _ => absurd rfl h
  | [a], _, h => parts_none a (h a (by simp))
  | a :: b :: r, _, h => by
    show Pt.parts (a ++ 47 :: Pt.glue (b :: r)) = _
    rw [parts_at a _ (h a (by simp)), parts_glue (b :: r) (by simp) (fun x hx => h x (by simp [hx]))]
theorem kept_kept (l : List (List UInt8)) : Pt.kept (Pt.kept l) = Pt.kept l := by
  unfold Pt.kept
  rw [List.filter_filter]
  congr 1
  funext a
  cases (a != [] && a != [46]) <;> rfl
def raw0 (p : List UInt8) : Bool := p.contains 0 || [47].isPrefixOf p || (Pt.parts p).contains [46, 46]
/-- What a clean path's parts are. -/
structure CleanK (p : List UInt8) (K : List (List UInt8)) : Prop where
  glue : Pt.cleanP p = Pt.glue K
  split : Pt.split (Pt.cleanP p) = K
  each : ∀ x ∈ K, x ≠ [] ∧ x ≠ [46] ∧ x ≠ [46, 46] ∧ x.length ≤ 255 ∧ x.all Pt.okB = true
  few : K.length ≤ 255
  short : (Pt.cleanP p).length ≤ 4096
  again : Pt.cleanE (Pt.cleanP p) = 0 ∧ Pt.cleanP (Pt.cleanP p) = Pt.cleanP p
theorem clean_kept {p : List UInt8} (h : Pt.cleanE p = 0) : CleanK p (Pt.kept (Pt.parts p)) := by
  have h1 : Pt.cleanP p = Pt.glue (Pt.kept (Pt.parts p)) := by unfold Pt.cleanP; rw [if_pos h]
  unfold Pt.cleanE at h
  split at h
  · exact absurd h (by decide)
  rename_i hb
  split at h
  · exact absurd h (by decide)
  rename_i hl
  have hb' : (raw0 p) = false := Bool.eq_false_iff.2 hb
  unfold raw0 at hb'
  rw [Bool.or_eq_false_iff, Bool.or_eq_false_iff] at hb'
  obtain ⟨⟨hb0, _⟩, hbd⟩ := hb'
  have hl' : ((Pt.kept (Pt.parts p)).any (fun a => decide (255 < a.length)) || decide (255 < (Pt.kept (Pt.parts p)).length) || decide (4096 < (Pt.glue (Pt.kept (Pt.parts p))).length)) = false := Bool.eq_false_iff.2 hl
  rw [Bool.or_eq_false_iff, Bool.or_eq_false_iff] at hl'
  obtain ⟨⟨hl1, hl2⟩, hl3⟩ := hl'
  have hl2 := of_decide_eq_false hl2
  have hl3 := of_decide_eq_false hl3
  obtain ⟨K, hK⟩ : ∃ K, Pt.kept (Pt.parts p) = K := ⟨_, rfl⟩
  have hmem : ∀ x ∈ K, x ∈ Pt.parts p ∧ x ≠ [] ∧ x ≠ [46] := fun x hx => by
    rw [← hK] at hx
    obtain ⟨m1, m2⟩ := List.mem_filter.1 hx
    simp only [Bool.and_eq_true, bne_iff_ne] at m2
    exact ⟨m1, m2⟩
  have hdd : ∀ x ∈ K, x ≠ [46, 46] := fun x hx e => by
    have : (Pt.parts p).contains [46, 46] = true := by rw [List.contains_iff_mem, ← e]; exact (hmem x hx).1
    rw [hbd] at this; cases this
  have h47 : ∀ x ∈ K, 47 ∉ x := fun x hx => (parts_no p x (hmem x hx).1).1
  have h00 : ∀ x ∈ K, 0 ∉ x := fun x hx hm => by
    have := (parts_no p x (hmem x hx).1).2 0 hm
    rw [← List.contains_iff_mem, hb0] at this; cases this
  have hlen : ∀ x ∈ K, x.length ≤ 255 := fun x hx => by
    have hl1 := hl1
    rw [hK, Bool.eq_false_iff] at hl1
    refine Nat.le_of_not_lt (fun hlt => hl1 ?_)
    rw [List.any_eq_true]
    exact ⟨x, hx, decide_eq_true hlt⟩
  have hokB : ∀ x ∈ K, x.all Pt.okB = true := fun x hx => by
    rw [List.all_eq_true]
    intro y hy
    unfold Pt.okB
    have e1 : (y == 47) = false := beq_eq_false_iff_ne.2 (fun e => h47 x hx (by rw [← e]; exact hy))
    have e2 : (y == 0) = false := beq_eq_false_iff_ne.2 (fun e => h00 x hx (by rw [← e]; exact hy))
    rw [e1, e2]; rfl
  rw [hK] at h1 hl1 hl2 hl3
  have hsplit : Pt.split (Pt.glue K) = K := by
    unfold Pt.split
    by_cases hk0 : K = []
    · rw [hk0]; rfl
    · have hne := glue_ne (fun x hx => (hmem x hx).2.1) hk0
      rw [if_neg hne, parts_glue K hk0 h47]
  have hkk : Pt.kept K = K := by rw [← hK, kept_kept]
  have hE : Pt.cleanE (Pt.glue K) = 0 := by
    by_cases hk0 : K = []
    · rw [hk0]; decide
    have hne := glue_ne (fun x hx => (hmem x hx).2.1) hk0
    have hp := parts_glue K hk0 h47
    unfold Pt.cleanE
    rw [hp, hkk]
    have c1 : (Pt.glue K).contains 0 = false := by
      rw [Bool.eq_false_iff]
      intro hm
      rw [List.contains_iff_mem] at hm
      have hin : ∀ l : List (List UInt8), (0 : UInt8) ∈ Pt.glue l → ∃ x ∈ l, 0 ∈ x := by
        intro l
        induction l with
        | nil => intro h; cases h
        | cons a r ih =>
          cases r with
          | nil => intro h; exact ⟨a, by simp, h⟩
          | cons b r =>
            intro h
            have h : (0 : UInt8) ∈ a ++ 47 :: Pt.glue (b :: r) := h
            rcases List.mem_append.1 h with h | h
            · exact ⟨a, by simp, h⟩
            · rcases List.mem_cons.1 h with h | h
              · exact absurd h (by decide)
              · obtain ⟨x, hx, h0⟩ := ih h
                exact ⟨x, by simp [hx], h0⟩
      obtain ⟨x, hx, h0⟩ := hin K hm
      exact h00 x hx h0
    have c2 : [47].isPrefixOf (Pt.glue K) = false := by
      cases hk : K with
      | nil => exact absurd hk hk0
      | cons a r =>
        have ha := (hmem a (by rw [hk]; simp)).2.1
        have ha47 := h47 a (by rw [hk]; simp)
        cases a with
        | nil => exact absurd rfl ha
        | cons y t =>
          have hy : ¬ (47 : UInt8) = y := fun e => ha47 (by rw [e]; simp)
          have hh : ∃ u, Pt.glue ((y :: t) :: r) = y :: u := by
            cases r with
            | nil => exact ⟨t, rfl⟩
            | cons b r => exact ⟨t ++ 47 :: Pt.glue (b :: r), rfl⟩
          obtain ⟨u, hu⟩ := hh
          rw [hu]
          show ((47 : UInt8) == y && _) = false
          rw [beq_eq_false_iff_ne.2 hy]; rfl
    have c3 : K.contains [46, 46] = false := by
      rw [Bool.eq_false_iff]
      intro hm
      rw [List.contains_iff_mem] at hm
      exact hdd _ hm rfl
    rw [c1, c2, c3, if_neg (by decide), hl1, decide_eq_false hl2, decide_eq_false hl3, if_neg (by decide)]
  have hKK : Pt.cleanP (Pt.glue K) = Pt.glue K := by
    unfold Pt.cleanP
    rw [if_pos hE]
    by_cases hk0 : K = []
    · rw [hk0]; rfl
    · rw [parts_glue K hk0 h47, hkk]
  rw [hK]
  exact ⟨h1, by rw [h1]; exact hsplit, fun x hx => ⟨(hmem x hx).2.1, (hmem x hx).2.2, hdd x hx, hlen x hx, hokB x hx⟩, by omega, by rw [h1]; omega, by rw [h1]; exact ⟨hE, hKK⟩⟩
end Go.Proofs.YtgdnemjlmhmhhaaDoor
