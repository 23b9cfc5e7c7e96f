/-
  Parts, and what is above: mathematics.
-/
import Derived.Test.YtgdnemjlmhmhhaaDoorHca
namespace Go.Proofs.YtgdnemjlmhmhhaaDoor

theorem getD_app (a r : List UInt8) (k : Nat) (h : k < a.length) : (a ++ r).getD k 0 = a.getD k 0 := by
  rw [List.getD_eq_getElem?_getD, List.getD_eq_getElem?_getD, List.getElem?_append_left h]
theorem upTo_app (a r : List UInt8) : ∀ k, k ≤ a.length → Pt.upTo (a ++ r) k = Pt.upTo a k
  | 0, _ => rfl
  | k + 1, h => by
    rw [Pt.upTo, Pt.upTo, upTo_app a r k (by omega), getD_app a r k (by omega), List.take_append_of_le_length (by omega)]
theorem upTo_same (p : List UInt8) (k : Nat) (h : ∀ i, k ≤ i → i < p.length → p.getD i 0 ≠ 47) : ∀ n, k + n ≤ p.length → Pt.upTo p (k + n) = Pt.upTo p k
  | 0, _ => rfl
  | n + 1, hn => by
    rw [← Nat.add_assoc, Pt.upTo, if_neg (h (k + n) (by omega) (by omega)), upTo_same p k h n (by omega)]
theorem getD_mem {b : List UInt8} {i : Nat} (h : i < b.length) : b.getD i 0 ∈ b := by
  have : b.getD i 0 = b[i] := by simp [h]
  rw [this]; exact List.getElem_mem h
theorem above_none {p : List UInt8} (h : 47 ∉ p) : Pt.above p = [] := by
  unfold Pt.above
  have := upTo_same p 0 (fun i _ hi e => h (by rw [← e]; exact getD_mem hi)) p.length (by omega)
  rw [Nat.zero_add] at this
  rw [this]; rfl
theorem above_at (a b : List UInt8) (h : 47 ∉ b) : Pt.above (a ++ 47 :: b) = Pt.above a ++ [a] := by
  unfold Pt.above
  have h1 : Pt.upTo (a ++ 47 :: b) (a.length + 1) = Pt.upTo a a.length ++ [a] := by
    rw [Pt.upTo, upTo_app a _ a.length (Nat.le_refl _)]
    have e1 : (a ++ 47 :: b).getD a.length 0 = 47 := by
      rw [List.getD_eq_getElem?_getD, List.getElem?_append_right (Nat.le_refl _), Nat.sub_self]; rfl
    rw [e1, if_pos rfl, List.take_left' rfl]
  have h2 := upTo_same (a ++ 47 :: b) (a.length + 1) (fun i hi hlt e => by
    rw [List.getD_eq_getElem?_getD, List.getElem?_append_right (by omega)] at e
    obtain ⟨j, hj⟩ : ∃ j, i - a.length = j + 1 := ⟨i - a.length - 1, by omega⟩
    rw [hj, List.getElem?_cons_succ] at e
    have hjl : j < b.length := by simp at hlt; omega
    rw [← List.getD_eq_getElem?_getD] at e
    exact h (by rw [← e]; exact getD_mem hjl)) b.length (by simp; omega)
  have e : (a ++ 47 :: b).length = a.length + 1 + b.length := by simp; omega
  rw [e, h2, h1]
/-- What is above, of names. -/
theorem above_glue (l : List (List UInt8)) (h : ∀ x ∈ l, 47 ∉ x) : (Pt.above (Pt.glue l)).length = l.length - 1 ∧ ∀ i, i + 1 < l.length → (Pt.above (Pt.glue l)).getD i [] = Pt.glue (l.take (i + 1)) := by
  refine snocRec (P := fun l => (∀ x ∈ l, 47 ∉ x) → (Pt.above (Pt.glue l)).length = l.length - 1 ∧ ∀ i, i + 1 < l.length → (Pt.above (Pt.glue l)).getD i [] = Pt.glue (l.take (i + 1))) (fun _ => ⟨rfl, fun i hi => by simp at hi⟩) (fun l x ih h => ?_) l h
  have hx := h x (by simp)
  obtain ⟨i1, i2⟩ := ih (fun y hy => h y (by simp [hy]))
  by_cases hl : l = []
  · subst hl
    refine ⟨?_, fun i hi => by simp at hi⟩
    show (Pt.above x).length = 0
    rw [above_none hx]; rfl
  · have hlp : 0 < l.length := List.length_pos_iff.2 hl
    rw [glue_snoc l x hl, above_at _ x hx]
    refine ⟨by rw [List.length_append, i1, List.length_append]; simp; omega, fun i hi => ?_⟩
    rw [List.length_append, List.length_singleton] at hi
    rw [List.take_append_of_le_length (by omega)]
    by_cases hi2 : i + 1 < l.length
    · rw [List.getD_eq_getElem?_getD, List.getElem?_append_left (by omega), ← List.getD_eq_getElem?_getD]
      exact i2 i hi2
    · rw [List.getD_eq_getElem?_getD, List.getElem?_append_right (by omega), i1]
      have e : i - (l.length - 1) = 0 := by omega
      rw [e, List.take_of_length_le (by omega)]; rfl
theorem may_glue {l : List (List UInt8)} (h : l.all Pt.mayName = true) (hn : l.length ≤ 40) (h60 : ∀ x ∈ l, x.length ≤ 60) : Pt.may (Pt.glue l) = true ∧ Pt.split (Pt.glue l) = l ∧ Pt.join l = Pt.glue l := by
  have hf : ∀ x ∈ l, x ≠ [] ∧ 47 ∉ x := fun x hx => by
    obtain ⟨a, _, _, _, b, _⟩ := name_facts (List.all_eq_true.1 h x hx)
    exact ⟨a, b⟩
  have hs : Pt.split (Pt.glue l) = l := by
    unfold Pt.split
    by_cases hl : l = []
    · rw [hl]; rfl
    · rw [if_neg (glue_ne (fun x hx => (hf x hx).1) hl), parts_glue l hl (fun x hx => (hf x hx).2)]
  refine ⟨?_, hs, by unfold Pt.join; rw [full_names h]⟩
  have hg := glue_le 60 l h60
  have hg2 : l.length * (60 + 1) ≤ 40 * 61 := Nat.mul_le_mul hn (Nat.le_refl _)
  unfold Pt.may
  rw [hs, h, decide_eq_true (show (Pt.glue l).length ≤ 4080 by omega), decide_eq_true (show l.length ≤ 254 by omega)]; rfl
theorem less_app (d r : List UInt8) (x : UInt8) : Op.bytesLess d (d ++ x :: r) = true := by
  induction d with
  | nil => rfl
  | cons a t ih =>
    show (decide (a < a) || (a == a && Op.bytesLess t (t ++ x :: r))) = true
    rw [ih]; simp
theorem under_self (p : List UInt8) : Pt.under p p = false := by
  unfold Pt.under
  cases h : (p != [])
  · rfl
  · have h1 : (p == []) = false := by simpa using h
    rw [h1, Bool.true_and, Bool.false_or, Bool.eq_false_iff]
    intro hp
    have := List.IsPrefix.length_le (List.isPrefixOf_iff_prefix.1 hp)
    simp at this
    omega
theorem under_longer {d p : List UInt8} (h : d.length < p.length) : Pt.under p d = false := by
  unfold Pt.under
  have h1 : (p == []) = false := by
    rw [beq_eq_false_iff_ne]; intro e; rw [e] at h; simp at h
  rw [h1, Bool.false_or]
  have h2 : (p ++ [47]).isPrefixOf d = false := by
    rw [Bool.eq_false_iff]
    intro hp
    have := List.IsPrefix.length_le (List.isPrefixOf_iff_prefix.1 hp)
    simp at this; omega
  rw [h2, Bool.and_false]
theorem under_x {d p : List UInt8} (h : Pt.under (d ++ [120]) p = true) : (d ++ [120, 47]).isPrefixOf p = true := by
  unfold Pt.under at h
  have h1 : ((d ++ [120] : List UInt8) == []) = false := by simp
  rw [h1, Bool.false_or, Bool.and_eq_true, List.append_assoc] at h
  exact h.2
theorem join_self {p : List UInt8} (hm : Pt.may p = true) : Pt.join [Pt.parent p, Pt.base p] = p := by
  by_cases h0 : p = []
  · rw [h0]; decide
  · obtain ⟨hn, hs⟩ := may_split hm h0
    rw [join_two _ _ (name_facts hn).1]
    rcases hs with ⟨_, h2, h3⟩ | ⟨h1, h2⟩
    · rw [if_pos h2, h3]
    · rw [if_neg h1]; exact h2.symm
/-- One that is above. -/
structure OneUp (p dir next : List UInt8) : Prop where
  parent : Pt.parent next = dir
  under : Pt.under dir p = true
  may : Pt.may dir = true
  less : Op.bytesLess dir next = true
  back : Pt.under p dir = false
  short : dir.length ≤ 3000 ∧ next.length ≤ 3000 ∧ dir.length < p.length
theorem one_up {l : List (List UInt8)} (h : l.all Pt.mayName = true) (hn : l.length ≤ 40) (h60 : ∀ x ∈ l, x.length ≤ 60) (i : Nat) (hi : i + 1 < l.length) : OneUp (Pt.glue l) (Pt.glue (l.take (i + 1))) (Pt.glue (l.take (i + 2))) := by
  have hf : ∀ x ∈ l, x ≠ [] ∧ 47 ∉ x := fun x hx => by
    obtain ⟨a, _, _, _, b, _⟩ := name_facts (List.all_eq_true.1 h x hx)
    exact ⟨a, b⟩
  have sub : ∀ k, (l.take k).all Pt.mayName = true ∧ (l.take k).length ≤ 40 ∧ ∀ x ∈ l.take k, x.length ≤ 60 := fun k =>
    ⟨by rw [List.all_eq_true]; exact fun x hx => List.all_eq_true.1 h x (List.mem_of_mem_take hx), by rw [List.length_take]; omega, fun x hx => h60 x (List.mem_of_mem_take hx)⟩
  have hlen : ∀ k, (Pt.glue (l.take k)).length ≤ 3000 := fun k => by
    have h1 := glue_le 60 _ (sub k).2.2
    have h2 : (l.take k).length * (60 + 1) ≤ 40 * 61 := Nat.mul_le_mul (sub k).2.1 (Nat.le_refl _)
    omega
  have hne : l.take (i + 1) ≠ [] := by
    intro e
    have := congrArg List.length e
    rw [List.length_take, List.length_nil] at this
    omega
  have hdne : Pt.glue (l.take (i + 1)) ≠ [] := glue_ne (fun x hx => (hf x (List.mem_of_mem_take hx)).1) hne
  have hx47 : 47 ∉ l[i + 1] := (hf _ (List.getElem_mem hi)).2
  have hnext : Pt.glue (l.take (i + 2)) = Pt.glue (l.take (i + 1)) ++ 47 :: l[i + 1] := by
    rw [List.take_succ_eq_append_getElem hi, glue_snoc _ _ hne]
  have hsplit : ∃ r, Pt.glue l = Pt.glue (l.take (i + 1)) ++ 47 :: r := by
    have key : ∀ a b : List (List UInt8), a ≠ [] → b ≠ [] → Pt.glue (a ++ b) = Pt.glue a ++ 47 :: Pt.glue b := by
      intro a
      induction a with
      | nil => intro b ha _; exact absurd rfl ha
      | cons y t ih =>
        intro b _ hb
        cases t with
        | nil =>
          cases b with
          | nil => exact absurd rfl hb
          | cons z u => rfl
        | cons z u =>
          show y ++ 47 :: Pt.glue ((z :: u) ++ b) = (y ++ 47 :: Pt.glue (z :: u)) ++ 47 :: Pt.glue b
          rw [ih b (by simp) hb]
          simp
    refine ⟨Pt.glue (l.drop (i + 1)), ?_⟩
    conv => lhs; rw [← List.take_append_drop (i + 1) l]
    refine key _ _ hne ?_
    intro e
    have := congrArg List.length e
    rw [List.length_drop, List.length_nil] at this
    omega
  obtain ⟨r, hr⟩ := hsplit
  refine ⟨?_, ?_, (may_glue (sub (i + 1)).1 (sub (i + 1)).2.1 (sub (i + 1)).2.2).1, ?_, ?_, hlen _, hlen _, ?_⟩
  · rw [hnext]; exact (base_at _ _ hx47).2
  · unfold Pt.under
    have h1 : (Pt.glue l != []) = true := by rw [hr]; simp
    have h2 : (Pt.glue (l.take (i + 1)) ++ [47]).isPrefixOf (Pt.glue l) = true := by
      rw [List.isPrefixOf_iff_prefix]
      exact ⟨r, by rw [hr]; simp⟩
    rw [h1, h2, Bool.or_true]; rfl
  · rw [hnext]; exact less_app _ _ _
  · exact under_longer (by rw [hr]; simp)
  · rw [hr]; simp
/-- The names that are taken. -/
def picks (names : List (List UInt8)) (k : Nat) : List (List UInt8) := ((((names.take k).take 40).map fun s => s.take 60)).filter Pt.mayName
theorem picks_succ (names : List (List UInt8)) (k : Nat) (hk : k < names.length) : picks names (k + 1) = if k < 40 ∧ Pt.mayName ((names.getD k []).take 60) = true then picks names k ++ [(names.getD k []).take 60] else picks names k := by
  have e : names.getD k [] = names[k] := by simp [hk]
  unfold picks
  rw [List.take_succ_eq_append_getElem hk, e]
  have hl : (names.take k).length = k := by rw [List.length_take]; omega
  by_cases h40 : k < 40
  · rw [List.take_of_length_le (by rw [List.length_append, hl]; simp; omega), List.take_of_length_le (l := names.take k) (by rw [hl]; omega)]
    rw [List.map_append, List.filter_append]
    by_cases hm : Pt.mayName (names[k].take 60) = true
    · rw [if_pos ⟨h40, hm⟩]
      simp [hm]
    · rw [if_neg (fun h => hm h.2)]
      simp [hm]
  · rw [if_neg (fun h => h40 h.1), List.take_append_of_le_length (by rw [hl]; omega)]
theorem picks_facts (names : List (List UInt8)) (k : Nat) : (picks names k).all Pt.mayName = true ∧ (picks names k).length ≤ 40 ∧ ∀ x ∈ picks names k, x.length ≤ 60 := by
  refine ⟨?_, ?_, fun x hx => ?_⟩
  · rw [List.all_eq_true]
    exact fun x hx => (List.mem_filter.1 hx).2
  · unfold picks
    have h1 := List.length_filter_le Pt.mayName (((names.take k).take 40).map fun s => s.take 60)
    rw [List.length_map, List.length_take] at h1
    omega
  · obtain ⟨y, _, hy⟩ := List.mem_map.1 (List.mem_filter.1 hx).1
    rw [← hy, List.length_take]; omega
end Go.Proofs.YtgdnemjlmhmhhaaDoor
