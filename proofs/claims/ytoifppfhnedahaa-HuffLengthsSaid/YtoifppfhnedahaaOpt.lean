/-
  Nothing weighs less than what is taken of the lists.
-/
import Derived.Test.YtoifppfhnedahaaKraft
namespace Go.Proofs.Ytoifppfhnedahaa
open Go.RowKit Hf
/-- What is below a mark, all together. -/
def und (v : Int) (es : List (Int × Bool)) : Int := (es.map fun e => min (e.1 - v) 0).sum
theorem und_cons (v : Int) (e : Int × Bool) (t : List (Int × Bool)) : und v (e :: t) = min (e.1 - v) 0 + und v t := rfl
theorem und_append (v : Int) (a b : List (Int × Bool)) : und v (a ++ b) = und v a + und v b := by simp [und]
theorem und_mg (v : Int) (items ps : List (Int × Bool)) : und v (mg items ps) = und v items + und v ps := by
  induction ps generalizing items with
  | nil => simp [mg, und]
  | cons p t ih =>
    rw [mg, und_append, und_cons, ih, und_cons]
    have h2 := congrArg (und v) (List.takeWhile_append_dropWhile (p := fun e : Int × Bool => decide (e.1 ≤ p.1)) (l := items))
    rw [und_append] at h2
    omega
theorem und_neg (v : Int) (es : List (Int × Bool)) : und v es ≤ 0 := by
  induction es with
  | nil => exact Int.le_refl _
  | cons e t ih => rw [und_cons]; omega
theorem mul_up (n : Nat) (v : Int) : ((n + 1 : Nat) : Int) * v = (n : Int) * v + v := by rw [Int.natCast_add, Int.add_mul]; simp
theorem take_ge (v : Int) (es : List (Int × Bool)) (T : Nat) (hT : T ≤ es.length) : T * v + und v es ≤ esum (es.take T) := by
  induction es generalizing T with
  | nil => simp at hT; subst hT; simp [und, esum]
  | cons e t ih =>
    rw [und_cons]
    cases T with
    | zero => have := und_neg v t; simp [esum]; omega
    | succ T =>
      have := ih T (by simpa using hT)
      rw [List.take_succ_cons, esum_cons, mul_up]
      omega
theorem und_none (v : Int) (es : List (Int × Bool)) (h : ∀ e ∈ es, v ≤ e.1) : und v es = 0 := by
  induction es with
  | nil => rfl
  | cons e t ih => rw [und_cons, ih (fun x hx => h x (by simp [hx]))]; have := h e (by simp); omega
theorem und_all (v : Int) (es : List (Int × Bool)) (h : ∀ e ∈ es, e.1 ≤ v) : es.length * v + und v es = esum es := by
  induction es with
  | nil => simp [und, esum]
  | cons e t ih =>
    have := ih (fun x hx => h x (by simp [hx]))
    have := h e (by simp)
    rw [und_cons, esum_cons, List.length_cons, mul_up]; omega
/-- At the mark of the last one taken it is just as much. -/
theorem take_eq (es : List (Int × Bool)) (h : ris es) (T : Nat) (hT : T < es.length) : (T + 1 : Nat) * (es[T]).1 + und (es[T]).1 es = esum (es.take (T + 1)) := by
  have h1 := List.take_append_drop (T + 1) es
  have h2 := List.pairwise_iff_getElem.1 h
  have e1 := und_all (es[T]).1 (es.take (T + 1)) (fun e he => by
    obtain ⟨i, hi, rfl⟩ := List.getElem_of_mem he
    rw [List.getElem_take]
    rw [List.length_take] at hi
    rcases Nat.lt_or_ge i T with h3 | h3
    · exact h2 i T (by omega) hT h3
    · obtain rfl : i = T := by omega
      exact Int.le_refl _)
  have e2 := und_none (es[T]).1 (es.drop (T + 1)) (fun e he => by
    obtain ⟨i, hi, rfl⟩ := List.getElem_of_mem he
    rw [List.getElem_drop]
    rw [List.length_drop] at hi
    exact h2 T (T + 1 + i) hT (by omega) (by omega))
  have e3 := congrArg (und (es[T]).1) h1
  rw [und_append] at e3
  rw [List.length_take, Nat.min_eq_left (by omega)] at e1
  omega
theorem mg_least (items ps : List (Int × Bool)) (hi : ris items) (hp : ris ps) (a b : Nat) (ha : a ≤ items.length) (hb : b ≤ ps.length) : esum ((mg items ps).take (a + b)) ≤ esum (items.take a) + esum (ps.take b) := by
  have hl := mg_length items ps
  rcases Nat.eq_zero_or_pos (a + b) with h | h
  · obtain rfl : a = 0 := by omega
    obtain rfl : b = 0 := by omega
    simp [esum]
  · obtain ⟨T, hT⟩ : ∃ T, a + b = T + 1 := ⟨a + b - 1, by omega⟩
    have e := take_eq (mg items ps) (mg_ris _ _ hi hp) T (by omega)
    rw [hT, ← e]
    generalize ((mg items ps)[T]'(by omega)).1 = v
    have h1 := take_ge v items a ha
    have h2 := take_ge v ps b hb
    rw [und_mg, ← hT, Int.natCast_add, Int.add_mul]
    omega
/-- What is taken of a merged list: so many of each. -/
theorem mg_taken (items ps : List (Int × Bool)) : ∀ T, (∀ e ∈ items, e.2 = false) → (∀ e ∈ ps, e.2 = true) → esum ((mg items ps).take T) = esum (items.take (T - pcs ((mg items ps).take T))) + esum (ps.take (pcs ((mg items ps).take T))) := by
  induction ps generalizing items with
  | nil =>
    intro T hi _
    show esum (items.take T) = esum (items.take (T - pcs (items.take T))) + _
    rw [none_pcs (fun e he => hi e (List.mem_of_mem_take he))]
    simp [esum]
  | cons x t ih =>
    intro T hi hp
    rw [mg]
    have h2 := List.takeWhile_append_dropWhile (p := fun e : Int × Bool => decide (e.1 ≤ x.1)) (l := items)
    have hfl : ∀ e ∈ items.takeWhile (fun e => decide (e.1 ≤ x.1)), e.2 = false := fun e he => hi e (List.takeWhile_subset _ he)
    have hid : ∀ e ∈ items.dropWhile (fun e => decide (e.1 ≤ x.1)), e.2 = false := fun e he => hi e (List.dropWhile_subset _ he)
    generalize items.takeWhile (fun e => decide (e.1 ≤ x.1)) = tw at *
    generalize items.dropWhile (fun e => decide (e.1 ≤ x.1)) = dw at *
    subst h2
    rw [List.take_append, pcs_append, none_pcs (fun e he => hfl e (List.mem_of_mem_take he)), Nat.zero_add, esum_append]
    rcases Nat.lt_or_ge tw.length T with hT | hT
    · obtain ⟨R, hR⟩ : ∃ R, T - tw.length = R + 1 := ⟨T - tw.length - 1, by omega⟩
      rw [hR, List.take_succ_cons]
      have e1 : pcs (x :: (mg dw t).take R) = pcs ((mg dw t).take R) + 1 := by
        have := hp x (by simp)
        simp [pcs, this]
      rw [e1, esum_cons, ih dw R hid (fun e he => hp e (by simp [he])), List.take_succ_cons, esum_cons, List.take_of_length_le (by omega)]
      have h3 := pcs_le ((mg dw t).take R)
      rw [List.length_take] at h3
      rw [List.take_append, esum_append, List.take_of_length_le (i := T - _) (l := tw) (by omega), show T - (pcs ((mg dw t).take R) + 1) - tw.length = R - pcs ((mg dw t).take R) by omega]
      omega
    · rw [show T - tw.length = 0 by omega]
      simp only [List.take_zero]
      show _ + esum [] = esum ((tw ++ dw).take (T - 0)) + esum []
      rw [Nat.sub_zero, List.take_append, show T - tw.length = 0 by omega]
      simp [esum]
theorem pk_take : ∀ (es : List (Int × Bool)) (p : Nat), 2 * p ≤ es.length → esum ((pk es).take p) = esum (es.take (2 * p))
  | [], p, h => by obtain rfl : p = 0 := by simp at h; omega
                   rfl
  | [_], p, h => by obtain rfl : p = 0 := by simp at h; omega
                    rfl
  | _ :: _ :: _, 0, _ => rfl
  | x :: y :: t, p + 1, h => by
    have := pk_take t p (by simp at h; omega)
    show esum (((x.1 + y.1, true) :: pk t).take (p + 1)) = _
    rw [List.take_succ_cons, show 2 * (p + 1) = 2 * p + 1 + 1 by omega, List.take_succ_cons, List.take_succ_cons, esum_cons, esum_cons, esum_cons, this]
    simp only; omega
/-- What is taken of a list weighs as much as its symbols and what their packages are made of. -/
theorem lst_take (cs : List Int) (j T : Nat) : esum ((lst (its cs) (j + 1)).take T) = esum ((its cs).take (T - pcs ((lst (its cs) (j + 1)).take T))) + esum ((lst (its cs) j).take (2 * pcs ((lst (its cs) (j + 1)).take T))) := by
  have h1 := pcs_lst cs j T
  have := mg_taken (its cs) (pk (lst (its cs) j)) T (its_flag cs) (pk_flag _)
  rw [pk_take _ _ (by
    show 2 * pcs ((lst (its cs) (j + 1)).take T) ≤ _
    omega)] at this
  exact this
/-- How many are had at a list's place of so many at each. -/
def had (a : Nat → Nat) : Nat → Nat
  | 0 => a 0
  | j + 1 => a (j + 1) + had a j / 2
def fsum (f : Nat → Int) : Nat → Int
  | 0 => 0
  | j + 1 => fsum f j + f j
theorem had_le (cs : List Int) (a : Nat → Nat) (h : ∀ i, a i ≤ cs.length) (j : Nat) : had a j ≤ (lst (its cs) j).length := by
  induction j with
  | zero => show a 0 ≤ (its cs).length; rw [its_length]; exact h 0
  | succ j ih => rw [lst_length, its_length]; have := h (j + 1); show a (j + 1) + had a j / 2 ≤ _; omega
theorem esum_take_mono (es : List (Int × Bool)) (h : epos es) (a b : Nat) (hab : a ≤ b) : esum (es.take a) ≤ esum (es.take b) := by
  have h1 := List.take_append_drop a (es.take b)
  rw [List.take_take, Nat.min_eq_left hab] at h1
  rw [← h1, esum_append]
  have : 0 ≤ esum ((es.take b).drop a) := by
    have h2 : epos ((es.take b).drop a) := fun e he => h e (List.mem_of_mem_take (List.mem_of_mem_drop he))
    generalize (es.take b).drop a = l at h2
    induction l with
    | nil => exact Int.le_refl _
    | cons x t ih =>
      rw [esum_cons]
      have := h2 x (by simp)
      have := ih (fun y hy => h2 y (by simp [hy]))
      omega
  omega
theorem its_epos (cs : List Int) (h0 : ∀ c ∈ cs, 0 ≤ c) : epos (its cs) := by
  intro e he
  obtain ⟨c, hc, rfl⟩ := List.mem_map.1 he
  exact h0 c hc
/-- Nothing weighs less than what is taken. -/
theorem lst_least (cs : List Int) (hr : ris (its cs)) (h0 : ∀ c ∈ cs, 0 ≤ c) (a : Nat → Nat) (ha : ∀ i, a i ≤ cs.length) (j : Nat) : ∀ T, T ≤ had a j → esum ((lst (its cs) j).take T) ≤ fsum (fun i => esum ((its cs).take (a i))) (j + 1) := by
  induction j with
  | zero =>
    intro T hT
    show esum ((its cs).take T) ≤ 0 + _
    have := esum_take_mono (its cs) (its_epos cs h0) T (a 0) hT
    simp only; omega
  | succ j ih =>
    intro T hT
    have hT : T ≤ a (j + 1) + had a j / 2 := hT
    have h1 := had_le cs a ha j
    have h2 := ha (j + 1)
    have h3 := mg_least (its cs) (pk (lst (its cs) j)) hr (pk_ris _ (lst_ris _ hr j)) (min T (a (j + 1))) (T - min T (a (j + 1))) (by rw [its_length]; omega) (by rw [pk_length]; omega)
    rw [show min T (a (j + 1)) + (T - min T (a (j + 1))) = T by omega, pk_take _ _ (by omega)] at h3
    have h4 := ih (2 * (T - min T (a (j + 1)))) (by omega)
    have h5 := esum_take_mono (its cs) (its_epos cs h0) (min T (a (j + 1))) (a (j + 1)) (Nat.min_le_right _ _)
    rw [fsum]
    show esum ((mg (its cs) (pk (lst (its cs) j))).take T) ≤ _
    omega
end Go.Proofs.Ytoifppfhnedahaa
