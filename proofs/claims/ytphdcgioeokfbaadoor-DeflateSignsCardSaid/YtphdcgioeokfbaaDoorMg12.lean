/-
  Merged, in the order in which they build: Pack RefA.
-/
import Derived.Test.YtphdcgioeokfbaaDoorMg2
import Derived.Test.YtphdcgioeokfbaaDoorMg4
import Derived.Test.YtphdcgioeokfbaaDoorMg11
/-
  Packages, as plain mathematics: what is taken of the lists.
-/
namespace Go.Proofs.YtphdcgioeokfbaaDoor
open Go.RowKit Hf
/-- By rising counts. -/
def ris (es : List (Int × Bool)) : Prop := es.Pairwise (fun a b => a.1 ≤ b.1)
theorem pk_length : ∀ es : List (Int × Bool), (pk es).length = es.length / 2
  | [] => rfl
  | [_] => by simp [pk]
  | x :: y :: t => by
    show ((x.1 + y.1, true) :: pk t).length = _
    simp only [List.length_cons, pk_length t]; omega
theorem pk_flag : ∀ (es : List (Int × Bool)) (e : Int × Bool), e ∈ pk es → e.2 = true
  | [], _, h => by cases h
  | [_], _, h => by cases h
  | x :: y :: t, e, h => by
    have h : e ∈ (x.1 + y.1, true) :: pk t := h
    rcases List.mem_cons.1 h with rfl | h
    · rfl
    · exact pk_flag t e h
theorem pk_at : ∀ (es : List (Int × Bool)) (m : Nat) (p : Int × Bool), (pk es)[m]? = some p → ∃ x y, es[2 * m]? = some x ∧ es[2 * m + 1]? = some y ∧ p = (x.1 + y.1, true)
  | [], _, _, h => by simp [pk] at h
  | [_], _, _, h => by simp [pk] at h
  | x :: y :: t, 0, p, h => by
    have h : ((x.1 + y.1, true) :: pk t)[0]? = some p := h
    simp at h
    exact ⟨x, y, rfl, rfl, h.symm⟩
  | x :: y :: t, m + 1, p, h => by
    have h : ((x.1 + y.1, true) :: pk t)[m + 1]? = some p := h
    rw [List.getElem?_cons_succ] at h
    obtain ⟨a, b, h1, h2, h3⟩ := pk_at t m p h
    refine ⟨a, b, ?_, ?_, h3⟩
    · rw [show 2 * (m + 1) = 2 * m + 1 + 1 by omega, List.getElem?_cons_succ, List.getElem?_cons_succ]; exact h1
    · rw [show 2 * (m + 1) + 1 = 2 * m + 1 + 1 + 1 by omega, List.getElem?_cons_succ, List.getElem?_cons_succ]; exact h2
theorem pk_mem (es : List (Int × Bool)) (p : Int × Bool) (h : p ∈ pk es) : ∃ x y, x ∈ es ∧ y ∈ es ∧ p.1 = x.1 + y.1 := by
  obtain ⟨m, hm⟩ := List.mem_iff_getElem?.1 h
  obtain ⟨x, y, h1, h2, h3⟩ := pk_at es m p hm
  exact ⟨x, y, List.mem_of_getElem? h1, List.mem_of_getElem? h2, by rw [h3]⟩
theorem pk_ris : ∀ es : List (Int × Bool), ris es → ris (pk es)
  | [], _ => List.Pairwise.nil
  | [_], _ => List.Pairwise.nil
  | x :: y :: t, h => by
    show ris ((x.1 + y.1, true) :: pk t)
    have h1 := List.pairwise_cons.1 h
    have h2 := List.pairwise_cons.1 h1.2
    refine List.pairwise_cons.2 ⟨fun p hp => ?_, pk_ris t h2.2⟩
    obtain ⟨a, b, ha, hb, e⟩ := pk_mem t p hp
    have := h1.1 a (by simp [ha])
    have := h2.1 b hb
    rw [e]; simp only; omega
theorem mg_mem (items ps : List (Int × Bool)) (e : Int × Bool) (h : e ∈ mg items ps) : e ∈ items ∨ e ∈ ps := by
  induction ps generalizing items with
  | nil => exact .inl h
  | cons p t ih =>
    rw [mg] at h
    rcases List.mem_append.1 h with h | h
    · exact .inl (List.takeWhile_subset _ h)
    · rcases List.mem_cons.1 h with rfl | h
      · exact .inr (by simp)
      · rcases ih _ h with h | h
        · exact .inl (List.dropWhile_subset _ h)
        · exact .inr (by simp [h])
theorem drop_above (es : List (Int × Bool)) (v : Int) (h : ris es) : ∀ e ∈ es.dropWhile (fun e => decide (e.1 ≤ v)), v < e.1 := by
  induction es with
  | nil => intro e he; cases he
  | cons x t ih =>
    have h1 := List.pairwise_cons.1 h
    rw [List.dropWhile_cons]
    split
    · exact ih h1.2
    · rename_i hx
      simp at hx
      intro e he
      rcases List.mem_cons.1 he with rfl | he
      · exact hx
      · have := h1.1 e he; omega
theorem take_below (es : List (Int × Bool)) (v : Int) : ∀ e ∈ es.takeWhile (fun e => decide (e.1 ≤ v)), e.1 ≤ v := by
  induction es with
  | nil => intro e he; cases he
  | cons x t ih =>
    rw [List.takeWhile_cons]
    split
    · rename_i hx
      simp at hx
      intro e he
      rcases List.mem_cons.1 he with rfl | he
      · exact hx
      · exact ih e he
    · intro e he; cases he
theorem drop_ris (es : List (Int × Bool)) (q : Int × Bool → Bool) (h : ris es) : ris (es.dropWhile q) := List.Pairwise.sublist (List.dropWhile_sublist (p := q)) h
theorem take_ris (es : List (Int × Bool)) (q : Int × Bool → Bool) (h : ris es) : ris (es.takeWhile q) := List.Pairwise.sublist (List.takeWhile_sublist (p := q)) h
theorem mg_ris (items ps : List (Int × Bool)) (h : ris items) (hp : ris ps) : ris (mg items ps) := by
  induction ps generalizing items with
  | nil => exact h
  | cons p t ih =>
    have hp1 := List.pairwise_cons.1 hp
    rw [mg]
    refine List.pairwise_append.2 ⟨take_ris _ _ h, List.pairwise_cons.2 ⟨fun e he => ?_, ih _ (drop_ris _ _ h) hp1.2⟩, fun a ha b hb => ?_⟩
    · rcases mg_mem _ _ _ he with he | he
      · have := drop_above items p.1 h e he; omega
      · exact hp1.1 e he
    · have h1 := take_below items p.1 a ha
      rcases List.mem_cons.1 hb with rfl | hb
      · exact h1
      · rcases mg_mem _ _ _ hb with hb | hb
        · have := drop_above items p.1 h b hb; omega
        · have := hp1.1 b hb; omega
theorem mg_count (P : Int × Bool → Bool) (items ps : List (Int × Bool)) : (mg items ps).countP P = items.countP P + ps.countP P := by
  induction ps generalizing items with
  | nil => simp [mg]
  | cons p t ih =>
    rw [mg, List.countP_append, List.countP_cons, ih, List.countP_cons]
    have h2 := congrArg (List.countP P) (List.takeWhile_append_dropWhile (p := fun e : Int × Bool => decide (e.1 ≤ p.1)) (l := items))
    rw [List.countP_append] at h2
    omega
theorem pcs_count (es : List (Int × Bool)) : pcs es = es.countP (·.2) := by unfold pcs; rw [List.countP_eq_length_filter]
theorem pcs_not (es : List (Int × Bool)) : es.length = pcs es + es.countP (fun e => !e.2) := by
  rw [pcs_count, List.length_eq_countP_add_countP (fun e : Int × Bool => e.2)]
  congr 2
  funext e; cases e.2 <;> rfl
theorem its_flag (cs : List Int) : ∀ e ∈ its cs, e.2 = false := by
  intro e he
  obtain ⟨c, _, rfl⟩ := List.mem_map.1 he
  rfl
theorem its_length (cs : List Int) : (its cs).length = cs.length := by simp [its]
theorem none_pcs {es : List (Int × Bool)} (h : ∀ e ∈ es, e.2 = false) : pcs es = 0 := by
  rw [pcs_count, List.countP_eq_zero]; intro e he; rw [h e he]; simp
theorem all_pcs {es : List (Int × Bool)} (h : ∀ e ∈ es, e.2 = true) : pcs es = es.length := by
  rw [pcs_count, List.countP_eq_length]; exact h
theorem pcs_append (a b : List (Int × Bool)) : pcs (a ++ b) = pcs a + pcs b := by simp [pcs]
theorem mg_ahead (ps : List (Int × Bool)) : ∀ (items : List (Int × Bool)) (m T : Nat) (p : Int × Bool), ris items → (∀ e ∈ items, e.2 = false) → (∀ e ∈ ps, e.2 = true) → ps[m]? = some p → m < pcs ((mg items ps).take T) → items.countP (fun e => decide (e.1 ≤ p.1)) + m + 1 ≤ T := by
  induction ps with
  | nil => intro items m T p _ _ _ h; simp at h
  | cons x t ih =>
    intro items m T p hr hi hp hm hlt
    rw [mg] at hlt
    have h2 := List.takeWhile_append_dropWhile (p := fun e : Int × Bool => decide (e.1 ≤ x.1)) (l := items)
    have hfl : ∀ e ∈ items.takeWhile (fun e => decide (e.1 ≤ x.1)), e.2 = false := fun e he => hi e (List.takeWhile_subset _ he)
    have hdr := drop_above items x.1 hr
    have hrd : ris (items.dropWhile (fun e => decide (e.1 ≤ x.1))) := drop_ris _ _ hr
    have hid : ∀ e ∈ items.dropWhile (fun e => decide (e.1 ≤ x.1)), e.2 = false := fun e he => hi e (List.dropWhile_subset _ he)
    generalize items.takeWhile (fun e => decide (e.1 ≤ x.1)) = tw at *
    generalize items.dropWhile (fun e => decide (e.1 ≤ x.1)) = dw at *
    subst h2
    rw [List.take_append, pcs_append, none_pcs (fun e he => hfl e (List.mem_of_mem_take he)), Nat.zero_add] at hlt
    have hT : tw.length < T := by
      apply Classical.byContradiction
      intro h
      rw [show T - tw.length = 0 by omega] at hlt
      simp [pcs] at hlt
    rw [show T - tw.length = (T - tw.length - 1) + 1 by omega, List.take_succ_cons] at hlt
    have e1 : pcs (x :: (mg dw t).take (T - tw.length - 1)) = pcs ((mg dw t).take (T - tw.length - 1)) + 1 := by
      have := hp x (by simp)
      simp [pcs, this]
    rw [e1] at hlt
    rw [List.countP_append]
    have hct := List.countP_le_length (p := fun e : Int × Bool => decide (e.1 ≤ p.1)) (l := tw)
    cases m with
    | zero =>
      simp at hm
      subst hm
      have : dw.countP (fun e => decide (e.1 ≤ x.1)) = 0 := by
        rw [List.countP_eq_zero]; intro e he; have := hdr e he; simp; omega
      omega
    | succ m =>
      rw [List.getElem?_cons_succ] at hm
      have := ih dw m (T - tw.length - 1) p hrd hid (fun e he => hp e (by simp [he])) hm (by omega)
      omega
theorem lst_ris (items : List (Int × Bool)) (h : ris items) (j : Nat) : ris (lst items j) := by
  induction j with
  | zero => exact h
  | succ j ih => exact mg_ris _ _ h (pk_ris _ ih)
theorem lst_items (items : List (Int × Bool)) (_h : ∀ e ∈ items, e.2 = false) (Q : Int × Bool → Bool) (hQ : ∀ e, Q e = true → e.2 = false) (j : Nat) : (lst items j).countP Q = items.countP Q := by
  cases j with
  | zero => rfl
  | succ j =>
    show (mg items (pk (lst items j))).countP Q = _
    rw [mg_count]
    have : (pk (lst items j)).countP Q = 0 := by
      rw [List.countP_eq_zero]; intro e he h1
      have := hQ e h1
      rw [pk_flag _ _ he] at this; cases this
    omega
theorem lst_all (cs : List Int) (j : Nat) : (lst (its cs) j).countP (fun e => !e.2) = cs.length := by
  rw [lst_items _ (its_flag cs) _ (by intro e h; simpa using h), List.countP_eq_length.2, its_length]
  intro e he; simp [its_flag cs e he]
theorem take_split (es : List (Int × Bool)) (T : Nat) (hT : T ≤ es.length) : T - pcs (es.take T) = (es.take T).countP (fun e => !e.2) := by
  have := pcs_not (es.take T)
  rw [List.length_take, Nat.min_eq_left hT] at this
  omega
/-- Of the items no more are taken in a round than in the one ahead. -/
theorem items_fall (cs : List Int) (hr : ris (its cs)) (h0 : ∀ c ∈ cs, 0 ≤ c) (j T : Nat) (p : Nat) (hp : p = pcs ((lst (its cs) (j + 1)).take T)) : 2 * p - pcs ((lst (its cs) j).take (2 * p)) ≤ T - p := by
  have hple : p ≤ (pk (lst (its cs) j)).length := by
    rw [hp]
    show pcs ((mg (its cs) (pk (lst (its cs) j))).take T) ≤ _
    rw [pcs_count]
    refine Nat.le_trans ((List.take_sublist _ _).countP_le) ?_
    rw [mg_count, ← pcs_count, ← pcs_count, none_pcs (its_flag cs), Nat.zero_add]
    exact pcs_le _
  rcases Nat.eq_zero_or_pos p with h | h
  · subst h; simp
  · have hpl := pk_length (lst (its cs) j)
    rw [take_split _ _ (by omega)]
    have hm : (pk (lst (its cs) j))[p - 1]? = some (pk (lst (its cs) j))[p - 1] := List.getElem?_eq_getElem (by omega)
    generalize (pk (lst (its cs) j))[p - 1] = v at hm
    obtain ⟨x, y, hx, hy, hv⟩ := pk_at _ _ _ hm
    have ha := mg_ahead (pk (lst (its cs) j)) (its cs) (p - 1) T v hr (its_flag cs) (pk_flag _) hm (by
      have : pcs ((mg (its cs) (pk (lst (its cs) j))).take T) = p := hp.symm
      omega)
    have hri := lst_ris (its cs) hr j
    have hpos : ∀ e ∈ lst (its cs) j, 0 ≤ e.1 := (lst_facts (its cs) (by
      intro e he
      obtain ⟨c, hc, rfl⟩ := List.mem_map.1 he
      exact h0 c hc) _ (Int.le_refl _) j).1
    have hx0 := hpos x (List.mem_of_getElem? hx)
    have hall : ∀ e ∈ (lst (its cs) j).take (2 * p), e.1 ≤ v.1 := by
      intro e he
      obtain ⟨i, hi⟩ := List.mem_iff_getElem?.1 he
      have hi2 : i < 2 * p := by
        have := (List.getElem?_eq_some_iff.1 hi).1
        rw [List.length_take] at this; omega
      rw [List.getElem?_take, if_pos hi2] at hi
      have h1 : e.1 ≤ y.1 := by
        rcases Nat.lt_or_ge i (2 * (p - 1) + 1) with h2 | h2
        · obtain ⟨l1, e1⟩ := List.getElem?_eq_some_iff.1 hi
          obtain ⟨l2, e2⟩ := List.getElem?_eq_some_iff.1 hy
          have := List.pairwise_iff_getElem.1 hri i (2 * (p - 1) + 1) l1 l2 h2
          rw [e1, e2] at this; exact this
        · obtain rfl : i = 2 * (p - 1) + 1 := by omega
          rw [hy] at hi; cases hi; exact Int.le_refl _
      rw [hv]; simp only; omega
    have e1 : ((lst (its cs) j).take (2 * p)).countP (fun e => !e.2) ≤ ((lst (its cs) j).take (2 * p)).countP (fun e => !e.2 && decide (e.1 ≤ v.1)) := by
      refine List.countP_mono_left ?_
      intro e he h1
      have := hall e he
      simp at h1
      simp [h1, this]
    have e2 : ((lst (its cs) j).take (2 * p)).countP (fun e => !e.2 && decide (e.1 ≤ v.1)) ≤ (lst (its cs) j).countP (fun e => !e.2 && decide (e.1 ≤ v.1)) := (List.take_sublist _ _).countP_le
    rw [lst_items _ (its_flag cs) _ (by intro e h; simp at h; exact h.1)] at e2
    have e3 : (its cs).countP (fun e => !e.2 && decide (e.1 ≤ v.1)) ≤ (its cs).countP (fun e => decide (e.1 ≤ v.1)) := by
      refine List.countP_mono_left ?_
      intro e _ h1
      simp at h1
      simp [h1.2]
    omega
end Go.Proofs.YtphdcgioeokfbaaDoor
/-
  The contracts of the document's power, State, May and Turned.
-/
namespace Go.Proofs.YtphdcgioeokfbaaDoor
open Go.RowKit Hf

/-- 2 to n. -/
def p2 (n : Nat) : Nat := 2 ^ n
theorem p2_succ (k : Nat) : p2 (k + 1) = p2 k * 2 := Nat.pow_succ 2 k
theorem p2_le (k : Nat) (h : k ≤ 15) : p2 k ≤ 32768 := Nat.pow_le_pow_right (n := 2) (by decide) h
theorem sm_snoc (zs : List Int) (z : Int) (n : Nat) : sm (zs ++ [z]) n = sm zs n + (if 0 < z ∧ z ≤ (n : Int) then 2 ^ (15 - z.toNat) else 0) := by
  induction n with
  | zero => rw [sm, sm, if_neg (by omega)]
  | succ n ih =>
    rw [sm, sm, ih, List.count_append, List.count_singleton]
    by_cases h : z = ((n + 1 : Nat) : Int)
    · have e1 : (if 0 < z ∧ z ≤ (n : Int) then 2 ^ (15 - z.toNat) else 0) = 0 := if_neg (by omega)
      have e2 : (if (z == ((n + 1 : Nat) : Int)) = true then 1 else 0) = 1 := if_pos (by rw [h]; exact beq_self_eq_true _)
      have e3 : (if 0 < z ∧ z ≤ ((n + 1 : Nat) : Int) then 2 ^ (15 - z.toNat) else 0) = 2 ^ (15 - z.toNat) := if_pos (by omega)
      rw [e1, e2, e3, Nat.add_mul, Nat.one_mul, show z.toNat = n + 1 by omega]; omega
    · have e2 : (if (z == ((n + 1 : Nat) : Int)) = true then 1 else 0) = 0 := if_neg (fun e => h (eq_of_beq e))
      rw [e2, Nat.add_zero]
      by_cases h2 : 0 < z ∧ z ≤ (n : Int)
      · have e3 : 0 < z ∧ z ≤ ((n + 1 : Nat) : Int) := by omega
        rw [if_pos h2, if_pos e3]; omega
      · have e3 : ¬ (0 < z ∧ z ≤ ((n + 1 : Nat) : Int)) := by omega
        rw [if_neg h2, if_neg e3]; omega
theorem take_snoc (zs : List Int) (k : Nat) (hk : k < zs.length) : zs.take (k + 1) = zs.take k ++ [zs.getD k 0] := by
  rw [List.take_add_one, List.getElem?_eq_getElem hk]; simp [hk]
end Go.Proofs.YtphdcgioeokfbaaDoor
