/-
  The document's packages as rows of symbols: what they lay is what the rounds lay.
-/
import Derived.Test.YtoifppfhnedahaaOpt2
namespace Go.Proofs.Ytoifppfhnedahaa
open Go.RowKit Hf
/-- Packs: a count, whether it is a package, its symbols. -/
abbrev Rp : Type := Int × Bool × List Nat
def pr (l : List Rp) : List (Int × Bool) := l.map fun e => (e.1, e.2.1)
/-- A pack into a list, behind those of the same count. -/
def putR (l : List Rp) (x : Rp) : List Rp := l.takeWhile (fun e => decide (e.1 ≤ x.1)) ++ x :: l.dropWhile (fun e => decide (e.1 ≤ x.1))
def pkR : List Rp → List Rp
  | a :: b :: t => (a.1 + b.1, true, a.2.2 ++ b.2.2) :: pkR t
  | _ => []
def mgR (items : List Rp) : List Rp → List Rp
  | [] => items
  | p :: ps => items.takeWhile (fun e => decide (e.1 ≤ p.1)) ++ p :: mgR (items.dropWhile (fun e => decide (e.1 ≤ p.1))) ps
def lstR (items : List Rp) : Nat → List Rp
  | 0 => items
  | j + 1 => (pkR (lstR items j)).foldl putR items
theorem putR_behind (A l : List Rp) (x : Rp) (h : ∀ e ∈ A, e.1 ≤ x.1) : putR (A ++ l) x = A ++ putR l x := by
  induction A with
  | nil => rfl
  | cons a t ih =>
    have ha := h a (by simp)
    have := ih (fun e he => h e (by simp [he]))
    unfold putR at this ⊢
    rw [List.cons_append, List.takeWhile_cons, List.dropWhile_cons, if_pos (by simpa using ha), if_pos (by simpa using ha), List.cons_append, this, List.cons_append]
theorem fold_behind (ps : List Rp) : ∀ (A l : List Rp), (∀ x ∈ ps, ∀ e ∈ A, e.1 ≤ x.1) → ps.foldl putR (A ++ l) = A ++ ps.foldl putR l := by
  induction ps with
  | nil => intro A l _; rfl
  | cons p t ih =>
    intro A l h
    rw [List.foldl_cons, List.foldl_cons, putR_behind A l p (h p (by simp)), ih A _ (fun x hx => h x (by simp [hx]))]
theorem takeR_below (es : List Rp) (v : Int) : ∀ e ∈ es.takeWhile (fun e => decide (e.1 ≤ v)), e.1 ≤ v := by
  induction es with
  | nil => intro e he; cases he
  | cons x t ih =>
    rw [List.takeWhile_cons]
    split
    · rename_i hx
      simp at hx
      intro e he
      rcases List.mem_cons.1 he with rfl | he
      · exact hx
      · exact ih e he
    · intro e he; cases he
/-- Rising packs, put one by one: the merged list. -/
theorem fold_mg (ps : List Rp) : ∀ items : List Rp, ps.Pairwise (fun a b => a.1 ≤ b.1) → ps.foldl putR items = mgR items ps := by
  induction ps with
  | nil => intro items _; rfl
  | cons p t ih =>
    intro items h
    have h1 := List.pairwise_cons.1 h
    rw [List.foldl_cons, mgR, ← ih _ h1.2]
    unfold putR
    have e : items.takeWhile (fun e => decide (e.1 ≤ p.1)) ++ p :: items.dropWhile (fun e => decide (e.1 ≤ p.1)) = (items.takeWhile (fun e => decide (e.1 ≤ p.1)) ++ [p]) ++ items.dropWhile (fun e => decide (e.1 ≤ p.1)) := by simp
    rw [e]
    have := fold_behind t (items.takeWhile (fun e => decide (e.1 ≤ p.1)) ++ [p]) (items.dropWhile (fun e => decide (e.1 ≤ p.1))) (fun x hx e he => by
      have hx1 := h1.1 x hx
      rcases List.mem_append.1 he with he | he
      · have := takeR_below items p.1 e he; omega
      · simp at he; subst he; exact hx1)
    unfold putR at this
    rw [this]
    simp
theorem pr_take (l : List Rp) (T : Nat) : pr (l.take T) = (pr l).take T := by simp [pr, List.map_take]
theorem pr_length (l : List Rp) : (pr l).length = l.length := by simp [pr]
theorem pr_tw (l : List Rp) (v : Int) : pr (l.takeWhile (fun e => decide (e.1 ≤ v))) = (pr l).takeWhile (fun e => decide (e.1 ≤ v)) := by
  induction l with
  | nil => rfl
  | cons a t ih =>
    show _ = ((a.1, a.2.1) :: pr t).takeWhile _
    rw [List.takeWhile_cons, List.takeWhile_cons]
    by_cases h : a.1 ≤ v
    · rw [if_pos (by simpa using h), if_pos (by simpa using h), ← ih]; rfl
    · rw [if_neg (by simpa using h), if_neg (by simpa using h)]; rfl
theorem pr_dw (l : List Rp) (v : Int) : pr (l.dropWhile (fun e => decide (e.1 ≤ v))) = (pr l).dropWhile (fun e => decide (e.1 ≤ v)) := by
  induction l with
  | nil => rfl
  | cons a t ih =>
    show _ = ((a.1, a.2.1) :: pr t).dropWhile _
    rw [List.dropWhile_cons, List.dropWhile_cons]
    by_cases h : a.1 ≤ v
    · rw [if_pos (by simpa using h), if_pos (by simpa using h), ← ih]
    · rw [if_neg (by simpa using h), if_neg (by simpa using h)]; rfl
theorem pr_mg (ps : List Rp) : ∀ items : List Rp, pr (mgR items ps) = mg (pr items) (pr ps) := by
  induction ps with
  | nil => intro items; rfl
  | cons p t ih =>
    intro items
    show pr (_ ++ p :: _) = mg (pr items) ((p.1, p.2.1) :: pr t)
    rw [mg]
    have e : ∀ a b : List Rp, pr (a ++ b) = pr a ++ pr b := fun a b => by simp [pr]
    rw [e, pr_tw, ← pr_dw, ← ih]
    rfl
theorem pr_pk : ∀ l : List Rp, pr (pkR l) = pk (pr l)
  | [] => rfl
  | [_] => rfl
  | a :: b :: t => by
    show (a.1 + b.1, true) :: pr (pkR t) = (a.1 + b.1, true) :: pk (pr t)
    rw [pr_pk t]
theorem pr_lst (items : List Rp) (h : ris (pr items)) (j : Nat) : pr (lstR items j) = lst (pr items) j ∧ (pkR (lstR items j)).Pairwise (fun a b => a.1 ≤ b.1) := by
  have key : ∀ l : List Rp, ris (pr l) → l.Pairwise (fun a b => a.1 ≤ b.1) := fun l hl => by
    unfold ris pr at hl
    rw [List.pairwise_map] at hl
    exact hl
  induction j with
  | zero => exact ⟨rfl, key _ (by rw [pr_pk]; exact pk_ris _ h)⟩
  | succ j ih =>
    have e : pr (lstR items (j + 1)) = lst (pr items) (j + 1) := by
      show pr ((pkR (lstR items j)).foldl putR items) = mg (pr items) (pk (lst (pr items) j))
      rw [fold_mg _ _ ih.2, pr_mg, pr_pk, ih.1]
    exact ⟨e, key _ (by rw [pr_pk, e]; exact pk_ris _ (lst_ris _ h _))⟩
/-- How often a symbol is among packs. -/
def occ (s : Nat) (l : List Rp) : Nat := (l.map fun e => e.2.2.count s).sum
theorem occ_append (s : Nat) (a b : List Rp) : occ s (a ++ b) = occ s a + occ s b := by simp [occ]
theorem occ_cons (s : Nat) (e : Rp) (t : List Rp) : occ s (e :: t) = e.2.2.count s + occ s t := rfl
theorem mgR_taken (s : Nat) (ps : List Rp) : ∀ (items : List Rp) (T : Nat), (∀ e ∈ items, e.2.1 = false) → (∀ e ∈ ps, e.2.1 = true) → occ s ((mgR items ps).take T) = occ s (items.take (T - pcs (pr ((mgR items ps).take T)))) + occ s (ps.take (pcs (pr ((mgR items ps).take T)))) := by
  have np : ∀ l : List Rp, (∀ e ∈ l, e.2.1 = false) → pcs (pr l) = 0 := fun l h => none_pcs (fun e he => by
    obtain ⟨x, hx, rfl⟩ := List.mem_map.1 he
    exact h x hx)
  have pa : ∀ a b : List Rp, pcs (pr (a ++ b)) = pcs (pr a) + pcs (pr b) := fun a b => by simp [pr, pcs]
  induction ps with
  | nil =>
    intro items T hi _
    show occ s (items.take T) = occ s (items.take (T - pcs (pr (items.take T)))) + _
    rw [np _ (fun e he => hi e (List.mem_of_mem_take he))]
    simp [occ]
  | cons x t ih =>
    intro items T hi hp
    rw [mgR]
    have h2 := List.takeWhile_append_dropWhile (p := fun e : Rp => decide (e.1 ≤ x.1)) (l := items)
    have hfl : ∀ e ∈ items.takeWhile (fun e => decide (e.1 ≤ x.1)), e.2.1 = false := fun e he => hi e (List.takeWhile_subset _ he)
    have hid : ∀ e ∈ items.dropWhile (fun e => decide (e.1 ≤ x.1)), e.2.1 = false := fun e he => hi e (List.dropWhile_subset _ he)
    generalize items.takeWhile (fun e => decide (e.1 ≤ x.1)) = tw at *
    generalize items.dropWhile (fun e => decide (e.1 ≤ x.1)) = dw at *
    subst h2
    rw [List.take_append, pa, np _ (fun e he => hfl e (List.mem_of_mem_take he)), Nat.zero_add, occ_append]
    rcases Nat.lt_or_ge tw.length T with hT | hT
    · obtain ⟨R, hR⟩ : ∃ R, T - tw.length = R + 1 := ⟨T - tw.length - 1, by omega⟩
      rw [hR, List.take_succ_cons]
      have e1 : pcs (pr (x :: (mgR dw t).take R)) = pcs (pr ((mgR dw t).take R)) + 1 := by
        have := hp x (by simp)
        simp [pcs, pr, this]
      rw [e1, occ_cons, ih dw R hid (fun e he => hp e (by simp [he])), List.take_succ_cons, occ_cons, List.take_of_length_le (by omega)]
      have h3 := pcs_le (pr ((mgR dw t).take R))
      rw [pr_length, List.length_take] at h3
      rw [List.take_append, occ_append, List.take_of_length_le (i := T - _) (l := tw) (by omega), show T - (pcs (pr ((mgR dw t).take R)) + 1) - tw.length = R - pcs (pr ((mgR dw t).take R)) by omega]
      omega
    · rw [show T - tw.length = 0 by omega]
      simp only [List.take_zero]
      show _ + occ s [] = occ s ((tw ++ dw).take (T - 0)) + occ s []
      rw [Nat.sub_zero, List.take_append, show T - tw.length = 0 by omega]
      simp [occ]
theorem pkR_take (s : Nat) : ∀ (es : List Rp) (p : Nat), 2 * p ≤ es.length → occ s ((pkR es).take p) = occ s (es.take (2 * p))
  | [], p, h => by obtain rfl : p = 0 := by simp at h; omega
                   rfl
  | [_], p, h => by obtain rfl : p = 0 := by simp at h; omega
                    rfl
  | _ :: _ :: _, 0, _ => rfl
  | x :: y :: t, p + 1, h => by
    have := pkR_take s t p (by simp at h; omega)
    show occ s (((x.1 + y.1, true, x.2.2 ++ y.2.2) :: pkR t).take (p + 1)) = _
    rw [List.take_succ_cons, show 2 * (p + 1) = 2 * p + 1 + 1 by omega, List.take_succ_cons, List.take_succ_cons, occ_cons, occ_cons, occ_cons, this]
    simp only [List.count_append]; omega
theorem pkR_flag : ∀ (es : List Rp) (e : Rp), e ∈ pkR es → e.2.1 = true
  | [], _, h => by cases h
  | [_], _, h => by cases h
  | x :: y :: t, e, h => by
    have h : e ∈ (x.1 + y.1, true, x.2.2 ++ y.2.2) :: pkR t := h
    rcases List.mem_cons.1 h with rfl | h
    · rfl
    · exact pkR_flag t e h
/-- The document's items. -/
def itR (c : Nat → Int) (ss : List Nat) : List Rp := ss.map fun x => (c x, false, [x])
theorem pr_it (c : Nat → Int) (ss : List Nat) : pr (itR c ss) = its (ss.map c) := by simp [pr, itR, its]
theorem occ_it (c : Nat → Int) (s : Nat) (ss : List Nat) : occ s (itR c ss) = ss.count s := by
  induction ss with
  | nil => rfl
  | cons x t ih =>
    show List.count s [x] + occ s (itR c t) = List.count s (x :: t)
    rw [ih, List.count_singleton, List.count_cons]; omega
theorem itR_flag (c : Nat → Int) (ss : List Nat) : ∀ e ∈ itR c ss, e.2.1 = false := by
  intro e he
  obtain ⟨x, _, rfl⟩ := List.mem_map.1 he
  rfl
theorem lstR_take (c : Nat → Int) (ss : List Nat) (hr : ris (its (ss.map c))) (s j T : Nat) : occ s ((lstR (itR c ss) (j + 1)).take T) = (ss.take (T - pcs ((lst (its (ss.map c)) (j + 1)).take T))).count s + occ s ((lstR (itR c ss) j).take (2 * pcs ((lst (its (ss.map c)) (j + 1)).take T))) := by
  have hr2 : ris (pr (itR c ss)) := by rw [pr_it]; exact hr
  have h1 := pr_lst (itR c ss) hr2 j
  have h2 := pr_lst (itR c ss) hr2 (j + 1)
  have h3 := mgR_taken s (pkR (lstR (itR c ss) j)) (itR c ss) T (itR_flag c ss) (pkR_flag _)
  have e0 : lstR (itR c ss) (j + 1) = mgR (itR c ss) (pkR (lstR (itR c ss) j)) := fold_mg _ _ h1.2
  rw [← e0, pr_take, h2.1, pr_it] at h3
  have h4 := pcs_lst (ss.map c) j T
  have h5 : (lstR (itR c ss) j).length = (lst (its (ss.map c)) j).length := by rw [← pr_length, h1.1, pr_it]
  rw [h3, pkR_take s _ _ (by omega)]
  congr 1
  rw [← occ_it c]
  simp [itR, List.map_take]
/-- Behind each round: what is laid of a symbol and what is still to be laid of it. -/
theorem tell (c : Nat → Int) (syms : List Nat) (n L : Nat) (hL1 : 1 ≤ L) (hr : ris (its (syms.map c))) (hs : ∀ x ∈ syms, x < n) (s d : Nat) (hd : d ≤ L) :
    (stt syms (List.replicate n 0) (lst (its (syms.map c))) L d).1.getD s 0 + (if d < L then (occ s ((lstR (itR c syms) (L - 1 - d)).take (tk syms.length (lst (its (syms.map c))) L d)) : Int) else 0) = occ s ((lstR (itR c syms) (L - 1)).take (2 * syms.length - 2)) := by
  have hlen : ∀ d, (stt syms (List.replicate n 0) (lst (its (syms.map c))) L d).1.length = n := by
    intro d
    induction d with
    | zero => simp [stt]
    | succ d ih => rw [stt_sq, bump_length, ih]
  induction d with
  | zero =>
    rw [if_pos (by omega)]
    have : (List.replicate n (0 : Int)).getD s 0 = 0 := by simp only [List.getD_eq_getElem?_getD, List.getElem?_replicate]; split <;> rfl
    show (List.replicate n (0 : Int)).getD s 0 + (occ s ((lstR (itR c syms) (L - 1 - 0)).take (2 * syms.length - 2)) : Int) = _
    rw [this, Nat.sub_zero]; omega
  | succ d ih =>
    have ih := ih (by omega)
    rw [if_pos (by omega)] at ih
    have hl := hlen d
    rw [stt_sq, bump_at _ _ _ (fun x h => by rw [hl]; exact hs x (List.mem_of_mem_take h))]
    by_cases hdl : d + 1 < L
    · rw [if_pos hdl]
      have h2 := lstR_take c syms hr s (L - 1 - (d + 1)) (tk syms.length (lst (its (syms.map c))) L d)
      rw [show L - 1 - (d + 1) + 1 = L - 1 - d by omega] at h2
      rw [h2] at ih
      show _ + ((syms.take (tk syms.length (lst (its (syms.map c))) L d - _)).count s : Int) + (occ s ((lstR (itR c syms) (L - 1 - (d + 1))).take (2 * _)) : Int) = _
      omega
    · rw [if_neg hdl]
      have hd2 : L - 1 - d = 0 := by omega
      rw [hd2] at ih
      have e2 : sq syms.length (lst (its (syms.map c))) L d = tk syms.length (lst (its (syms.map c))) L d := by
        unfold sq
        rw [hd2]
        show _ - pcs ((its (syms.map c)).take _) = _
        rw [none_pcs (fun e he => its_flag _ e (List.mem_of_mem_take he)), Nat.sub_zero]
      have e3 : occ s ((lstR (itR c syms) 0).take (tk syms.length (lst (its (syms.map c))) L d)) = (syms.take (tk syms.length (lst (its (syms.map c))) L d)).count s := by
        rw [← occ_it c]
        show occ s ((itR c syms).take _) = _
        simp [itR, List.map_take]
      rw [e3] at ih
      rw [e2]; omega
/-- All the symbols of packs, one behind the other. -/
def allS (l : List Rp) : List Nat := l.flatMap fun e => e.2.2
theorem allS_count (s : Nat) (l : List Rp) : (allS l).count s = occ s l := by
  induction l with
  | nil => rfl
  | cons e t ih => rw [occ_cons, ← ih]; simp [allS]
theorem ris_refl (c : Nat → Int) (syms : List Nat) (h : ris (its (syms.map c))) : ris (pr (itR c syms)) := by rw [pr_it]; exact h
/-- The document's lengths are what the rounds lay. -/
theorem ref_is (c : Nat → Int) (syms : List Nat) (n L : Nat) (hL1 : 1 ≤ L) (hr : ris (its (syms.map c))) (hs : ∀ x ∈ syms, x < n) (hin : ∀ x ∈ allS ((lstR (itR c syms) (L - 1)).take (2 * syms.length - 2)), x < n) :
    bump (allS ((lstR (itR c syms) (L - 1)).take (2 * syms.length - 2))) (List.replicate n 0) = (stt syms (List.replicate n 0) (lst (its (syms.map c))) L L).1 := by
  have hlen : (stt syms (List.replicate n 0) (lst (its (syms.map c))) L L).1.length = n := by
    have : ∀ d, (stt syms (List.replicate n 0) (lst (its (syms.map c))) L d).1.length = n := by
      intro d
      induction d with
      | zero => simp [stt]
      | succ d ih => rw [stt_sq, bump_length, ih]
    exact this L
  apply List.ext_getElem
  · rw [bump_length, List.length_replicate, hlen]
  · intro i h1 h2
    have h3 := tell c syms n L hL1 hr hs i L (Nat.le_refl _)
    rw [if_neg (by omega), Int.add_zero] at h3
    have h4 := bump_at (allS ((lstR (itR c syms) (L - 1)).take (2 * syms.length - 2))) (List.replicate n 0) i (by rw [List.length_replicate]; exact hin)
    rw [allS_count, ← h3] at h4
    have e0 : (List.replicate n (0 : Int)).getD i 0 = 0 := by simp only [List.getD_eq_getElem?_getD, List.getElem?_replicate]; split <;> rfl
    rw [e0, Int.zero_add] at h4
    simpa [h1, h2] using h4
theorem pkR_in (P : Nat → Prop) : ∀ l : List Rp, (∀ e ∈ l, ∀ x ∈ e.2.2, P x) → ∀ e ∈ pkR l, ∀ x ∈ e.2.2, P x
  | [], _ => fun e he => by cases he
  | [_], _ => fun e he => by cases he
  | a :: b :: t, h => fun e he => by
    have he : e ∈ (a.1 + b.1, true, a.2.2 ++ b.2.2) :: pkR t := he
    rcases List.mem_cons.1 he with rfl | he
    · intro x hx
      rcases List.mem_append.1 hx with hx | hx
      · exact h a (by simp) x hx
      · exact h b (by simp) x hx
    · exact pkR_in P t (fun e he => h e (by simp [he])) e he
theorem fold_in (P : Nat → Prop) (ps : List Rp) : ∀ items : List Rp, (∀ e ∈ items, ∀ x ∈ e.2.2, P x) → (∀ e ∈ ps, ∀ x ∈ e.2.2, P x) → ∀ e ∈ ps.foldl putR items, ∀ x ∈ e.2.2, P x := by
  induction ps with
  | nil => intro items h _; exact h
  | cons p t ih =>
    intro items h hp
    rw [List.foldl_cons]
    refine ih _ (fun e he => ?_) (fun e he => hp e (by simp [he]))
    unfold putR at he
    rcases List.mem_append.1 he with he | he
    · exact h e (List.takeWhile_subset _ he)
    · rcases List.mem_cons.1 he with rfl | he
      · exact hp _ (by simp)
      · exact h e (List.dropWhile_subset _ he)
/-- The symbols of packs are among those of the items. -/
theorem lstR_in (c : Nat → Int) (syms : List Nat) (j : Nat) : ∀ e ∈ lstR (itR c syms) j, ∀ x ∈ e.2.2, x ∈ syms := by
  have h0 : ∀ e ∈ itR c syms, ∀ x ∈ e.2.2, x ∈ syms := by
    intro e he
    obtain ⟨y, hy, rfl⟩ := List.mem_map.1 he
    intro x hx
    simp at hx; subst hx; exact hy
  induction j with
  | zero => exact h0
  | succ j ih => exact fold_in _ _ _ h0 (pkR_in _ _ ih)
theorem allS_in (c : Nat → Int) (syms : List Nat) (j T : Nat) : ∀ x ∈ allS ((lstR (itR c syms) j).take T), x ∈ syms := by
  intro x hx
  obtain ⟨e, he, hx⟩ := List.mem_flatMap.1 hx
  exact lstR_in c syms j e (List.mem_of_mem_take he) x hx
/-- A symbol into its place. -/
def insN (c : Nat → Int) (l : List Nat) (x : Nat) : List Nat := l.takeWhile (fun y => decide (c y ≤ c x)) ++ x :: l.dropWhile (fun y => decide (c y ≤ c x))
theorem putR_it (c : Nat → Int) (l : List Nat) (x : Nat) : putR (itR c l) (c x, false, [x]) = itR c (insN c l x) := by
  induction l with
  | nil => rfl
  | cons y t ih =>
    unfold putR insN at ih ⊢
    show (List.takeWhile _ ((c y, false, [y]) :: itR c t)) ++ _ :: (List.dropWhile _ ((c y, false, [y]) :: itR c t)) = _
    rw [List.takeWhile_cons, List.dropWhile_cons, List.takeWhile_cons, List.dropWhile_cons]
    simp only
    by_cases h : c y ≤ c x
    · rw [if_pos (by simpa using h), if_pos (by simpa using h), if_pos (by simpa using h), if_pos (by simpa using h), List.cons_append, ih]
      rfl
    · rw [if_neg (by simpa using h), if_neg (by simpa using h), if_neg (by simpa using h), if_neg (by simpa using h)]
      rfl
theorem drop_lx (c : Nat → Int) (x : Nat) : ∀ l : List Nat, l.Pairwise (lx c) → ∀ y ∈ l.dropWhile (fun y => decide (c y ≤ c x)), c x < c y
  | [], _ => fun y h => by cases h
  | a :: t, hp => fun y h => by
    have h1 := List.pairwise_cons.1 hp
    rw [List.dropWhile_cons] at h
    split at h
    · exact drop_lx c x t h1.2 y h
    · rename_i ha
      simp at ha
      rcases List.mem_cons.1 h with rfl | h
      · exact ha
      · have := h1.1 y h
        unfold lx at this; omega
theorem take_lx (c : Nat → Int) (x : Nat) : ∀ l : List Nat, ∀ y ∈ l.takeWhile (fun y => decide (c y ≤ c x)), c y ≤ c x
  | [] => fun y h => by cases h
  | a :: t => fun y h => by
    rw [List.takeWhile_cons] at h
    split at h
    · rename_i ha
      simp at ha
      rcases List.mem_cons.1 h with rfl | h
      · exact ha
      · exact take_lx c x t y h
    · cases h
theorem insN_pair (c : Nat → Int) (l : List Nat) (x : Nat) (hp : l.Pairwise (lx c)) (hx : ∀ y ∈ l, y < x) : (insN c l x).Pairwise (lx c) := by
  have h := List.takeWhile_append_dropWhile (p := fun y => decide (c y ≤ c x)) (l := l)
  have hp2 := hp
  rw [← h] at hp2
  obtain ⟨p1, p2, p3⟩ := List.pairwise_append.1 hp2
  refine List.pairwise_append.2 ⟨p1, List.pairwise_cons.2 ⟨fun y hy => .inl (drop_lx c x l hp y hy), p2⟩, fun a ha b hb => ?_⟩
  rcases List.mem_cons.1 hb with rfl | hb
  · have h1 := take_lx c b l a ha
    have h2 := hx a (List.takeWhile_subset _ ha)
    unfold lx; omega
  · exact p3 a ha b hb
theorem insN_perm (c : Nat → Int) (l : List Nat) (x : Nat) : (insN c l x).Perm (l ++ [x]) := by
  have h := List.takeWhile_append_dropWhile (p := fun y => decide (c y ≤ c x)) (l := l)
  unfold insN
  refine List.Perm.trans List.perm_middle ?_
  rw [h]
  exact (List.perm_append_singleton x l).symm
/-- The items' symbols, of the first k. -/
def itS (C : List Int) (k : Nat) : List Nat := (posTo C k).foldl (insN (fun s => C.getD s 0)) []
theorem itS_succ (C : List Int) (k : Nat) : itS C (k + 1) = if 0 < C.getD k 0 then insN (fun s => C.getD s 0) (itS C k) k else itS C k := by
  unfold itS
  rw [posTo_succ, List.foldl_append]
  split <;> rfl
theorem itS_ok (C : List Int) (k : Nat) : (itS C k).Perm (posTo C k) ∧ (itS C k).Pairwise (lx (fun s => C.getD s 0)) := by
  induction k with
  | zero => exact ⟨List.Perm.refl _, List.Pairwise.nil⟩
  | succ k ih =>
    rw [itS_succ, posTo_succ]
    split
    · refine ⟨(insN_perm _ _ _).trans (ih.1.append_right [k]), insN_pair _ _ _ ih.2 fun y hy => ?_⟩
      exact posTo_mem C k y (ih.1.mem_iff.1 hy)
    · rw [List.append_nil]; exact ih
theorem itS_all (C : List Int) : itS C C.length = syms C :=
  perm_pair ((itS_ok C C.length).1.trans (syms_srt C).2.symm) (itS_ok C C.length).2 (syms_pair C)
end Go.Proofs.Ytoifppfhnedahaa
