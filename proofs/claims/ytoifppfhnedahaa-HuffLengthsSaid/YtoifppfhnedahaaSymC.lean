/-
  symMergeCmpFunc, stableCmpFunc and SortStableFunc, whatever the number of elements: what comes out is what insertion alone would make.
-/
import Derived.Test.YtoifppfhnedahaaSymB
namespace Go.Proofs.Ytoifppfhnedahaa
open Go.RowKit Hf

theorem sym_walk (gd n cap gb : Nat) (v : Value) (counts : List Int) (hn : n ≤ 1099511627776) (d : Nat) : SmHyp gd n cap gb v counts d := by
  induction d with
  | zero => intro w l a m b _ h1 h2 _ h3; omega
  | succ d ih =>
    intro w l a m b hS h1 h2 hb h3 hL hR hA
    by_cases e1 : m = a + 1
    · subst e1
      have := symOne_walk w gd n cap gb v counts l a b hS hn h2 hb hR hA
      rw [show ((a + 1 : Nat) : Int) = (a : Int) + 1 by omega]
      exact this
    · by_cases e2 : b = m + 1
      · subst e2
        have := symLast_walk w gd n cap gb v counts l a m hS hn (by omega) hb hL hA
        rw [show ((m + 1 : Nat) : Int) = (m : Int) + 1 by omega]
        exact this
      · have ih2 : SmHyp gd n cap gb v counts (b - a) := fun w2 l2 a2 m2 b2 k1 k2 k3 k4 k5 => ih w2 l2 a2 m2 b2 k1 k2 k3 k4 (by omega)
        by_cases hc : (a + b) / 2 < m
        · exact symHigh_walk w gd n cap gb v counts l a m b hS hn (by omega) (by omega) hb hL hR hA ih2 hc
        · exact symLow_walk w gd n cap gb v counts l a m b hS hn (by omega) (by omega) hb hL hR hA ih2 (by omega)

theorem dvd_gap {d x A : Nat} (h : d ∣ x) (h' : d ∣ A) (hlt : x < A) : x + d ≤ A := by
  obtain ⟨s, rfl⟩ := h
  obtain ⟨t, rfl⟩ := h'
  have : s < t := Nat.lt_of_mul_lt_mul_left hlt
  calc d * s + d = d * (s + 1) := by rw [Nat.mul_succ]
    _ ≤ d * t := Nat.mul_le_mul_left _ this
/-- Of the symbols ahead of x none is above one behind. -/
def cut (l : List Nat) (n x : Nat) : Prop := ∀ i j, i < x → x ≤ j → j < n → at0 l i < at0 l j
theorem cut_mv {l l' : List Nat} {n x a b : Nat} (h : cut l n x) (hm : Mv a b l l') (hx : x ≤ a ∨ b ≤ x) (hb : b ≤ n) : cut l' n x := by
  intro i j hi hj hjn
  have e1 : ∃ i', i' < x ∧ at0 l' i = at0 l i' := by
    by_cases h1 : a ≤ i ∧ i < b
    · obtain ⟨k, k1, k2, k3⟩ := hm.into i h1.1 h1.2
      exact ⟨k, by omega, k3⟩
    · exact ⟨i, hi, hm.out i (by omega)⟩
  have e2 : ∃ j', x ≤ j' ∧ j' < n ∧ at0 l' j = at0 l j' := by
    by_cases h1 : a ≤ j ∧ j < b
    · obtain ⟨k, k1, k2, k3⟩ := hm.into j h1.1 h1.2
      exact ⟨k, by omega, by omega, k3⟩
    · exact ⟨j, hj, hjn, hm.out j (by omega)⟩
  obtain ⟨i', i1, i2⟩ := e1
  obtain ⟨j', j1, j2, j3⟩ := e2
  rw [i2, j3]; exact h i' j' i1 j1 j2
theorem srt_mv {c : Nat → Int} {l l' : List Nat} {x y a b : Nat} (h : srt c l x y) (hm : Mv a b l l') (hx : y ≤ a ∨ b ≤ x) : srt c l' x y := by
  intro i j hi hij hj
  rw [hm.out i (by omega), hm.out j (by omega)]; exact h i j hi hij hj
/-- Blocks of bs elements, each in order. -/
structure PB (c : Nat → Int) (l : List Nat) (n bs : Nat) : Prop where
  cuts : ∀ x, bs ∣ x → cut l n x
  ords : ∀ x, bs ∣ x → srt c l x (min (x + bs) n)
/-- In the midst of merging: up to a they are of twice the size. -/
structure PM (c : Nat → Int) (l : List Nat) (n bs a : Nat) : Prop where
  at2 : 2 * bs ∣ a
  cuts2 : ∀ x, 2 * bs ∣ x → cut l n x
  cuts1 : ∀ x, bs ∣ x → a ≤ x → cut l n x
  ords2 : ∀ x, 2 * bs ∣ x → x < a → srt c l x (x + 2 * bs)
  ords1 : ∀ x, bs ∣ x → a ≤ x → srt c l x (min (x + bs) n)
theorem PB.start {c : Nat → Int} {l : List Nat} {n bs : Nat} (h : PB c l n bs) : PM c l n bs 0 :=
  ⟨⟨0, rfl⟩, fun x hx => h.cuts x (Nat.dvd_trans ⟨2, by omega⟩ hx), fun x hx _ => h.cuts x hx, fun x _ h0 => by omega, fun x hx _ => h.ords x hx⟩
theorem PM.dv {c : Nat → Int} {l : List Nat} {n bs a : Nat} (h : PM c l n bs a) : bs ∣ a := Nat.dvd_trans ⟨2, by omega⟩ h.at2
theorem PM.pre {c : Nat → Int} {l : List Nat} {n bs a b : Nat} (h : PM c l n bs a) (hb : a + bs < b) (hb2 : b ≤ a + 2 * bs) (hbn : b ≤ n) : srt c l a (a + bs) ∧ srt c l (a + bs) b ∧ apt l a (a + bs) b := by
  have d1 : bs ∣ a + bs := (Nat.dvd_add_right h.dv).2 (Nat.dvd_refl _)
  refine ⟨fun i j h1 h2 h3 => h.ords1 a h.dv (Nat.le_refl _) i j h1 h2 (by omega), fun i j h1 h2 h3 => h.ords1 (a + bs) d1 (by omega) i j h1 h2 (by omega), fun i j h1 h2 h3 h4 => h.cuts1 (a + bs) d1 (by omega) i j h2 h3 (by omega)⟩
theorem PM.step {c : Nat → Int} {l l' : List Nat} {n bs a : Nat} (h : PM c l n bs a) (hb : a + 2 * bs ≤ n) (hm : Mv a (a + 2 * bs) l l') (hs : srt c l' a (a + 2 * bs)) : PM c l' n bs (a + 2 * bs) := by
  have d2 : 2 * bs ∣ a + 2 * bs := (Nat.dvd_add_right h.at2).2 (Nat.dvd_refl _)
  have d1 : bs ∣ a + 2 * bs := Nat.dvd_trans ⟨2, by omega⟩ d2
  refine ⟨d2, fun x hx => cut_mv (h.cuts2 x hx) hm ?_ hb, fun x hx hax => cut_mv (h.cuts1 x hx (by omega)) hm (.inr hax) hb, fun x hx hxa => ?_, fun x hx hax => srt_mv (h.ords1 x hx (by omega)) hm (.inr hax)⟩
  · by_cases hxa : x ≤ a
    · exact .inl hxa
    · exact .inr (dvd_gap h.at2 hx (by omega))
  · have := dvd_gap hx d2 hxa
    by_cases hx2 : x < a
    · exact srt_mv (h.ords2 x hx hx2) hm (.inl (dvd_gap hx h.at2 hx2))
    · obtain rfl : x = a := by omega
      exact hs
theorem PM.done {c : Nat → Int} {l : List Nat} {n bs a : Nat} (h : PM c l n bs a) (hn : n ≤ a + bs) (hbs : 0 < bs) : PB c l n (2 * bs) := by
  refine ⟨h.cuts2, fun x hx i j h1 h2 h3 => ?_⟩
  by_cases hxa : x < a
  · exact h.ords2 x hx hxa i j h1 h2 (by omega)
  · by_cases hx2 : x = a
    · subst hx2; exact h.ords1 x h.dv (Nat.le_refl _) i j h1 h2 (by omega)
    · have := dvd_gap h.at2 hx (by omega)
      omega
theorem PM.last {c : Nat → Int} {l l' : List Nat} {n bs a : Nat} (h : PM c l n bs a) (hn : a + bs < n) (hn2 : n < a + 2 * bs) (hm : Mv a n l l') (hs : srt c l' a n) : PB c l' n (2 * bs) := by
  refine ⟨fun x hx => ?_, fun x hx i j h1 h2 h3 => ?_⟩
  · by_cases hxa : x ≤ a
    · exact cut_mv (h.cuts2 x hx) hm (.inl hxa) (Nat.le_refl _)
    · have := dvd_gap h.at2 hx (by omega)
      exact cut_mv (h.cuts2 x hx) hm (.inr (by omega)) (Nat.le_refl _)
  · by_cases hxa : x < a
    · have := dvd_gap hx h.at2 hxa
      exact srt_mv (h.ords2 x hx hxa) hm (.inl this) i j h1 h2 (by omega)
    · by_cases hx2 : x = a
      · subst hx2; exact hs i j h1 h2 (by omega)
      · have := dvd_gap h.at2 hx (by omega)
        omega
/-- In the midst of the insertions: from a on nothing has moved. -/
structure PI (c : Nat → Int) (l0 l : List Nat) (n a : Nat) : Prop where
  at1 : 20 ∣ a
  cuts : ∀ x, 20 ∣ x → cut l n x
  ords : ∀ x, 20 ∣ x → x < a → srt c l x (x + 20)
  same : ∀ i, a ≤ i → at0 l i = at0 l0 i
  perm : l.Perm l0
theorem PI.start {c : Nat → Int} {l : List Nat} {n : Nat} (hup : ∀ p q, p < q → q < n → at0 l p < at0 l q) : PI c l l n 0 :=
  ⟨⟨0, rfl⟩, fun x _ i j h1 h2 h3 => hup i j (by omega) h3, fun x _ h => by omega, fun _ _ => rfl, List.Perm.refl _⟩
theorem PI.up {c : Nat → Int} {l0 l : List Nat} {n a : Nat} (h : PI c l0 l n a) (hl : l0.length = n) (hup : ∀ p q, p < q → q < n → at0 l0 p < at0 l0 q) : ∀ p q, a ≤ p → p < q → q < l.length → at0 l p < at0 l q := by
  intro p q h1 h2 h3
  rw [h.same p h1, h.same q (by omega)]
  exact hup p q h2 (by rw [h.perm.length_eq] at h3; omega)
theorem PI.step {c : Nat → Int} {l0 l l' : List Nat} {n a : Nat} (h : PI c l0 l n a) (hb : a + 20 ≤ n) (hm : Mv a (a + 20) l l') (hs : srt c l' a (a + 20)) : PI c l0 l' n (a + 20) := by
  have d2 : 20 ∣ a + 20 := (Nat.dvd_add_right h.at1).2 (Nat.dvd_refl _)
  refine ⟨d2, fun x hx => cut_mv (h.cuts x hx) hm ?_ hb, fun x hx hxa => ?_, fun i hi => by rw [hm.out i (by omega)]; exact h.same i (by omega), hm.perm.trans h.perm⟩
  · by_cases hxa : x ≤ a
    · exact .inl hxa
    · exact .inr (dvd_gap h.at1 hx (by omega))
  · have := dvd_gap hx d2 hxa
    by_cases hx2 : x < a
    · exact srt_mv (h.ords x hx hx2) hm (.inl (dvd_gap hx h.at1 hx2))
    · obtain rfl : x = a := by omega
      exact hs
theorem PI.done {c : Nat → Int} {l0 l l' : List Nat} {n a : Nat} (h : PI c l0 l n a) (ha : a ≤ n) (hn2 : n < a + 20) (hm : Mv a n l l') (hs : srt c l' a n) : PB c l' n 20 := by
  refine ⟨fun x hx => ?_, fun x hx i j h1 h2 h3 => ?_⟩
  · by_cases hxa : x ≤ a
    · exact cut_mv (h.cuts x hx) hm (.inl hxa) (Nat.le_refl _)
    · have := dvd_gap h.at1 hx (by omega)
      exact cut_mv (h.cuts x hx) hm (.inr (by omega)) (Nat.le_refl _)
  · by_cases hxa : x < a
    · have := dvd_gap hx h.at1 hxa
      exact srt_mv (h.ords x hx hxa) hm (.inl this) i j h1 h2 (by omega)
    · by_cases hx2 : x = a
      · subst hx2; exact hs i j h1 h2 (by omega)
      · have := dvd_gap h.at1 hx (by omega)
        omega
theorem isA_block (c : Nat → Int) (l : List Nat) (a b : Nat) (hab : a ≤ b) (hb : b ≤ l.length) (hup : ∀ p q, a ≤ p → p < q → q < l.length → at0 l p < at0 l q) : srt c (isA c a (b - a - 1) l) a b ∧ Mv a b l (isA c a (b - a - 1) l) := by
  by_cases h : a = b
  · subst h
    rw [Nat.sub_self]
    exact ⟨fun i j h1 h2 h3 => by omega, Mv.refl _ _ _⟩
  · have := isA_ok c a (b - a - 1) l (by omega) hup
    rw [show a + (b - a - 1) + 1 = b by omega] at this
    exact this
end Go.Proofs.Ytoifppfhnedahaa
