/-
  What PaxForm's walk asks: what is read of any bytes, and the map of ends.
-/
import Derived.Test.YtjgphicmkmdeiaaDoorPfi
import Derived.Test.YtjgphicmkmdeiaaDoorPge
import Derived.Maps.OwnSet
import Derived.Maps.OwnOps
namespace Go.Proofs.YtjgphicmkmdeiaaDoor
open Go.RowKit Go.Maps Inv

namespace Px
theorem get_okk : ∀ (m : Nat) (s : List UInt8) (rs : List Px.Rec), s.length ≤ m → Px.get s = .ok rs → s = Px.txts rs ∧ ∀ r ∈ rs, Px.sz r ≠ 0 := by
  intro m
  induction m with
  | zero =>
    intro s rs hl h
    have : s = [] := List.eq_nil_of_length_eq_zero (by omega)
    subst this
    rw [Px.get_nil] at h
    cases h
    exact ⟨rfl, fun r hr => by cases hr⟩
  | succ m ih =>
    intro s rs hl h
    by_cases hs : s = []
    · subst hs; rw [Px.get_nil] at h; cases h
      exact ⟨rfl, fun r hr => by cases hr⟩
    · cases ho : Px.one s with
      | error x => rw [Px.get_stop hs ho] at h; cases h
      | ok pr =>
        obtain ⟨r, rest⟩ := pr
        have h1 := Px.get_one ho
        rw [h] at h1
        have hless := Px.one_less ho
        obtain ⟨hk, _, he⟩ := Px.one_ok ho
        cases hg : Px.get rest with
        | error x => rw [hg] at h1; cases h1
        | ok t =>
          rw [hg] at h1
          obtain ⟨h2, h3⟩ := ih rest t (by omega) hg
          cases h1
          refine ⟨by rw [Px.txts, ← h2]; exact he, fun x hx => ?_⟩
          rcases List.mem_cons.1 hx with rfl | hx
          · rw [Ne, Px.sz_zero, hk]; simp
          · exact h3 x hx
theorem get_e : ∀ (m : Nat) (s : List UInt8) (e : Nat), s.length ≤ m → Px.get s = .error e → e = 4 ∨ e = 5 := by
  intro m
  induction m with
  | zero =>
    intro s e hl h
    have : s = [] := List.eq_nil_of_length_eq_zero (by omega)
    subst this
    rw [Px.get_nil] at h
    cases h
  | succ m ih =>
    intro s e hl h
    by_cases hs : s = []
    · subst hs; rw [Px.get_nil] at h; cases h
    · cases ho : Px.one s with
      | error x => rw [Px.get_stop hs ho] at h; cases h; exact Px.one_err ho
      | ok pr =>
        obtain ⟨r, rest⟩ := pr
        have h1 := Px.get_one ho
        rw [h] at h1
        have hless := Px.one_less ho
        cases hg : Px.get rest with
        | error x => rw [hg] at h1; cases h1; exact ih rest e (by omega) hg
        | ok t => rw [hg] at h1; cases h1
theorem txt_mem {l : List Px.Rec} {r : Px.Rec} (h : r ∈ l) : (Px.txt r).length ≤ (Px.txts l).length := by
  induction l with
  | nil => cases h
  | cons x t ih =>
    rw [Px.txts, List.length_append]
    rcases List.mem_cons.1 h with rfl | h
    · omega
    · have := ih h; omega
theorem val_le {l : List Px.Rec} {r : Px.Rec} (h : r ∈ l) : r.2.length ≤ (Px.txts l).length := by
  have h1 := txt_mem h
  have h2 : (Px.txt r).length = (Lib.decDigits (Px.sz r)).length + (1 + (r.1.length + (1 + (r.2.length + 1)))) := by
    unfold Px.txt; simp only [List.length_append, List.length_cons, List.length_nil]; omega
  omega
end Px
theorem getG_err (w : World) (v : Value) (T : List UInt8) (hv : SlV w v (bl T)) (hT : T.length ≤ 16777216) (hP : PxAt w) (x : Nat) (hg : Px.get T = .error x) :
    Calls Tryd.prog 18 #[v] w fun e w' => e = .returned (.tuple #[.slice none 0 0, .int .i64 (x : Int)]) ∧ Below w.heap.size w w' := by
  refine (get_walk w v T hv (by omega) hP).mono ?_
  rintro e w' ⟨hb, ⟨h, _⟩ | ⟨_, y, h1, h2⟩ | ⟨_, rs, u, h1, _⟩⟩
  · omega
  · rw [hg] at h1; cases h1; exact ⟨h2, hb⟩
  · rw [hg] at h1; cases h1
theorem getG_good (w : World) (v : Value) (T : List UInt8) (hv : SlV w v (bl T)) (hT : T.length ≤ 16777216) (hP : PxAt w) (rs : List Px.Rec) (hg : Px.get T = .ok rs) :
    Calls Tryd.prog 18 #[v] w fun e w' => ∃ u, e = .returned (.tuple #[u, .int .i64 0]) ∧ SlR w' u rs ∧ Below w.heap.size w w' := by
  refine (get_walk w v T hv (by omega) hP).mono ?_
  rintro e w' ⟨hb, ⟨h, _⟩ | ⟨_, y, h1, h2⟩ | ⟨_, ss, u, h1, h2, h3⟩⟩
  · omega
  · rw [hg] at h1; cases h1
  · rw [hg] at h1; cases h1; exact ⟨u, h2, h3.toR, hb⟩
/-- Put of what was read of up to 2000 bytes tells these bytes. -/
theorem put_back (w : World) (v : Value) (T : List UInt8) (rs : List Px.Rec) (hv : SlR w v rs) (hT : T.length ≤ 2000) (hP : PxAt w) (hg : Px.get T = .ok rs) :
    Calls Tryd.prog 11 #[v] w fun e w' => ∃ u, e = .returned (.tuple #[u, .int .i64 0]) ∧ SlV w' u (bl T) ∧ Below w.heap.size w w' := by
  obtain ⟨h1, h2⟩ := Px.get_okk _ T rs (Nat.le_refl _) hg
  have h3 := get_len _ T rs (Nat.le_refl _) hg
  have h4 := txts_len rs h2
  rw [← h1] at h4
  refine (put_walk w v rs hv (by omega) (fun r hr => by have := Px.val_le hr; rw [← h1] at this; omega) hP).mono ?_
  rintro e w' ⟨hb, ⟨⟨r, hr, h⟩, _⟩ | ⟨_, h, _⟩ | ⟨_, _, u, rfl, ho⟩⟩
  · exact absurd h (h2 r hr)
  · omega
  · rw [← h1] at ho
    exact ⟨u, rfl, OwnM.toV (OwnM.of_own ho), hb⟩
/-- The map of ends: what the program's map reads as. -/
structure EndsD (D : DataW Unit) (S : Nat → Nat) (j : Nat) : Prop where
  map : IsMap D
  at_ : ∀ i, i ≤ j → (∀ i', i < i' → i' ≤ j → S i' ≠ S i) → has D (.int .i64 (S i : Int)) = true ∧ ∀ z, D.atKey (.int .i64 (S i : Int)) z = .lit (.int .i64 (i : Int))
  no : ∀ k : Nat, (∀ i, i ≤ j → S i ≠ k) → has D (.int .i64 (k : Int)) = false ∧ ∀ z, D.atKey (.int .i64 (k : Int)) z = z
theorem lit_ne {a b : Nat} (h : a ≠ b) : Lit.int .i64 (a : Int) ≠ Lit.int .i64 (b : Int) := fun e => by
  injection e with _ e
  exact h (by omega)
theorem EndsD.start (S : Nat → Nat) (h0 : S 0 = 0) : EndsD ((DataW.map [] : DataW Unit).put (.int .i64 ((0 : Nat) : Int)) (.lit (.int .i64 ((0 : Nat) : Int)))) S 0 := by
  have hm : IsMap (DataW.map [] : DataW Unit) := ⟨_, rfl⟩
  refine ⟨hm.put _ _, fun i hi _ => ?_, fun k hk => ?_⟩
  · obtain rfl : i = 0 := by omega
    rw [h0]
    exact ⟨has_put_same hm (by trivial) _, fun z => atKey_put_same hm (by trivial) _ _⟩
  · have hne : k ≠ 0 := fun e => hk 0 (Nat.le_refl _) (by rw [h0, e])
    exact ⟨(has_put_other (lit_ne hne) _).trans rfl, fun z => (atKey_put_other (lit_ne hne) _ _).trans rfl⟩
theorem EndsD.step {D : DataW Unit} {S : Nat → Nat} {j : Nat} (h : EndsD D S j) : EndsD (D.put (.int .i64 (S (j + 1) : Int)) (.lit (.int .i64 ((j + 1 : Nat) : Int)))) S (j + 1) := by
  refine ⟨h.map.put _ _, fun i hi hl => ?_, fun k hk => ?_⟩
  · by_cases hij : i = j + 1
    · subst hij
      exact ⟨has_put_same h.map (by trivial) _, fun z => atKey_put_same h.map (by trivial) _ _⟩
    · have hne : S i ≠ S (j + 1) := fun e => hl (j + 1) (by omega) (Nat.le_refl _) e.symm
      obtain ⟨h1, h2⟩ := h.at_ i (by omega) (fun i' h3 h4 => hl i' h3 (by omega))
      exact ⟨(has_put_other (lit_ne hne) _).trans h1, fun z => (atKey_put_other (lit_ne hne) _ _).trans (h2 z)⟩
  · have hne : k ≠ S (j + 1) := fun e => hk (j + 1) (Nat.le_refl _) e.symm
    obtain ⟨h1, h2⟩ := h.no k (fun i hi => hk i (by omega))
    exact ⟨(has_put_other (lit_ne hne) _).trans h1, fun z => (atKey_put_other (lit_ne hne) _ _).trans (h2 z)⟩
theorem mapK : Keyed Tryd.prog 3 := int_keyed Tryd.underlying3
end Go.Proofs.YtjgphicmkmdeiaaDoor
