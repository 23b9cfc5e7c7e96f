/-
  The frame behind a region whose temporaries are all known.
-/
import Derived.Test.YtdkajbhhmgmohaaDoorInv
namespace Inv
open Go

def putAll (a : Act) : List (Tmp × Value) → Act
  | [] => a
  | (d, v) :: t => putAll (a.put (some d) v) t
theorem putAll_size (l : List (Tmp × Value)) : ∀ a : Act, (putAll a l).tmps.size = a.tmps.size := by
  induction l with
  | nil => intro a; rfl
  | cons x t ih => intro a; obtain ⟨d, v⟩ := x; rw [putAll, ih, size_put]
theorem putAll_defers (l : List (Tmp × Value)) : ∀ a : Act, (putAll a l).defers = a.defers := by
  induction l with
  | nil => intro a; rfl
  | cons x t ih => intro a; obtain ⟨d, v⟩ := x; rw [putAll, ih, defers_put]
theorem putAll_eval (b : Act) (s : Tmp) : ∀ (l : List (Tmp × Value)) (a : Act), (∀ x ∈ l, b.eval (.tmp x.1) = x.2) → a.tmps.size = b.tmps.size → s < b.tmps.size →
    (putAll a l).eval (.tmp s) = b.eval (.tmp s) ∨ ((∀ x ∈ l, x.1 ≠ s) ∧ (putAll a l).eval (.tmp s) = a.eval (.tmp s))
  | [], a, _, _, _ => .inr ⟨fun x hx => (by cases hx), rfl⟩
  | (d, v) :: t, a, h, hs, hlt => by
    rw [putAll]
    rcases putAll_eval b s t (a.put (some d) v) (fun x hx => h x (by simp [hx])) (by rw [size_put]; exact hs) hlt with h1 | ⟨h1, h2⟩
    · exact .inl h1
    · by_cases hd : d = s
      · subst hd
        refine .inl ?_
        rw [h2, eval_put_same (a := a) (by rw [hs]; exact hlt)]
        exact (h (d, v) (by simp)).symm
      · refine .inr ⟨fun x hx => ?_, ?_⟩
        · rcases List.mem_cons.1 hx with rfl | hx
          · exact hd
          · exact h1 x hx
        · rw [h2, eval_put_other (fun e => hd (by simpa using e))]
/-- The whole frame. -/
theorem Like.puts {ops : Array Oper} {a0 a : Act} (hL : Like ops a0 a) (l : List (Tmp × Value)) (hv : ∀ x ∈ l, a.eval (.tmp x.1) = x.2) (hc : (ops.all fun o => match o.dst with | some d => (l.map (·.1)).contains d | none => true) = true) : a = putAll a0 l := by
  have hsz : (putAll a0 l).tmps.size = a.tmps.size := (putAll_size l a0).trans hL.size.symm
  have htm : a.tmps = (putAll a0 l).tmps := by
    apply Array.ext hsz.symm
    intro s h1 h2
    have key : (putAll a0 l).eval (.tmp s) = a.eval (.tmp s) := by
      rcases putAll_eval a s l a0 hv hL.size.symm h1 with h | ⟨h, h'⟩
      · exact h
      · rw [h']
        refine (hL.rest s ?_).symm
        refine Array.all_eq_true'.2 fun o ho => ?_
        have := Array.all_eq_true'.1 hc o ho
        cases hd : o.dst with
        | none => rfl
        | some d =>
          rw [hd] at this
          simp only at this
          have hm : d ∈ l.map (·.1) := by simpa using this
          obtain ⟨x, hx, rfl⟩ := List.mem_map.1 hm
          have := h x hx
          simpa using this
    have e1 : a.eval (.tmp s) = a.tmps[s] := by show a.tmps.getD s undef = _; simp [h1]
    have e2 : (putAll a0 l).eval (.tmp s) = (putAll a0 l).tmps[s] := by show (putAll a0 l).tmps.getD s undef = _; simp [h2]
    rw [← e1, ← e2, key]
  have hdf : a.defers = (putAll a0 l).defers := hL.defers.trans (putAll_defers l a0).symm
  cases a
  cases h : putAll a0 l
  rw [h] at htm hdf
  simp only at htm hdf
  subst htm hdf
  rfl
end Inv
