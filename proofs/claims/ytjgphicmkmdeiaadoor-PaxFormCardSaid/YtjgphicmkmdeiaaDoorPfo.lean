/-
  The frame behind a region whose temporaries are all known.
-/
import Derived.Test.YtjgphicmkmdeiaaDoorInv
namespace Inv
open Go

def putAll (a : Act) : List (Tmp × Value) → Act
  | [] => a
  | (d, v) :: t => putAll (a.put (some d) v) t
theorem putAll_size (l : List (Tmp × Value)) : ∀ a : Act, (putAll a l).tmps.size = a.tmps.size := by
  induction l with
  | nil => intro a; rfl
  | cons x t ih => intro a; obtain ⟨d, v⟩ := x; rw [putAll, ih, size_put]
theorem putAll_defers (l : List (Tmp × Value)) : ∀ a : Act, (putAll a l).defers = a.defers := by
  induction l with
  | nil => intro a; rfl
  | cons x t ih => intro a; obtain ⟨d, v⟩ := x; rw [putAll, ih, defers_put]
theorem putAll_eval (b : Act) (s : Tmp) : ∀ (l : List (Tmp × Value)) (a : Act), (∀ x ∈ l, b.eval (.tmp x.1) = x.2) → a.tmps.size = b.tmps.size → s < b.tmps.size →
    (putAll a l).eval (.tmp s) = b.eval (.tmp s) ∨ ((∀ x ∈ l, x.1 ≠ s) ∧ (putAll a l).eval (.tmp s) = a.eval (.tmp s))
  | [], a, _, _, _ => .inr ⟨fun x hx => (by cases hx), rfl⟩
  | (d, v) :: t, a, h, hs, hlt => by
    rw [putAll]
    rcases putAll_eval b s t (a.put (some d) v) (fun x hx => h x (by simp [hx])) (by rw [size_put]; exact hs) hlt with h1 | ⟨h1, h2⟩
    · exact .inl h1
    · by_cases hd : d = s
      · subst hd
        refine .inl ?_
        rw [h2, eval_put_same (a := a) (by rw [hs]; exact hlt)]
        exact (h (d, v) (by simp)).symm
      · refine .inr ⟨fun x hx => ?_, ?_⟩
        · rcases List.mem_cons.1 hx with rfl | hx
          · exact hd
          · exact h1 x hx
        · rw [h2, eval_put_other (fun e => hd (by simpa using e))]
/-- The whole frame. -/
theorem Like.puts {ops : Array Oper} {a0 a : Act} (hL : Like ops a0 a) (l : List (Tmp × Value)) (hv : ∀ x ∈ l, a.eval (.tmp x.1) = x.2) (hc : (ops.all fun o => match o.dst with | some d => (l.map (·.1)).contains d | none => true) = true) : a = putAll a0 l := by
  have hsz : (putAll a0 l).tmps.size = a.tmps.size := (putAll_size l a0).trans hL.size.symm
  have htm : a.tmps = (putAll a0 l).tmps := by
    apply Array.ext hsz.symm
    intro s h1 h2
    have key : (putAll a0 l).eval (.tmp s) = a.eval (.tmp s) := by
      rcases putAll_eval a s l a0 hv hL.size.symm h1 with h | ⟨h, h'⟩
      · exact h
      · rw [h']
        refine (hL.rest s ?_).symm
        refine Array.all_eq_true'.2 fun o ho => ?_
        have := Array.all_eq_true'.1 hc o ho
        cases hd : o.dst with
        | none => rfl
        | some d =>
          rw [hd] at this
          simp only at this
          have hm : d ∈ l.map (·.1) := by simpa using this
          obtain ⟨x, hx, rfl⟩ := List.mem_map.1 hm
          have := h x hx
          simpa using this
    have e1 : a.eval (.tmp s) = a.tmps[s] := by show a.tmps.getD s undef = _; simp [h1]
    have e2 : (putAll a0 l).eval (.tmp s) = (putAll a0 l).tmps[s] := by show (putAll a0 l).tmps.getD s undef = _; simp [h2]
    rw [← e1, ← e2, key]
  have hdf : a.defers = (putAll a0 l).defers := hL.defers.trans (putAll_defers l a0).symm
  cases a
  cases h : putAll a0 l
  rw [h] at htm hdf
  simp only at htm hdf
  subst htm hdf
  rfl
theorem ev_get {a : Act} {s : Tmp} {v : Value} (h : a.eval (.tmp s) = v) : a.tmps[s]?.getD undef = v := by
  rw [← h]; show _ = a.tmps.getD s undef; simp
/-- What holds inside a region: the frame differs in its own temporaries only; operations whose value is known have left it; and M. -/
structure KK (ops : Array Oper) (a0 : Act) (c : Nat → Option Value) (M : (Nat → Bool) → Act → World → Prop) (L : Nat → Bool) (a : Act) (W : World) : Prop where
  like : Like ops a0 a
  val : ∀ i v, c i = some v → L i = true → valAt ops a i = v
  m : M L a W
/-- **The rule, by values that are known ahead**, and a word M on what was done, the frame and the world. -/
theorem wp_region_K {P : Program} {ops : Array Oper} {Q : Exit → Act → World → Prop} {id : Nat} {a : Act} {w : World} (hm : P.follows .mixedOrders = true) (hok : okB ops a.tmps.size = true) (hg : ∀ (i : Nat) (o : Oper), ops[i]? = some o → o.guard = none)
    (c : Nat → Option Value) (M : (Nat → Bool) → Act → World → Prop) (h0 : ∀ L, (∀ j, L j = false) → M L a w.drew)
    (hop : ∀ L L' b W i o, ops[i]? = some o → L i = false → (∀ e ∈ o.after, Region.binds .any e = true → L e.on = true) → KK ops a c M L b W → (∀ j, L' j = if j = i then true else L j) →
      o.wp P b W (fun a' w' => ∃ v, a' = b.put o.dst v ∧ (∀ u, c i = some u → (if o.dst.isSome then v else undef) = u) ∧ M L' a' w') Q)
    (hend : ∀ L a' w', (∀ j, j < ops.size → L j = true) → KK ops a c M L a' w' → Q .normal a' w') : (Code.region id ops true).wp P Q a w := by
  refine wp_region_J hm hok hg (KK ops a c M) (fun L hL => ⟨⟨rfl, rfl, fun _ _ => rfl⟩, fun i v _ h => (by rw [hL] at h; cases h), h0 L hL⟩) (fun L L' b W i o ho hLi hdep J hL' => ?_) hend
  refine Oper.wp_mono ?_ (hop L L' b W i o ho hLi hdep J hL')
  rintro a' w' ⟨v, rfl, hv, hM⟩
  refine ⟨J.like.put ho v, fun j u hu hj => ?_, hM⟩
  by_cases hji : j = i
  · subst hji
    rw [valAt_put_same ho (okP hok) (J.like.size.trans rfl)]
    exact hv u hu
  · rw [valAt_put_other ho (okP hok) hji]
    refine J.val j u hu ?_
    rw [hL' j, if_neg hji] at hj
    exact hj
/-- A call inside a region. -/
theorem wp_of_callK {P : Program} {Q : Exit → Act → World → Prop} {o : Oper} {a : Act} {w : World} {K : Act → World → Prop} {f : FuncId} {args : Array Value} (hr : (execOp a.eval o).run P w = .ok (.enter f args) w) {R : World → Prop} {v : Value}
    (hc : Calls P f args w fun e w' => e = .returned v ∧ R w') (h : ∀ w', R w' → K (a.put o.dst v) w') : o.wp P a w K Q :=
  wp_of_enter hr hc fun _ w' ⟨he, hw⟩ => ⟨v, he, h w' hw⟩
end Inv
