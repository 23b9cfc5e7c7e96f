/-
  Slices of slices of bytes of the call's own; what stays under calls that turn one block alone.
-/
import Derived.Test.YtehajghnjbhfeaaDoorRefOn
namespace Go.Proofs.YtehajghnjbhfeaaDoor
open Go.RowKit Crc Inv

theorem OwnB.kept {base : Nat} {w w' : World} {v : Value} {l : List UInt8} {row : Option Nat} (h : OwnB base w v l) (hg : w.grownBy w' row) (hne : v.ownBlock = none ∨ v.ownBlock ≠ row) : OwnB base w' v l := World.ownsRow.kept h hg hne
theorem OwnB.only {base G : Nat} {w w' : World} {v : Value} {l : List UInt8} (h : OwnB base w v l) (ho : Only G w w') (hne : v.ownBlock ≠ some G) : OwnB base w' v l := by
  obtain ⟨h0, ⟨h1, h2⟩ | ⟨g, cap, cur, h1, h2, h3, h4⟩⟩ := h
  · exact ⟨h0, .inl ⟨h1, h2⟩⟩
  · refine ⟨h0, .inr ⟨g, cap, cur, h1, h2, (ho.block g (Array.getElem?_eq_some_iff.1 h3).1 ?_).trans h3, h4⟩⟩
    rintro rfl
    exact hne (by rw [h1]; rfl)
/-- A block of another type is another one. -/
theorem OwnB.apart {base G T : Nat} {w : World} {v : Value} {l : List UInt8} {cs : Array Value} (h : OwnB base w v l) (hG : w.heap[G]? = some (.cells cs T (0, 0))) (hT : T ≠ 5) : v.ownBlock ≠ some G := by
  obtain ⟨h0, ⟨h1, h2⟩ | ⟨g, cap, cur, h1, h2, h3, h4⟩⟩ := h
  · rw [h1]; intro e; cases e
  · rw [h1]
    intro e
    simp [Value.ownBlock] at e
    subst e
    rw [hG] at h3
    simp at h3
    exact hT h3.2
theorem OwnB.toSlB {base G T : Nat} {w : World} {v : Value} {l : List UInt8} {cs : Array Value} (h : OwnB base w v l) (hG : w.heap[G]? = some (.cells cs T (0, 0))) (hT : T ≠ 5) : SlB G w v l := by
  have hne := h.apart hG hT
  rcases h.toW with ⟨g, o, cap, h1, h2, h3⟩ | h1
  · refine .inl ⟨g, o, cap, h1, h2, fun _ => ?_, h3⟩
    rintro rfl
    exact hne (by rw [h1]; rfl)
  · exact .inr h1
/-- Slices of bytes in a row of the call's own. -/
structure OwnS (base : Nat) (w : World) (v : Value) (l : List (Value × List UInt8)) : Prop where
  row : w.ownsRow base 27 1 v l.length (l.map (·.1))
  each : ∀ x ∈ l, OwnB base w x.1 x.2
theorem OwnS.nil (base : Nat) (w : World) : OwnS base w (.slice none 0 0) [] := ⟨⟨by simp, .inl ⟨rfl, rfl⟩⟩, fun x hx => by cases hx⟩
theorem OwnS.toP {base : Nat} {w : World} {v : Value} {l : List (Value × List UInt8)} (h : OwnS base w v l) : PAt w v l := by
  obtain ⟨_, ⟨h1, h2⟩ | ⟨g, cap, cur, h1, h2, h3, h4, h5, h6, h7⟩⟩ := h.row
  · exact .inr ⟨h1, List.eq_nil_of_length_eq_zero h2⟩
  · refine .inl ⟨g, 0, cap, h1, fun i x hx => ⟨?_, (h.each x (List.mem_of_getElem? hx)).toW⟩⟩
    rw [Nat.zero_add, cell_of_row _ _ _ _ _ _ h3]
    have hi : i < l.length := (List.getElem?_eq_some_iff.1 hx).1
    have e : cur.toList[i]? = (l.map (·.1))[i]? := by
      rw [← h7, List.getElem?_take, if_pos (by omega)]
    rw [← Array.getElem?_toList, e]
    simp [hx]
theorem OwnS.apart {base G T : Nat} {w : World} {v : Value} {l : List (Value × List UInt8)} {cs : Array Value} (h : OwnS base w v l) (hG : w.heap[G]? = some (.cells cs T (0, 0))) (hT : T ≠ 27) : v.ownBlock ≠ some G := by
  obtain ⟨h0, ⟨h1, h2⟩ | ⟨g, cap, cur, h1, h2, h3, h4⟩⟩ := h.row
  · rw [h1]; intro e; cases e
  · rw [h1]
    intro e
    simp [Value.ownBlock] at e
    subst e
    rw [hG] at h3
    simp at h3
    exact hT h3.2
theorem OwnS.only {base G T : Nat} {w w' : World} {v : Value} {l : List (Value × List UInt8)} {cs : Array Value} (h : OwnS base w v l) (ho : Only G w w') (hG : w.heap[G]? = some (.cells cs T (0, 0))) (h5 : T ≠ 5) (h27 : T ≠ 27) : OwnS base w' v l := by
  refine ⟨?_, fun x hx => (h.each x hx).only ho ((h.each x hx).apart hG h5)⟩
  have hne := h.apart hG h27
  obtain ⟨h0, ⟨h1, h2⟩ | ⟨g, cap, cur, h1, h2, h3, h4⟩⟩ := h.row
  · exact ⟨h0, .inl ⟨h1, h2⟩⟩
  · refine ⟨h0, .inr ⟨g, cap, cur, h1, h2, (ho.block g (Array.getElem?_eq_some_iff.1 h3).1 ?_).trans h3, h4⟩⟩
    rintro rfl
    exact hne (by rw [h1]; rfl)
theorem OwnS.below {base : Nat} {w w' : World} {v : Value} {l : List (Value × List UInt8)} (h : OwnS base w v l) (hb : Below w.heap.size w w') : OwnS base w' v l := by
  refine ⟨?_, fun x hx => (h.each x hx).below hb fun k hk => ((h.each x hx).lt k hk).2⟩
  obtain ⟨h0, ⟨h1, h2⟩ | ⟨g, cap, cur, h1, h2, h3, h4⟩⟩ := h.row
  · exact ⟨h0, .inl ⟨h1, h2⟩⟩
  · exact ⟨h0, .inr ⟨g, cap, cur, h1, h2, (hb.block g (Array.getElem?_eq_some_iff.1 h3).1).trans h3, h4⟩⟩
theorem OwnS.alloc {base : Nat} {w : World} {v : Value} {l : List (Value × List UInt8)} (h : OwnS base w v l) (o : Obj) : OwnS base (w.alloc o) v l := h.below ((Below.refl _ _).alloc (Nat.le_refl _) _)
/-- append of one slice of bytes. -/
theorem wpList_appS {w : World} {ops : Array Oper} {rest : List Oper} {o : Oper} {a : Act} {Q : Exit → Act → World → Prop} (hgd : o.guard = none) (d x : Operand)
    (ho : o.op = .call { callee := .builtin .append, args := #[d, x], argTypes := #[26, 26] }) (base : Nat) (v u : Value) (l : List (Value × List UInt8)) (bs : List UInt8) (hd : a.eval d = v) (hx : a.eval x = .slice (some ⟨w.heap.size, 0, none⟩) 1 1)
    (hown : OwnS base w v l) (hu : OwnB base w u bs) (hbase : base ≤ w.heap.size) (hsz : l.length ≤ 1000000)
    (h : ∀ v' w', OwnS base w' v' (l ++ [(u, bs)]) → (w.alloc (.cells #[u] 27)).grownBy w' v.ownBlock → wpList Tryd.prog ops Q rest (a.put o.dst v') w') : wpList Tryd.prog ops Q (o :: rest) a (w.alloc (.cells #[u] 27)) := by
  refine wpList_plain hgd fun K hK => ?_
  obtain ⟨i0, hi, hz0, hz1, hz2⟩ := info_parts info27
  have hu1 : u.oneCell' = true := by
    rcases hu.toW with ⟨g, o', cap, he, _⟩ | ⟨p', he, _⟩ <;> rw [he] <;> rfl
  obtain ⟨v', w', hrun, h1, h2, _⟩ := run_append_own (P := Tryd.prog) (w.alloc (.cells #[u] 27)) base 26 o.type 27 i0 (.slice none 0 0) 1 24 Tryd.underlying26 hi hz0 hz1 hz2 rfl (by decide) v l.length (l.map (·.1)) (World.ownsRow.alloc hown.row _) ⟨w.heap.size, 0, none⟩ 1 1 [u] rfl
    (fun j y hy => by
      match j, hy with
      | 0, hy =>
        simp at hy; subst hy
        exact cell_of_row _ _ _ _ _ _ (heap_alloc_new w _)
      | j + 1, hy => simp at hy) (fun y hy => by obtain rfl := List.mem_singleton.1 hy; exact hu1) (by unfold maxLen; omega) (by omega) (by simp; omega)
  have hS : OwnS base w' v' (l ++ [(u, bs)]) := by
    refine ⟨?_, fun y hy => ?_⟩
    · rw [List.length_append, List.map_append]; exact h1
    · have hne : ∀ z bz, OwnB base w z bz → OwnB base w' z bz := fun z bz hz => by
        have hz1 := hz.alloc (.cells #[u] 27)
        refine hz1.kept h2 ?_
        by_cases hzn : z.ownBlock = none
        · exact .inl hzn
        refine .inr ?_
        obtain ⟨_, ⟨e1, _⟩ | ⟨g, cap, cur, e1, _, e3, _⟩⟩ := hown.row
        · rw [e1]; exact hzn
        · rw [e1]
          exact hz.apart e3 (by decide)
      rcases List.mem_append.1 hy with hy | hy
      · exact hne _ _ (hown.each y hy)
      · obtain rfl := List.mem_singleton.1 hy
        exact hne _ _ hu
  unfold Oper.wp
  simp only [execOp, ho, resolve, invoke, builtin, hd, hx, hrun, Result.andThen, List.map_toArray, List.map_cons, List.map_nil, Sem.run_bind, Sem.run_pure]
  exact hK _ _ (h v' w' hS h2)
end Go.Proofs.YtehajghnjbhfeaaDoor
