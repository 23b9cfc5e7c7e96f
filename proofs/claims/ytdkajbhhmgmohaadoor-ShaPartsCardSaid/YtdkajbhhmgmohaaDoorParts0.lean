/-
  Slices of slices of bytes of the call's own; what stays; a State that stays.
-/
import Derived.Test.YtdkajbhhmgmohaaDoorWrit
import Derived.Test.YtdkajbhhmgmohaaDoorKinds
import Derived.Test.YtdkajbhhmgmohaaDoorPuts
import Derived.ArgAppend
import Derived.IntWalk
namespace Go.Proofs.YtdkajbhhmgmohaaDoor
open Go.RowKit Sha Inv

theorem below_drew {B : Nat} {a w : World} (h : Below B a w) : Below B a w.drew := ⟨h.os, h.tape, h.output, h.size, h.block⟩
theorem size_alloc (w : World) (o : Obj) : (w.alloc o).heap.size = w.heap.size + 1 := by simp
theorem SlW.shape {w : World} {v : Value} {bs : List UInt8} (h : SlW w v bs) : ∃ p cap, v = .slice p bs.length cap := by
  rcases h with ⟨g, o, cap, h, _⟩ | ⟨p, h, rfl⟩
  · exact ⟨_, _, h⟩
  · exact ⟨_, _, h⟩
theorem SlW.one {w : World} {v : Value} {bs : List UInt8} (h : SlW w v bs) : v.oneCell' = true := by
  obtain ⟨p, cap, rfl⟩ := h.shape; rfl
theorem SlW.take {w : World} {p : Option Addr} {n cap : Nat} {bs : List UInt8} (h : SlW w (.slice p n cap) bs) (k : Nat) (hk : k ≤ n) : SlW w (.slice p k cap) (bs.take k) := by
  rcases h with ⟨g, o, cap, h, h2, hB⟩ | ⟨p', h, rfl⟩
  · cases h
    exact .inl ⟨g, o, cap, by rw [List.length_take]; congr 1; omega, by simp; omega, hB.take k⟩
  · cases h
    obtain rfl : k = 0 := by omega
    exact .inr ⟨p, rfl, by simp⟩
theorem slice_to {w : World} (p : Option Addr) (n cap k : Nat) (bs : List UInt8) (hs : SlW w (.slice p n cap) bs) (hk : k ≤ n) : ∀ w', (Instr.sliceAt 22 (.slice p n cap) none (some (.int .i64 (k : Int))) none).run Tryd.prog w' = .ok (.slice p k cap) w' := by
  intro w'
  have hc : n ≤ cap := by
    rcases hs with ⟨g, o, cap', h, h2, _⟩ | ⟨p', h, rfl⟩
    · cases h; exact h2
    · cases h; omega
  have h1 : (0 : Int) ≤ (k : Int) := by omega
  have h2 : (k : Int) ≤ (cap : Int) := by omega
  rcases hs with ⟨g, o, cap', h, _, _⟩ | ⟨p', h, rfl⟩
  · cases h
    go_simp
  · cases h
    obtain rfl : k = 0 := by omega
    show (Instr.sliceAt 22 (.slice p 0 0) none (some (.int .i64 0)) none).run Tryd.prog w' = .ok (.slice p 0 0) w'
    cases p with
    | none => kernel_rfl
    | some a => kernel_rfl
/-- A State that stays. -/
theorem StAt.lt {gs T : Nat} {w : World} {msg : List UInt8} (h : StAt gs T w msg) : gs < w.heap.size := by
  obtain ⟨s, rest, _, hr⟩ := h; exact (Array.getElem?_eq_some_iff.1 hr).1
theorem StAt.below {gs T B : Nat} {w w' : World} {msg : List UInt8} (h : StAt gs T w msg) (hb : Below B w w') (hg : gs < B) : StAt gs T w' msg := by
  obtain ⟨s, rest, hM, hr⟩ := h; exact ⟨s, rest, hM, (hb.block gs hg).trans hr⟩
theorem StAt.only {gs T g : Nat} {w w' : World} {msg : List UInt8} (h : StAt gs T w msg) (ho : Only g w w') (hg : gs ≠ g) : StAt gs T w' msg := by
  have hl := h.lt
  obtain ⟨s, rest, hM, hr⟩ := h; exact ⟨s, rest, hM, (ho.block gs hl hg).trans hr⟩
theorem StAt.row {gs T : Nat} {w : World} {msg : List UInt8} (h : StAt gs T w msg) : ∃ cs, w.heap[gs]? = some (.cells cs T (0, 0)) := by
  obtain ⟨s, rest, hM, hr⟩ := h; exact ⟨_, hr⟩
/-- Rows of the call's own, of any elements of one cell, by the block's type. -/
theorem owns_apart {base E G T : Nat} {w : World} {v : Value} {n : Nat} {xs : List Value} {cs : Array Value} (h : w.ownsRow base E 1 v n xs) (hG : w.heap[G]? = some (.cells cs T (0, 0))) (hT : T ≠ E) : v.ownBlock ≠ some G := by
  obtain ⟨h0, ⟨h1, h2⟩ | ⟨g, cap, cur, h1, h2, h3, h4⟩⟩ := h
  · rw [h1]; intro e; cases e
  · rw [h1]
    intro e
    simp [Value.ownBlock] at e
    subst e
    rw [hG] at h3
    simp at h3
    exact hT h3.2
theorem owns_only {base E G : Nat} {w w' : World} {v : Value} {n : Nat} {xs : List Value} (h : w.ownsRow base E 1 v n xs) (ho : Only G w w') (hne : v.ownBlock ≠ some G) : w'.ownsRow base E 1 v n xs := by
  obtain ⟨h0, ⟨h1, h2⟩ | ⟨g, cap, cur, h1, h2, h3, h4⟩⟩ := h
  · exact ⟨h0, .inl ⟨h1, h2⟩⟩
  · refine ⟨h0, .inr ⟨g, cap, cur, h1, h2, (ho.block g (Array.getElem?_eq_some_iff.1 h3).1 ?_).trans h3, h4⟩⟩
    rintro rfl
    exact hne (by rw [h1]; rfl)
theorem owns_lt {base E : Nat} {w : World} {v : Value} {n : Nat} {xs : List Value} (h : w.ownsRow base E 1 v n xs) : ∀ k, v.ownBlock = some k → base ≤ k ∧ k < w.heap.size := by
  intro k hk
  obtain ⟨_, ⟨h1, h2⟩ | ⟨g, cap, cur, h1, h2, h3, h4⟩⟩ := h
  · rw [h1] at hk; cases hk
  · rw [h1] at hk
    simp [Value.ownBlock] at hk
    subst hk
    exact ⟨h2, (Array.getElem?_eq_some_iff.1 h3).1⟩
theorem owns_below {base E B : Nat} {w w' : World} {v : Value} {n : Nat} {xs : List Value} (h : w.ownsRow base E 1 v n xs) (hb : Below B w w') (hB : ∀ k, v.ownBlock = some k → k < B) : w'.ownsRow base E 1 v n xs := by
  obtain ⟨h0, ⟨h1, h2⟩ | ⟨g, cap, cur, h1, h2, h3, h4⟩⟩ := h
  · exact ⟨h0, .inl ⟨h1, h2⟩⟩
  · exact ⟨h0, .inr ⟨g, cap, cur, h1, h2, (hb.block g (hB g (by rw [h1]; rfl))).trans h3, h4⟩⟩
theorem owns_kept {base E : Nat} {w w' : World} {v : Value} {n : Nat} {xs : List Value} {row : Option Nat} (h : w.ownsRow base E 1 v n xs) (hg : w.grownBy w' row) (hne : v.ownBlock = none ∨ v.ownBlock ≠ row) : w'.ownsRow base E 1 v n xs := World.ownsRow.kept h hg hne
theorem StAt.kept {gs T : Nat} {w w' : World} {msg : List UInt8} {row : Option Nat} (h : StAt gs T w msg) (hg : w.grownBy w' row) (hne : row ≠ some gs) : StAt gs T w' msg := by
  have hl := h.lt
  obtain ⟨s, rest, hM, hr⟩ := h
  exact ⟨s, rest, hM, (hg.block gs hl (fun e => hne e.symm)).trans hr⟩
theorem info22 : (Tryd.prog.info? 22).map (fun i => (i.zero, i.size, i.bytes)) = some (some (.slice none 0 0), 1, 24) := by kernel_rfl
/-- append of one slice of bytes. -/
theorem wpList_appS {w : World} {ops : Array Oper} {rest : List Oper} {o : Oper} {a : Act} {Q : Exit → Act → World → Prop} (hgd : o.guard = none) (d x : Operand)
    (ho : o.op = .call { callee := .builtin .append, args := #[d, x], argTypes := #[39, 39] }) (base : Nat) (v u : Value) (xs : List Value) (hd : a.eval d = v) (hx : a.eval x = .slice (some ⟨w.heap.size, 0, none⟩) 1 1)
    (hown : w.ownsRow base 22 1 v xs.length xs) (hu1 : u.oneCell' = true) (hbase : base ≤ w.heap.size) (hsz : xs.length ≤ 1000000)
    (h : ∀ v' w', w'.ownsRow base 22 1 v' (xs ++ [u]).length (xs ++ [u]) → (w.alloc (.cells #[u] 22)).grownBy w' v.ownBlock → wpList Tryd.prog ops Q rest (a.put o.dst v') w') : wpList Tryd.prog ops Q (o :: rest) a (w.alloc (.cells #[u] 22)) := by
  refine wpList_plain hgd fun K hK => ?_
  obtain ⟨i0, hi, hz0, hz1, hz2⟩ := info_parts info22
  obtain ⟨v', w', hrun, h1, h2, _⟩ := run_append_own (P := Tryd.prog) (w.alloc (.cells #[u] 22)) base 39 o.type 22 i0 (.slice none 0 0) 1 24 Tryd.underlying39 hi hz0 hz1 hz2 rfl (by decide) v xs.length xs (World.ownsRow.alloc hown _) ⟨w.heap.size, 0, none⟩ 1 1 [u] rfl
    (fun j y hy => by
      match j, hy with
      | 0, hy =>
        simp at hy; subst hy
        exact cell_of_row _ _ _ _ _ _ (heap_alloc_new w _)
      | j + 1, hy => simp at hy) (fun y hy => by obtain rfl := List.mem_singleton.1 hy; exact hu1) (by unfold maxLen; omega) (by omega) (by simp; omega)
  unfold Oper.wp
  simp only [execOp, ho, resolve, invoke, builtin, hd, hx, hrun, Result.andThen, List.map_toArray, List.map_cons, List.map_nil, Sem.run_bind, Sem.run_pure]
  exact hK _ _ (h v' w' (by rw [List.length_append]; exact h1) h2)
theorem cat_snoc (l : List (Value × List UInt8)) (v : Value) (B : List UInt8) : cat (l ++ [(v, B)]) = cat l ++ B := by
  simp [cat]
end Go.Proofs.YtdkajbhhmgmohaaDoor
