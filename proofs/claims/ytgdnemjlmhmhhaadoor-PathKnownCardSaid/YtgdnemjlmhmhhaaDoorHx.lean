/-
  Clean.
-/
import Derived.Test.YtgdnemjlmhmhhaaDoorHw
namespace Go.Proofs.YtgdnemjlmhmhhaaDoor
open Go.RowKit
attribute [local go_sem] Oper.semAt_some

def seqW (w : World) (b : ByteArray) : World := ((w.alloc (.cells #[.string b] 9)).alloc (.cells #[.string ⟨#[47]⟩] 9)).alloc (.cells #[.int .i64 0] 3)
def seqF (g : Nat) : Value := .func (.func 79) #[] #[.pointer (some ⟨g + 1, 0, none⟩), .pointer (some ⟨g, 0, none⟩), .pointer (some ⟨g + 1 + 1, 0, none⟩)]
set_option maxHeartbeats 1000000 in
theorem splitSeq_walk (b : ByteArray) (w : World) : Calls Tryd.prog 60 #[.string b, .string ⟨#[47]⟩, .int .i64 0] w fun e w' => e = .returned (seqF w.heap.size) ∧ w' = seqW w b := by
  go_enter Tryd.func60, Tryd.ntmps60
  go_wp2_with fail
  go_ret
  exact ⟨by unfold seqF; simp, rfl⟩
set_option maxHeartbeats 1000000 in
theorem sseq_walk (b : ByteArray) (w : World) : Calls Tryd.prog 39 #[.string b, .string ⟨#[47]⟩] w fun e w' => e = .returned (seqF w.heap.size) ∧ w' = seqW w b := by
  have HC := Lib.hid (splitSeq_walk b w)
  go_enter Tryd.func39, Tryd.ntmps39
  go_wp2_with ((with_reducible refine HC.out.mono ?_); rintro e w' ⟨rfl, hw⟩; rw [hw]; clear hw)
  go_ret
  exact ⟨rfl, rfl⟩
/-- The parts that are kept, and whether one is too long, or too many. -/
def stC (l : List (List UInt8)) : List (List UInt8) × Bool :=
  l.foldl (fun st x => if x = [] ∨ x = [46] then st else if 255 < x.length ∨ st.1.length = 255 then (st.1, true) else (st.1 ++ [x], st.2)) ([], false)
theorem stC_snoc (l : List (List UInt8)) (x : List UInt8) : stC (l ++ [x]) = if x = [] ∨ x = [46] then stC l else if 255 < x.length ∨ (stC l).1.length = 255 then ((stC l).1, true) else ((stC l).1 ++ [x], (stC l).2) := by
  unfold stC
  rw [List.foldl_append]; rfl
theorem snocRec {α : Type} {P : List α → Prop} (h0 : P []) (h1 : ∀ l x, P l → P (l ++ [x])) (l : List α) : P l := by
  rw [← List.reverse_reverse l]
  induction l.reverse with
  | nil => exact h0
  | cons x t ih => rw [List.reverse_cons]; exact h1 _ _ ih
theorem stC_le (l : List (List UInt8)) : (stC l).1.length ≤ 255 := by
  refine snocRec (P := fun l => (stC l).1.length ≤ 255) (Nat.zero_le _) (fun l x ih => ?_) l
  rw [stC_snoc]
  split
  · exact ih
  · split
    · exact ih
    · rename_i h
      rw [not_or] at h
      simp; omega
theorem stC_succ (L : List (List UInt8)) (k : Nat) (hk : k < L.length) : stC (L.take (k + 1)) = if L.getD k [] = [] ∨ L.getD k [] = [46] then stC (L.take k) else if 255 < (L.getD k []).length ∨ (stC (L.take k)).1.length = 255 then ((stC (L.take k)).1, true) else ((stC (L.take k)).1 ++ [L.getD k []], (stC (L.take k)).2) := by
  rw [List.take_succ_eq_append_getElem hk, stC_snoc]
  have e : L.getD k [] = L[k] := by simp [hk]
  rw [e]
/-- What the parts kept say: all of them are there, or one is too long, or they are too many. -/
theorem stC_says (l : List (List UInt8)) : ((stC l).2 = false → (stC l).1 = Pt.kept l ∧ (Pt.kept l).any (fun a => decide (255 < a.length)) = false) ∧ ((stC l).2 = true → (Pt.kept l).any (fun a => decide (255 < a.length)) = true ∨ 255 < (Pt.kept l).length) ∧ (stC l).1.length ≤ (Pt.kept l).length := by
  refine snocRec (P := fun l => ((stC l).2 = false → (stC l).1 = Pt.kept l ∧ (Pt.kept l).any (fun a => decide (255 < a.length)) = false) ∧ ((stC l).2 = true → (Pt.kept l).any (fun a => decide (255 < a.length)) = true ∨ 255 < (Pt.kept l).length) ∧ (stC l).1.length ≤ (Pt.kept l).length) ⟨fun _ => ⟨rfl, rfl⟩, fun h => (by cases h), Nat.le_refl _⟩ (fun l x ih => ?_) l
  obtain ⟨i1, i2, i3⟩ := ih
  have hk : Pt.kept (l ++ [x]) = if x = [] ∨ x = [46] then Pt.kept l else Pt.kept l ++ [x] := by
    unfold Pt.kept
    rw [List.filter_append]
    by_cases h : x = [] ∨ x = [46]
    · rw [if_pos h]
      rcases h with h | h <;> (subst h; simp)
    · rw [if_neg h, not_or] at *
      have : (x != [] && x != [46]) = true := by simpa using h
      simp [this]
  rw [stC_snoc, hk]
  by_cases h : x = [] ∨ x = [46]
  · rw [if_pos h, if_pos h]; exact ⟨i1, i2, i3⟩
  · rw [if_neg h, if_neg h]
    by_cases h2 : 255 < x.length ∨ (stC l).1.length = 255
    · rw [if_pos h2]
      refine ⟨fun e => (by cases e), fun _ => ?_, by simp; omega⟩
      rcases h2 with h2 | h2
      · exact .inl (by rw [List.any_append]; simp [h2])
      · exact .inr (by simp; omega)
    · rw [if_neg h2, not_or] at *
      refine ⟨fun e => ?_, fun e => ?_, by simp; omega⟩
      · obtain ⟨e1, e2⟩ := i1 e
        exact ⟨by rw [e1], by rw [List.any_append, e2]; simp; omega⟩
      · rcases i2 e with e1 | e1
        · exact .inl (by rw [List.any_append, e1]; rfl)
        · exact .inr (by simp; omega)
structure ClRel (w : World) (G b : Nat) (ps : List (List UInt8)) (lg : Bool) (W : World) : Prop where
  r1 : Boxed W G 9 (.string ⟨#[]⟩)
  r2 : Boxed W (G + 1) 22 (.int .i64 0)
  row : ∃ v, Boxed W (G + 1 + 1) 31 v ∧ W.ownsRow b 9 1 v ps.length (sl ps)
  long : Boxed W (G + 1 + 1 + 1) 4 (.bool lg)
  below : Below G w W
  size : b ≤ W.heap.size
structure ClOut (w : World) (G : Nat) (W : World) : Prop where
  r1 : Boxed W G 9 (.string ⟨#[]⟩)
  r2 : Boxed W (G + 1) 22 (.int .i64 30)
  below : Below G w W
theorem row_grown {b : Nat} {A B : World} {row : Option Nat} {v : Value} {n : Nat} {l : List Value} (h : A.ownsRow b 9 1 v n l) (hg : A.grownBy B row) (hr : ∀ r, row = some r → ∃ o : Obj, A.heap[r]? = some o ∧ o.isCells = false) : B.ownsRow b 9 1 v n l := by
  refine own_stays h (fun k hk => ?_)
  obtain ⟨hk1, hk2⟩ := h.lt k hk
  refine hg.block k hk2 (fun e => ?_)
  obtain ⟨o, ho, hc⟩ := hr k e.symm
  rcases h with ⟨_, ⟨h1, _⟩ | ⟨g, cap, cur, h1, h2, h3, _⟩⟩
  · rw [h1] at hk; simp [Value.ownBlock] at hk
  · rw [h1] at hk
    have : g = k := by simpa [Value.ownBlock] using hk
    subst this
    rw [ho] at h3; cases h3; cases hc
theorem below_grown {G : Nat} {w A B : World} {row : Option Nat} (h : Below G w A) (hw : G ≤ w.heap.size) (hg : A.grownBy B row) (hr : ∀ r, row = some r → G ≤ r) : Below G w B := h.grown hg (Nat.le_trans hw h.size) hr
theorem box_grown {A B : World} {row : Option Nat} {g : Nat} {t : TypeId} {v : Value} (h : Boxed A g t v) (hg : A.grownBy B row) (hr : ∀ r, row = some r → ∃ o : Obj, A.heap[r]? = some o ∧ o.isCells = false) : Boxed B g t v := by
  refine h.kept hg (fun e => ?_)
  obtain ⟨o, ho, hc⟩ := hr g e.symm
  have h3 : A.heap[g]? = some (.cells #[v] t (0, 0)) := h
  rw [ho] at h3; cases h3; cases hc
theorem clRel_own {w : World} {G b B0 : Nat} (hw : G ≤ w.heap.size) (hB : G ≤ B0) (ps : Nat → List (List UInt8)) (lg : Nat → Bool) (pp : Nat → Prop) : OwnFrom B0 (fun k W => ClRel w G b (ps k) (lg k) W ∧ pp k) := fun k A B row h hg hr => by
  have hr2 := fun r e => (hr r e).2
  obtain ⟨v, h1, h2⟩ := h.1.row
  exact ⟨⟨box_grown h.1.r1 hg hr2, box_grown h.1.r2 hg hr2, ⟨v, box_grown h1 hg hr2, row_grown h2 hg hr2⟩, box_grown h.1.long hg hr2, below_grown h.1.below hw hg (fun r e => Nat.le_trans hB (hr r e).1), Nat.le_trans h.1.size hg.size⟩, h.2⟩
theorem clOut_own {w : World} {G B0 : Nat} (hw : G ≤ w.heap.size) (hB : G ≤ B0) (pp : Nat → Prop) : OwnFrom B0 (fun k W => ClOut w G W ∧ pp k) := fun k A B row h hg hr => by
  have hr2 := fun r e => (hr r e).2
  exact ⟨⟨box_grown h.1.r1 hg hr2, box_grown h.1.r2 hg hr2, below_grown h.1.below hw hg (fun r e => Nat.le_trans hB (hr r e).1)⟩, h.2⟩
/-- A store into a block that is none of these. -/
theorem ClRel.other {w : World} {G b : Nat} {ps : List (List UInt8)} {lg : Bool} {W : World} (h : ClRel w G b ps lg W) (B : Nat) (v : Value) (h1 : G + 1 + 1 + 1 < B) (h2 : B < b) : ClRel w G b ps lg (W.setCell ⟨B, 0, none⟩ v) := by
  obtain ⟨v0, h3, h4⟩ := h.row
  refine ⟨h.r1.other (by omega) _, h.r2.other (by omega) _, ⟨v0, h3.other (by omega) _, own_stays h4 (fun k hk => heap_setCell_other _ _ _ _ (by have := (h4.lt k hk).1; show k ≠ B; omega))⟩, h.long.other (by omega) _, h.below.setCell (p := ⟨B, 0, none⟩) (by show G ≤ B; omega) _, by simpa [World.setCell] using h.size⟩
theorem ClRel.lengthen {w : World} {G b : Nat} {ps : List (List UInt8)} {lg : Bool} {W : World} (h : ClRel w G b ps lg W) (hb : G + 1 + 1 + 1 < b) : Boxed W (G + 1 + 1 + 1) 4 (.bool lg) ∧ ClRel w G b ps true (W.setCell ⟨G + 1 + 1 + 1, 0, none⟩ (.bool true)) ∧ KeepsFrom b W (W.setCell ⟨G + 1 + 1 + 1, 0, none⟩ (.bool true)) := by
  obtain ⟨v0, h3, h4⟩ := h.row
  exact ⟨h.long, ⟨h.r1.other (by omega) _, h.r2.other (by omega) _, ⟨v0, h3.other (by omega) _, own_stays h4 (fun k hk => heap_setCell_other _ _ _ _ (by have := (h4.lt k hk).1; show k ≠ G + 1 + 1 + 1; omega))⟩, h.long.set _, h.below.setCell (p := ⟨_, 0, none⟩) (by show G ≤ G + 1 + 1 + 1; omega) _, by simpa [World.setCell] using h.size⟩, (KeepsOthers.setCell _ _ _).from _⟩
theorem ClRel.app {w : World} {G b : Nat} {ps : List (List UInt8)} {lg : Bool} {W : World} (h : ClRel w G b ps lg W) (hwG : G ≤ w.heap.size) (hb : G + 1 + 1 + 1 < b) {v : Value} (hv : Boxed W (G + 1 + 1) 31 v) (hrow : W.ownsRow b 9 1 v ps.length (sl ps)) (x : List UInt8) {tmp : Obj} {v' : Value} {w9 : World}
    (hown : w9.ownsRow b 9 1 v' (ps.length + 1) (sl ps ++ [.string (sb x)])) (hgr : (W.alloc tmp).grownBy w9 v.ownBlock) :
    Boxed w9 (G + 1 + 1) 31 v ∧ ClRel w G b (ps ++ [x]) lg (w9.setCell ⟨G + 1 + 1, 0, none⟩ v') ∧ KeepsFrom b W (w9.setCell ⟨G + 1 + 1, 0, none⟩ v') ∧ OnlyS (fun i => i = G + 1 + 1 ∨ b ≤ i) W (w9.setCell ⟨G + 1 + 1, 0, none⟩ v') := by
  have hkb : ∀ k, v.ownBlock = some k → b ≤ k := fun k hk => (hrow.lt k hk).1
  have hne : ∀ B, B < b → some B ≠ v.ownBlock := fun B hB e => by have := hkb B e.symm; omega
  have bx : ∀ {B : Nat} {t : TypeId} {u : Value}, Boxed W B t u → B < b → Boxed w9 B t u := fun hu hB => (hu.alloc tmp).kept hgr (hne _ hB)
  refine ⟨bx hv (by omega), ⟨(bx h.r1 (by omega)).other (by omega) _, (bx h.r2 (by omega)).other (by omega) _, ⟨v', (bx hv (by omega)).set _, ?_⟩, (bx h.long (by omega)).other (by omega) _, ?_, ?_⟩, ?_, ?_⟩
  · rw [sl_append, List.length_append]
    exact own_stays hown (fun k hk => heap_setCell_other _ _ _ _ (by have := (hown.lt k hk).1; show k ≠ G + 1 + 1; omega))
  · exact (((h.below.alloc (Nat.le_trans hwG h.below.size) tmp).grown hgr (Nat.le_trans hwG (Nat.le_trans h.below.size (by simp))) (fun k hk => by have := hkb k hk; omega)).setCell (p := ⟨G + 1 + 1, 0, none⟩) (by show G ≤ G + 1 + 1; omega) v')
  · have h1 := hgr.size
    have h2 := h.size
    simp only [World.size_alloc] at h1
    show b ≤ (w9.setCell _ _).heap.size
    simp only [World.setCell, Array.size_modify]
    omega
  · refine (((KeepsOthers.alloc W tmp).trans (KeepsOthers.of_grownBy hgr fun j o ej hj => ?_)).trans (KeepsOthers.setCell _ _ _)).from _
    rcases (hrow.alloc tmp).2 with ⟨rfl, _⟩ | ⟨g, cap, cur, rfl, _, hgb, _⟩
    · simp [Value.ownBlock] at ej
    · obtain rfl : g = j := by simpa [Value.ownBlock] using ej
      rw [hgb] at hj; cases hj; rfl
  · refine ((OnlyS.alloc (S := fun i => i = G + 1 + 1 ∨ b ≤ i) W tmp).trans (OnlyS.grown hgr (fun k hk => .inr (hkb k hk)))).trans (OnlyS.setCell _ _ _ _ (.inl rfl))
end Go.Proofs.YtgdnemjlmhmhhaaDoor
