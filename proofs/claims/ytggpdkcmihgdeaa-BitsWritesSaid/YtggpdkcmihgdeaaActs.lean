/-
  Acts that came in.
-/
import Derived.Test.YtggpdkcmihgdeaaMem
namespace Go.Proofs.Ytggpdkcmihgdeaa
open Go.RowKit Bt

/-- An act: what, how many, the number, the bytes' value and bytes. -/
abbrev A := Int × Int × Nat × Value × List UInt8
/-- Acts that came in. -/
def AsAt (w : World) (v : Value) (acts : List A) : Prop :=
  (∃ g o cap, v = .slice (some ⟨g, o, none⟩) acts.length cap ∧ acts.length ≤ cap ∧ ∀ i x, acts[i]? = some x → x.2.2.1 < 18446744073709551616 ∧ w.cell? ⟨g, o + i * 4, none⟩ = some (.int .i64 x.1) ∧ w.cell? ⟨g, o + i * 4 + 1, none⟩ = some (.int .i64 x.2.1) ∧
    w.cell? ⟨g, o + i * 4 + 2, none⟩ = some (.int .u64 (x.2.2.1 : Nat)) ∧ w.cell? ⟨g, o + i * 4 + 3, none⟩ = some x.2.2.2.1 ∧ SlW w x.2.2.2.1 x.2.2.2.2) ∨ (v = .slice none 0 0 ∧ acts = [])
theorem AsAt.below {w w' : World} {v : Value} {acts : List A} (h : AsAt w v acts) (hb : Below w.heap.size w w') : AsAt w' v acts := by
  rcases h with ⟨g, o, cap, h1, h2, h3⟩ | h
  · refine .inl ⟨g, o, cap, h1, h2, fun i x hx => ?_⟩
    obtain ⟨e0, e1, e2, e3, e4, e5⟩ := h3 i x hx
    exact ⟨e0, (hb.cell (p := ⟨g, o + i * 4, none⟩) (block_lt_of_cell e1)).trans e1, (hb.cell (p := ⟨g, o + i * 4 + 1, none⟩) (block_lt_of_cell e2)).trans e2,
      (hb.cell (p := ⟨g, o + i * 4 + 2, none⟩) (block_lt_of_cell e3)).trans e3, (hb.cell (p := ⟨g, o + i * 4 + 3, none⟩) (block_lt_of_cell e4)).trans e4, e5.below hb (Nat.le_refl _)⟩
  · exact .inr h
theorem AsAt.sl {w : World} {v : Value} {acts : List A} (h : AsAt w v acts) (i : Nat) (x : A) (hx : acts[i]? = some x) : SlW w x.2.2.2.1 x.2.2.2.2 := by
  rcases h with ⟨g, o, cap, h1, h2, h3⟩ | ⟨h1, rfl⟩
  · exact (h3 i x hx).2.2.2.2.2
  · simp at hx
end Go.Proofs.Ytggpdkcmihgdeaa
