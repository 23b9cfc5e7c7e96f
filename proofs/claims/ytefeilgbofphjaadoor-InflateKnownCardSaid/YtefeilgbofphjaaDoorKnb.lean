/-
  InflateKnown: its table in memory.
-/
import Derived.Test.YtefeilgbofphjaaDoorKna
import Derived.Test.YtefeilgbofphjaaDoorNeg
namespace Go.Proofs.YtefeilgbofphjaaDoor
open Go.RowKit Hf
/-- Rows of bytes, laid one behind the other. -/
def layB (w : World) : List (List UInt8) → World
  | [] => w
  | b :: bs => layB (w.alloc (.cells (bl b).toArray 5)) bs
theorem layB_only : ∀ (bs : List (List UInt8)) (w : World), OnlyS (fun _ => False) w (layB w bs) ∧ (layB w bs).heap.size = w.heap.size + bs.length
  | [], w => ⟨OnlyS.refl _ _, rfl⟩
  | b :: bs, w => by
    have h := layB_only bs (w.alloc (.cells (bl b).toArray 5))
    refine ⟨(OnlyS.alloc _ _).trans h.1, ?_⟩
    have h2 := h.2
    rw [layB, h2, List.length_cons]
    simp
    omega
theorem layB_at : ∀ (bs : List (List UInt8)) (w : World) (i : Nat) (b : List UInt8), bs[i]? = some b → SlV (layB w bs) (.slice (some ⟨w.heap.size + i, 0, none⟩) b.length b.length) (bl b)
  | [], w, i, b, h => by simp at h
  | c :: bs, w, 0, b, h => by
    obtain rfl : c = b := by simpa using h
    have hs := slv_lit w (bl c) 5
    rw [bl_length] at hs
    exact hs.only (layB_only bs _).1 (fun _ _ _ _ _ h => h)
  | c :: bs, w, i + 1, b, h => by
    have h2 := layB_at bs (w.alloc (.cells (bl c).toArray 5)) i b (by simpa using h)
    have e : (w.alloc (.cells (bl c).toArray 5)).heap.size + i = w.heap.size + (i + 1) := by simp; omega
    rw [e] at h2
    exact h2
def ten : List (List UInt8) := [[7], [1], [1, 1, 0, 0, 0], [1, 1, 0, 254, 255], [3], [253, 255], [245, 255, 255], [5, 254, 0, 0], [3, 2], [99, 4, 66, 0]]
def sl5 (g n : Nat) : Value := .slice (some ⟨g, 0, none⟩) n n
def tbl (s : Nat) : Array Value := #[.slice none 0 0, .int .i64 4, sl5 s 1, .int .i64 20, sl5 (s + 1) 1, .int .i64 4, sl5 (s + 1 + 1) 5, .int .i64 20, sl5 (s + 1 + 1 + 1) 5, .int .i64 4, sl5 (s + 1 + 1 + 1 + 1) 1, .int .i64 4, sl5 (s + 1 + 1 + 1 + 1 + 1) 2, .int .i64 4, sl5 (s + 1 + 1 + 1 + 1 + 1 + 1) 3, .int .i64 20, sl5 (s + 1 + 1 + 1 + 1 + 1 + 1 + 1) 4, .int .i64 20, sl5 (s + 1 + 1 + 1 + 1 + 1 + 1 + 1 + 1) 2, .int .i64 20, sl5 (s + 1 + 1 + 1 + 1 + 1 + 1 + 1 + 1 + 1) 4, .int .i64 20]
def tblW (w : World) : World := (layB w ten).alloc (.cells (tbl w.heap.size) 41)
theorem tblW_only (w : World) : OnlyS (fun _ => False) w (tblW w) := (layB_only ten w).1.trans (OnlyS.alloc _ _)
theorem tbl_at (w : World) (i : Nat) (hi : i < 11) : ∃ p n c, (tblW w).cell? ⟨w.heap.size + 10, i * 2, none⟩ = some (.slice p n c) ∧ (tblW w).cell? ⟨w.heap.size + 10, i * 2 + 1, none⟩ = some (.int .i64 (eleven.getD i ([], 0)).2) ∧ SlV (tblW w) (.slice p n c) (bl (eleven.getD i ([], 0)).1) := by
  have hrow : (tblW w).heap[w.heap.size + 10]? = some (.cells (tbl w.heap.size) 41 (0, 0)) := by
    have h := heap_alloc_new (layB w ten) (.cells (tbl w.heap.size) 41)
    rw [(layB_only ten w).2] at h
    exact h
  have hsl : ∀ (j : Nat) (b : List UInt8), ten[j]? = some b → SlV (tblW w) (.slice (some ⟨w.heap.size + j, 0, none⟩) b.length b.length) (bl b) := fun j b h => (layB_at ten w j b h).only (OnlyS.alloc (S := fun _ => False) _ _) (fun _ _ _ _ _ h => h)
  rcases (by omega : i = 0 ∨ i = 1 ∨ i = 2 ∨ i = 3 ∨ i = 4 ∨ i = 5 ∨ i = 6 ∨ i = 7 ∨ i = 8 ∨ i = 9 ∨ i = 10) with rfl | rfl | rfl | rfl | rfl | rfl | rfl | rfl | rfl | rfl | rfl
  · exact ⟨none, 0, 0, (cell_of_row _ _ 0 _ _ _ hrow), (cell_of_row _ _ 1 _ _ _ hrow), .inr ⟨none, rfl, rfl⟩⟩
  · exact ⟨_, _, _, (cell_of_row _ _ 2 _ _ _ hrow), (cell_of_row _ _ 3 _ _ _ hrow), hsl 0 _ rfl⟩
  · exact ⟨_, _, _, (cell_of_row _ _ 4 _ _ _ hrow), (cell_of_row _ _ 5 _ _ _ hrow), hsl 1 _ rfl⟩
  · exact ⟨_, _, _, (cell_of_row _ _ 6 _ _ _ hrow), (cell_of_row _ _ 7 _ _ _ hrow), hsl 2 _ rfl⟩
  · exact ⟨_, _, _, (cell_of_row _ _ 8 _ _ _ hrow), (cell_of_row _ _ 9 _ _ _ hrow), hsl 3 _ rfl⟩
  · exact ⟨_, _, _, (cell_of_row _ _ 10 _ _ _ hrow), (cell_of_row _ _ 11 _ _ _ hrow), hsl 4 _ rfl⟩
  · exact ⟨_, _, _, (cell_of_row _ _ 12 _ _ _ hrow), (cell_of_row _ _ 13 _ _ _ hrow), hsl 5 _ rfl⟩
  · exact ⟨_, _, _, (cell_of_row _ _ 14 _ _ _ hrow), (cell_of_row _ _ 15 _ _ _ hrow), hsl 6 _ rfl⟩
  · exact ⟨_, _, _, (cell_of_row _ _ 16 _ _ _ hrow), (cell_of_row _ _ 17 _ _ _ hrow), hsl 7 _ rfl⟩
  · exact ⟨_, _, _, (cell_of_row _ _ 18 _ _ _ hrow), (cell_of_row _ _ 19 _ _ _ hrow), hsl 8 _ rfl⟩
  · exact ⟨_, _, _, (cell_of_row _ _ 20 _ _ _ hrow), (cell_of_row _ _ 21 _ _ _ hrow), hsl 9 _ rfl⟩
end Go.Proofs.YtefeilgbofphjaaDoor
