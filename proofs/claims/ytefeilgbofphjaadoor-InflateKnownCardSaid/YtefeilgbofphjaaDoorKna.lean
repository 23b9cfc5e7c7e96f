/-
  InflateKnown: the small streams.
-/
import Derived.Test.YtefeilgbofphjaaDoorMg24
import Derived.Test.YtefeilgbofphjaaDoorMg24
namespace Go.Proofs.YtefeilgbofphjaaDoor
open Go.RowKit Hf
/-- The rows of streams that are refused, with their errors. -/
def eleven : List (List UInt8 × Int) := [([], 4), ([7], 20), ([1], 4), ([1, 1, 0, 0, 0], 20), ([1, 1, 0, 254, 255], 4), ([3], 4), ([253, 255], 4), ([245, 255, 255], 20), ([5, 254, 0, 0], 20), ([3, 2], 20), ([99, 4, 66, 0], 20)]
theorem eleven_er : eleven.all (fun x => erIs x.1 100 x.2) = true := by kernel_rfl
theorem eleven_at (i : Nat) (h : i < 11) : Inf.all (eleven.getD i ([], 0)).1 100 = .error (eleven.getD i ([], 0)).2 := by
  have h1 := List.all_eq_true.1 eleven_er (eleven.getD i ([], 0)) (by
    have hl : i < eleven.length := h
    rw [List.getD_eq_getElem?_getD, List.getElem?_eq_getElem hl]
    exact List.getElem_mem hl)
  exact erIs_out h1
theorem k_22a : erIs [1, 2, 0, 253, 255, 97, 98] 1 22 = true := by kernel_rfl
theorem k_4 : erIs [1, 2, 0, 253, 255, 97] 1 4 = true := by kernel_rfl
theorem k_22b : erIs [1, 3, 0, 252, 255, 97, 98] 1 22 = true := by kernel_rfl
/-- The four parts. -/
def four : List Prt := [⟨2, .slice none 0 0, .slice none 0 0, [97, 98], [(255, 1), (254, 0), (0, 7), (100, 400)]⟩, ⟨1, .slice none 0 0, .slice none 0 0, [], [(255, 600)]⟩, nop, ⟨2, .slice none 0 0, .slice none 0 0, [], []⟩]
theorem four_ol : ol four 1 = 623 ∧ ol four 2 = 881 ∧ ol four 4 = 881 := by decide
end Go.Proofs.YtefeilgbofphjaaDoor
