/-
  A cap below nothing.
-/
import Derived.Test.YtefeilgbofphjaaDoorMg24
namespace Go.Proofs.YtefeilgbofphjaaDoor
open Go.RowKit Hf
set_option maxRecDepth 100000 in
set_option maxHeartbeats 2000000 in
theorem expanded_neg (w : World) (p : Option Addr) (n c : Nat) (most : Int) (hm : most < 0) (fv : Value) :
    Calls Tryd.prog 19 #[.slice p n c, .int .i64 most, fv] w fun e w' => e = .returned (.tuple #[.pointer none, .int .i64 1]) ∧ OnlyS (fun _ => False) w w' := by
  have hdm : decide (most < 0) = true := decide_eq_true hm
  go_enter_defers Tryd.func19, Tryd.ntmps19
  go_wp2_with fail
  obtain ⟨wa, hwa⟩ : ∃ wa, wa = w.alloc (.cells #[.pointer none] 61) := ⟨_, rfl⟩
  have hza : wa.heap.size = w.heap.size + 1 := by rw [hwa]; simp
  obtain ⟨wb, hwb⟩ : ∃ wb, wb = wa.alloc (.cells #[.int .i64 1] 26) := ⟨_, rfl⟩
  have h6 : wb.heap[w.heap.size]? = some (.cells #[.pointer none] 61 (0, 0)) := by
    rw [hwb]
    refine ((OnlyS.alloc (S := fun _ => False) wa (.cells #[.int .i64 1] 26)).block _ (by omega) (fun h => h)).trans ?_
    rw [hwa]; exact heap_alloc_new w _
  have h7 : wb.heap[w.heap.size + 1]? = some (.cells #[.int .i64 1] 26 (0, 0)) := by
    rw [hwb, ← hza]; exact heap_alloc_new wa _
  have c6' : wb.cell? ⟨w.heap.size, 0, none⟩ = some (.pointer none) := cell_of_row _ _ 0 _ _ _ h6
  have c7' : wb.cell? ⟨w.heap.size + 1, 0, none⟩ = some (.int .i64 1) := cell_of_row _ _ 0 _ _ _ h7
  have ho : OnlyS (fun _ => False) w wb := by rw [hwb, hwa]; exact (OnlyS.alloc _ _).trans (OnlyS.alloc _ _)
  rw [← hwa, ← hwb]
  simp [bodyPostD, Leaves, results, Tryd.results19, go_sem, c6', c7']
  exact ho
set_option maxRecDepth 100000 in
set_option maxHeartbeats 2000000 in
theorem all_neg (w : World) (p : Option Addr) (n c : Nat) (most : Int) (hm : most < 0) : Calls Tryd.prog 7 #[.slice p n c, .int .i64 most] w (GotEr w 1) := by
  have HE := Lib.hid (expanded_neg w p n c most hm)
  clear hm
  go_enter Tryd.func7, Tryd.ntmps7
  go_wp2_with fail
  refine (HE.out _).mono ?_
  rintro e w1 ⟨rfl, ho⟩
  have HO := Lib.hid ho
  clear ho
  go_wp2_with fail
  refine bodyPost_ret (results_tmp3 rfl _ _ _) rfl ?_
  exact ⟨HO.out, rfl⟩
end Go.Proofs.YtefeilgbofphjaaDoor
