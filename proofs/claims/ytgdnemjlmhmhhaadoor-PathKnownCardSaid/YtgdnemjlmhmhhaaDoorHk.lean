/-
  The map of the last names; lastClass.
-/
import Derived.Test.YtgdnemjlmhmhhaaDoorHu
import Derived.MapKept
namespace Go.Proofs.YtgdnemjlmhmhhaaDoor
open Go.RowKit Go.Maps

def opqE : MapEntry := { key := .string (sb Pt.opq), val := .int .i64 3, born := 0 }
def tocE : MapEntry := { key := .string (sb Pt.toc), val := .int .i64 4, born := 1 }
/-- The world with the map of the last names. -/
def namesW (w : World) : World := w.alloc (.map #[opqE, tocE] 2)
theorem run_set_new (w : World) (es : Array MapEntry) (c : Nat) (o : Obj) : (setObj w.heap.size o).run Tryd.prog (w.alloc (.map es c)) = .ok () (w.alloc o) := by
  rw [Go.MapKept.run_setObj_map o (heap_alloc_new w (.map es c))]
  congr 1
  have : (w.alloc (.map es c)).heap.setIfInBounds w.heap.size o = (w.alloc o).heap := by
    show (w.heap.push (.map es c)).setIfInBounds w.heap.size o = w.heap.push o
    apply Array.ext'
    rw [Array.toList_setIfInBounds, Array.toList_push, Array.toList_push, List.set_append_right _ _ (by simp)]
    simp
  rw [this]; rfl
theorem ins1 (w : World) : (Instr.mapUpdate 70 (.map (some w.heap.size)) (.string ⟨#[46, 119, 104, 46, 46, 119, 104, 46, 46, 111, 112, 113]⟩) (.int .i64 3)).run Tryd.prog (w.alloc (.map #[] 0)) = .ok () (w.alloc (.map #[opqE] 1)) := by
  have h1 := Go.MapKept.run_getObj_map (P := Tryd.prog) (heap_alloc_new w (.map #[] 0))
  have h2 := Go.MapKept.run_checkKey (P := Tryd.prog) (w := w.alloc (.map #[] 0)) (kt := 9) (k := .string ⟨#[46, 119, 104, 46, 46, 119, 104, 46, 46, 111, 112, 113]⟩) Tryd.underlying9 (by trivial) false 9999
  have h3 := Go.MapKept.run_findKey (P := Tryd.prog) (w := w.alloc (.map #[] 0)) (kt := 9) (k := .string ⟨#[46, 119, 104, 46, 46, 119, 104, 46, 46, 111, 112, 113]⟩) (l := []) (a := none) Tryd.underlying9 rfl
  have h4 := run_set_new w #[] 0 (.map #[opqE] 1)
  unfold Instr.mapUpdate
  simp only [Sem.run_bind, run_underlying Tryd.underlying70, Result.andThen, h1, h2, h3]
  exact h4
theorem ins2 (w : World) : (Instr.mapUpdate 70 (.map (some w.heap.size)) (.string ⟨#[46, 119, 104, 46, 46, 119, 104, 46, 116, 111, 99]⟩) (.int .i64 4)).run Tryd.prog (w.alloc (.map #[opqE] 1)) = .ok () (namesW w) := by
  have h1 := Go.MapKept.run_getObj_map (P := Tryd.prog) (heap_alloc_new w (.map #[opqE] 1))
  have h2 := Go.MapKept.run_checkKey (P := Tryd.prog) (w := w.alloc (.map #[opqE] 1)) (kt := 9) (k := .string ⟨#[46, 119, 104, 46, 46, 119, 104, 46, 116, 111, 99]⟩) Tryd.underlying9 (by trivial) false 9999
  have h3 := Go.MapKept.run_findKey (P := Tryd.prog) (w := w.alloc (.map #[opqE] 1)) (kt := 9) (k := .string ⟨#[46, 119, 104, 46, 46, 119, 104, 46, 116, 111, 99]⟩) (l := [opqE]) (a := none) Tryd.underlying9 (by kernel_rfl)
  have h4 := run_set_new w #[opqE] 1 (.map #[opqE, tocE] 2)
  unfold Instr.mapUpdate
  simp only [Sem.run_bind, run_underlying Tryd.underlying70, Result.andThen, h1, h2, h3]
  exact h4
theorem names_at (w : World) : (namesW w).heap[w.heap.size]? = some (.map #[opqE, tocE] 2) := heap_alloc_new w _
theorem names_below (w : World) : Below w.heap.size w (namesW w) := (Below.refl _ _).alloc (Nat.le_refl _) _
theorem mk_map (w : World) : (Instr.makeMap 70 none).run Tryd.prog w = .ok (.map (some w.heap.size)) (w.alloc (.map #[] 0)) := by
  unfold Instr.makeMap
  simp only [Sem.run_bind, Sem.run_pure, run_newObj_alloc, Result.andThen]
set_option maxHeartbeats 1000000 in
theorem lastNames_walk (w : World) : Calls Tryd.prog 61 #[] w fun e w' => e = .returned (.map (some w.heap.size)) ∧ w' = namesW w := by
  have h1 := mk_map w
  have h2 := ins1 w
  have h3 := ins2 w
  go_enter Tryd.func61, Tryd.ntmps61
  go_wp2_with fail
  go_ret
  exact ⟨rfl, rfl⟩
theorem sb_eq (a b : List UInt8) : (sb a == sb b) = decide (a = b) := by
  have e : (sb a == sb b) = ((sb a).data == (sb b).data) := rfl
  rw [e]
  by_cases h : a = b
  · subst h; rw [decide_eq_true rfl]; exact beq_self_eq_true _
  · rw [decide_eq_false h]
    exact beq_eq_false_iff_ne.2 (fun e => h (by have := congrArg Array.toList e; exact this))
theorem find_names (l : List UInt8) : Instr.findNow .string (.string (sb l)) [opqE, tocE] 0 = some (if l = Pt.opq then some (0, .int .i64 3) else if l = Pt.toc then some (1, .int .i64 4) else none) := by
  unfold Instr.findNow
  have e1 : Instr.sameNow .string (.string (sb l)) opqE.key = some (decide (l = Pt.opq)) := by
    show some (sb l == sb Pt.opq) = _
    rw [sb_eq]
  have e2 : Instr.sameNow .string (.string (sb l)) tocE.key = some (decide (l = Pt.toc)) := by
    show some (sb l == sb Pt.toc) = _
    rw [sb_eq]
  rw [e1]
  by_cases h1 : l = Pt.opq
  · rw [decide_eq_true h1, if_pos h1]; rfl
  · rw [decide_eq_false h1, if_neg h1]
    show Instr.findNow .string (.string (sb l)) [tocE] 1 = _
    unfold Instr.findNow
    rw [e2]
    by_cases h2 : l = Pt.toc
    · rw [decide_eq_true h2, if_pos h2]; rfl
    · rw [decide_eq_false h2, if_neg h2]; rfl
def lookV (l : List UInt8) : Int := if l = Pt.opq then 3 else if l = Pt.toc then 4 else 0
def lookB (l : List UInt8) : Bool := decide (l = Pt.opq) || decide (l = Pt.toc)
theorem look_names (w : World) (l : List UInt8) : (Instr.lookup 70 (.map (some w.heap.size)) (.string (sb l)) true).run Tryd.prog (namesW w) = .ok (.tuple #[.int .i64 (lookV l), .bool (lookB l)]) (namesW w) := by
  have h1 := Go.MapKept.run_getObj_map (P := Tryd.prog) (names_at w)
  have h2 := Go.MapKept.run_checkKey (P := Tryd.prog) (w := namesW w) (kt := 9) (k := .string (sb l)) Tryd.underlying9 (by trivial) false 9999
  have h3 := Go.MapKept.run_findKey (P := Tryd.prog) (w := namesW w) (kt := 9) (k := .string (sb l)) (l := [opqE, tocE]) Tryd.underlying9 (find_names l)
  unfold Instr.lookup lookV lookB
  have hz : ∀ w, (zeroValue 3).run Tryd.prog w = .ok (.int .i64 0) w := Tryd.zeroValue3
  by_cases c1 : l = Pt.opq
  · rw [if_pos c1] at h3 ⊢
    rw [decide_eq_true c1]
    simp only [Sem.run_bind, run_underlying Tryd.underlying70, Result.andThen, h1, Sem.run_pure, show (#[opqE, tocE] : Array MapEntry).isEmpty = false from rfl, h2, h3]
    rfl
  · rw [if_neg c1] at h3 ⊢
    rw [decide_eq_false c1]
    by_cases c2 : l = Pt.toc
    · rw [if_pos c2] at h3 ⊢
      rw [decide_eq_true c2]
      simp only [Sem.run_bind, run_underlying Tryd.underlying70, Result.andThen, h1, Sem.run_pure, show (#[opqE, tocE] : Array MapEntry).isEmpty = false from rfl, h2, h3]
      rfl
    · rw [if_neg c2] at h3 ⊢
      rw [decide_eq_false c2]
      simp only [Sem.run_bind, run_underlying Tryd.underlying70, Result.andThen, h1, Sem.run_pure, show (#[opqE, tocE] : Array MapEntry).isEmpty = false from rfl, h2, h3, hz]
      rfl
set_option maxRecDepth 100000 in
set_option maxHeartbeats 1000000 in
theorem lastClass_walk (l : List UInt8) (w : World) : Calls Tryd.prog 41 #[.string (sb l)] w fun e w' => e = .returned (.int .i64 (Pt.lastC l)) ∧ Below w.heap.size w w' := by
  have HN := Lib.hid (lastNames_walk w)
  have hk := look_names w l
  have HP := Lib.hid (hp_walk (sb l) ⟨#[46, 119, 104, 46]⟩ (namesW w))
  rw [sb_data, show (⟨#[46, 119, 104, 46]⟩ : ByteArray).data.toList = Pt.wh from rfl] at HP
  have HB := Lib.hid (names_below w)
  unfold Pt.lastC
  unfold lookV lookB at hk
  by_cases c1 : l = Pt.opq
  · rw [if_pos c1]
    rw [if_pos c1, decide_eq_true c1] at hk
    have hk2 : (Instr.lookup 70 (.map (some w.heap.size)) (.string (sb l)) true).run Tryd.prog (namesW w) = .ok (.tuple #[.int .i64 3, .bool true]) (namesW w) := hk
    clear hk c1
    generalize sb l = b at *
    go_enter Tryd.func41, Tryd.ntmps41
    go_wp2_with (first
      | ((with_reducible refine HN.out.mono ?_); rintro e w' ⟨rfl, hw⟩; rw [hw]; clear hw)
      | ((with_reducible refine HP.out.mono ?_); rintro e w' ⟨rfl, hw⟩; rw [hw]; clear hw))
    go_ret
    exact ⟨rfl, HB.out⟩
  · rw [if_neg c1]
    rw [if_neg c1, decide_eq_false c1] at hk
    by_cases c2 : l = Pt.toc
    · rw [if_pos c2]
      rw [if_pos c2, decide_eq_true c2] at hk
      have hk2 : (Instr.lookup 70 (.map (some w.heap.size)) (.string (sb l)) true).run Tryd.prog (namesW w) = .ok (.tuple #[.int .i64 4, .bool true]) (namesW w) := hk
      clear hk c1 c2
      generalize sb l = b at *
      go_enter Tryd.func41, Tryd.ntmps41
      go_wp2_with (first
        | ((with_reducible refine HN.out.mono ?_); rintro e w' ⟨rfl, hw⟩; rw [hw]; clear hw)
        | ((with_reducible refine HP.out.mono ?_); rintro e w' ⟨rfl, hw⟩; rw [hw]; clear hw))
      go_ret
      exact ⟨rfl, HB.out⟩
    · rw [if_neg c2]
      rw [if_neg c2, decide_eq_false c2] at hk
      have hk2 : (Instr.lookup 70 (.map (some w.heap.size)) (.string (sb l)) true).run Tryd.prog (namesW w) = .ok (.tuple #[.int .i64 0, .bool false]) (namesW w) := hk
      clear hk c1 c2
      generalize sb l = b at *
      generalize Pt.wh.isPrefixOf l = A at *
      cases A
      · go_enter Tryd.func41, Tryd.ntmps41
        go_wp2_with (first
          | ((with_reducible refine HN.out.mono ?_); rintro e w' ⟨rfl, hw⟩; rw [hw]; clear hw)
          | ((with_reducible refine HP.out.mono ?_); rintro e w' ⟨rfl, hw⟩; rw [hw]; clear hw))
        go_ret
        exact ⟨rfl, HB.out⟩
      · go_enter Tryd.func41, Tryd.ntmps41
        go_wp2_with (first
          | ((with_reducible refine HN.out.mono ?_); rintro e w' ⟨rfl, hw⟩; rw [hw]; clear hw)
          | ((with_reducible refine HP.out.mono ?_); rintro e w' ⟨rfl, hw⟩; rw [hw]; clear hw))
        go_ret
        exact ⟨rfl, HB.out⟩
end Go.Proofs.YtgdnemjlmhmhhaaDoor
