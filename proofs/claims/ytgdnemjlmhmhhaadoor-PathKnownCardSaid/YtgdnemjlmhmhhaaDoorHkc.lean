/-
  The law of what is known: PathKnown.
-/
import Derived.Test.YtgdnemjlmhmhhaaDoorHkb
import Derived.Maps.Range
import Derived.Test.YtgdnemjlmhmhhaaDoorHxb
import Derived.Test.YtgdnemjlmhmhhaaDoorHq
namespace Go.Proofs.YtgdnemjlmhmhhaaDoor
open Go.RowKit Go.Maps Inv
def t9L : List UInt8 := [97, 47, 46, 119, 104, 46] ++ nnL
def t10L : List UInt8 := t9L ++ [110]
def g9L : List UInt8 := [97, 47] ++ nnL
def dpL : List UInt8 := Lib.repeatL [100, 47] 253
def deL : List UInt8 := dpL ++ [100]
def de1L : List UInt8 := deL ++ [47, 100]
def w2L : List UInt8 := w1L ++ [47]
def w6L : List UInt8 := Lib.repeatL w2L 16
def wwL : List UInt8 := w6L ++ w4L
def ww1L : List UInt8 := wwL ++ [119]
def clL : List UInt8 := Pt.cleanP a2L

set_option maxRecDepth 100000 in
set_option maxHeartbeats 16000000 in
theorem known_walk (w : World) : Calls Tryd.prog 7 #[] w (WakePost w) := by
  unfold WakePost
  have HB : Hid (Below w.heap.size w w) := Lib.hid (Below.refl _ _)
  have HR1 : Hid (∀ w1, Below w.heap.size w w1 → Calls Tryd.prog 37 #[.string ⟨#[110]⟩, .int .i64 251] w1 fun e w' => e = .returned (.string (sb nnL)) ∧ Below w.heap.size w w') := Lib.hid (fun w1 hb => by
    have h := rep_walk ⟨#[110]⟩ nnL 251 251 rfl (by decide) (of_decide_eq_true (by kernel_rfl)) (by kernel_rfl) w1
    exact h.mono fun _ _ ⟨h1, h2⟩ => ⟨h1, hb.trans (h2.mono hb.size)⟩)
  have HR2 : Hid (∀ w1, Below w.heap.size w w1 → Calls Tryd.prog 37 #[.string ⟨#[100, 47]⟩, .int .i64 253] w1 fun e w' => e = .returned (.string (sb dpL)) ∧ Below w.heap.size w w') := Lib.hid (fun w1 hb => by
    have h := rep_walk ⟨#[100, 47]⟩ dpL 253 253 rfl (by decide) (of_decide_eq_true (by kernel_rfl)) (by kernel_rfl) w1
    exact h.mono fun _ _ ⟨h1, h2⟩ => ⟨h1, hb.trans (h2.mono hb.size)⟩)
  have HR3 : Hid (∀ w1, Below w.heap.size w w1 → Calls Tryd.prog 37 #[.string ⟨#[119]⟩, .int .i64 249] w1 fun e w' => e = .returned (.string (sb w1L)) ∧ Below w.heap.size w w') := Lib.hid (fun w1 hb => by
    have h := rep_walk ⟨#[119]⟩ w1L 249 249 rfl (by decide) (of_decide_eq_true (by kernel_rfl)) (by kernel_rfl) w1
    exact h.mono fun _ _ ⟨h1, h2⟩ => ⟨h1, hb.trans (h2.mono hb.size)⟩)
  have HR4 : Hid (∀ w1, Below w.heap.size w w1 → Calls Tryd.prog 37 #[.string (sb w2L), .int .i64 16] w1 fun e w' => e = .returned (.string (sb w6L)) ∧ Below w.heap.size w w') := Lib.hid (fun w1 hb => by
    have h := rep_walk (sb w2L) w6L 16 16 rfl (by decide) (of_decide_eq_true (by kernel_rfl)) (by kernel_rfl) w1
    exact h.mono fun _ _ ⟨h1, h2⟩ => ⟨h1, hb.trans (h2.mono hb.size)⟩)
  have HR5 : Hid (∀ w1, Below w.heap.size w w1 → Calls Tryd.prog 37 #[.string ⟨#[119]⟩, .int .i64 80] w1 fun e w' => e = .returned (.string (sb w4L)) ∧ Below w.heap.size w w') := Lib.hid (fun w1 hb => by
    have h := rep_walk ⟨#[119]⟩ w4L 80 80 rfl (by decide) (of_decide_eq_true (by kernel_rfl)) (by kernel_rfl) w1
    exact h.mono fun _ _ ⟨h1, h2⟩ => ⟨h1, hb.trans (h2.mono hb.size)⟩)
  have HR6 : Hid (∀ w1, Below w.heap.size w w1 → Calls Tryd.prog 37 #[.string ⟨#[120]⟩, .int .i64 256] w1 fun e w' => e = .returned (.string (sb xxL)) ∧ Below w.heap.size w w') := Lib.hid (fun w1 hb => by
    have h := rep_walk ⟨#[120]⟩ xxL 256 256 rfl (by decide) (of_decide_eq_true (by kernel_rfl)) (by kernel_rfl) w1
    exact h.mono fun _ _ ⟨h1, h2⟩ => ⟨h1, hb.trans (h2.mono hb.size)⟩)
  have HR7 : Hid (∀ w1, Below w.heap.size w w1 → Calls Tryd.prog 37 #[.string ⟨#[97, 47]⟩, .int .i64 256] w1 fun e w' => e = .returned (.string (sb a1L)) ∧ Below w.heap.size w w') := Lib.hid (fun w1 hb => by
    have h := rep_walk ⟨#[97, 47]⟩ a1L 256 256 rfl (by decide) (of_decide_eq_true (by kernel_rfl)) (by kernel_rfl) w1
    exact h.mono fun _ _ ⟨h1, h2⟩ => ⟨h1, hb.trans (h2.mono hb.size)⟩)
  have HR8 : Hid (∀ w1, Below w.heap.size w w1 → Calls Tryd.prog 37 #[.string ⟨#[97, 47]⟩, .int .i64 255] w1 fun e w' => e = .returned (.string (sb a2L)) ∧ Below w.heap.size w w') := Lib.hid (fun w1 hb => by
    have h := rep_walk ⟨#[97, 47]⟩ a2L 255 255 rfl (by decide) (of_decide_eq_true (by kernel_rfl)) (by kernel_rfl) w1
    exact h.mono fun _ _ ⟨h1, h2⟩ => ⟨h1, hb.trans (h2.mono hb.size)⟩)
  have HC1 : Hid (∀ w1, Below w.heap.size w w1 → Calls Tryd.prog 10 #[.string (sb t9L)] w1 fun e w' => e = .returned (.tuple #[.int .i64 2, .string (sb g9L)]) ∧ Below w.heap.size w w') := Lib.hid (fun w1 hb => by
    have h := class_walk t9L (of_decide_eq_true (by kernel_rfl)) w1
    unfold ClassPost at h
    rw [show Pt.cls t9L = 2 by kernel_rfl, show Pt.tgt t9L = g9L by kernel_rfl] at h
    exact h.mono fun _ _ ⟨h1, h2⟩ => ⟨h1, hb.trans (h2.mono hb.size)⟩)
  have HC2 : Hid (∀ w1, Below w.heap.size w w1 → Calls Tryd.prog 10 #[.string (sb t10L)] w1 fun e w' => e = .returned (.tuple #[.int .i64 0, .string ⟨#[]⟩]) ∧ Below w.heap.size w w') := Lib.hid (fun w1 hb => by
    have h := class_walk t10L (of_decide_eq_true (by kernel_rfl)) w1
    unfold ClassPost at h
    rw [show Pt.cls t10L = 0 by kernel_rfl, show Pt.tgt t10L = [] by kernel_rfl] at h
    exact h.mono fun _ _ ⟨h1, h2⟩ => ⟨h1, hb.trans (h2.mono hb.size)⟩)
  have HC3 : Hid (∀ w1, Below w.heap.size w w1 → Calls Tryd.prog 10 #[.string ⟨#[47, 46, 119, 104, 46, 46, 119, 104, 46, 46, 111, 112, 113]⟩] w1 fun e w' => e = .returned (.tuple #[.int .i64 0, .string ⟨#[]⟩]) ∧ Below w.heap.size w w') := Lib.hid (fun w1 hb => by
    have h := class_walk [47, 46, 119, 104, 46, 46, 119, 104, 46, 46, 111, 112, 113] (of_decide_eq_true (by kernel_rfl)) w1
    unfold ClassPost at h
    rw [show Pt.cls [47, 46, 119, 104, 46, 46, 119, 104, 46, 46, 111, 112, 113] = 0 by kernel_rfl, show Pt.tgt [47, 46, 119, 104, 46, 46, 119, 104, 46, 46, 111, 112, 113] = [] by kernel_rfl] at h
    exact h.mono fun _ _ ⟨h1, h2⟩ => ⟨h1, hb.trans (h2.mono hb.size)⟩)
  have HC4 : Hid (∀ w1, Below w.heap.size w w1 → Calls Tryd.prog 10 #[.string ⟨#[]⟩] w1 fun e w' => e = .returned (.tuple #[.int .i64 0, .string ⟨#[]⟩]) ∧ Below w.heap.size w w') := Lib.hid (fun w1 hb => by
    have h := class_walk [] (of_decide_eq_true (by kernel_rfl)) w1
    unfold ClassPost at h
    rw [show Pt.cls [] = 0 by kernel_rfl, show Pt.tgt [] = [] by kernel_rfl] at h
    exact h.mono fun _ _ ⟨h1, h2⟩ => ⟨h1, hb.trans (h2.mono hb.size)⟩)
  have HC5 : Hid (∀ w1, Below w.heap.size w w1 → Calls Tryd.prog 10 #[.string ⟨#[46, 119, 104, 46, 46, 119, 104, 46, 116, 111, 99]⟩] w1 fun e w' => e = .returned (.tuple #[.int .i64 4, .string ⟨#[]⟩]) ∧ Below w.heap.size w w') := Lib.hid (fun w1 hb => by
    have h := class_walk [46, 119, 104, 46, 46, 119, 104, 46, 116, 111, 99] (of_decide_eq_true (by kernel_rfl)) w1
    unfold ClassPost at h
    rw [show Pt.cls [46, 119, 104, 46, 46, 119, 104, 46, 116, 111, 99] = 4 by kernel_rfl, show Pt.tgt [46, 119, 104, 46, 46, 119, 104, 46, 116, 111, 99] = [] by kernel_rfl] at h
    exact h.mono fun _ _ ⟨h1, h2⟩ => ⟨h1, hb.trans (h2.mono hb.size)⟩)
  have HC6 : Hid (∀ w1, Below w.heap.size w w1 → Calls Tryd.prog 10 #[.string ⟨#[46, 119, 104, 46, 120, 47, 121]⟩] w1 fun e w' => e = .returned (.tuple #[.int .i64 0, .string ⟨#[]⟩]) ∧ Below w.heap.size w w') := Lib.hid (fun w1 hb => by
    have h := class_walk [46, 119, 104, 46, 120, 47, 121] (of_decide_eq_true (by kernel_rfl)) w1
    unfold ClassPost at h
    rw [show Pt.cls [46, 119, 104, 46, 120, 47, 121] = 0 by kernel_rfl, show Pt.tgt [46, 119, 104, 46, 120, 47, 121] = [] by kernel_rfl] at h
    exact h.mono fun _ _ ⟨h1, h2⟩ => ⟨h1, hb.trans (h2.mono hb.size)⟩)
  have HK1 : Hid (∀ w1, Below w.heap.size w w1 → Calls Tryd.prog 8 #[.string (sb xxL)] w1 fun e w' => e = .returned (.tuple #[.string ⟨#[]⟩, .int .i64 3]) ∧ Below w.heap.size w w') := Lib.hid (fun w1 hb => by
    have h := clean_walk xxL (of_decide_eq_true (by kernel_rfl)) w1
    unfold CleanPost at h
    rw [show Pt.cleanE xxL = 3 by kernel_rfl, show Pt.cleanP xxL = [] by kernel_rfl] at h
    exact h.mono fun _ _ ⟨h1, h2⟩ => ⟨h1, hb.trans (h2.mono hb.size)⟩)
  have HK2 : Hid (∀ w1, Below w.heap.size w w1 → Calls Tryd.prog 8 #[.string ⟨#[97, 0]⟩] w1 fun e w' => e = .returned (.tuple #[.string ⟨#[]⟩, .int .i64 30]) ∧ Below w.heap.size w w') := Lib.hid (fun w1 hb => by
    have h := clean_walk [97, 0] (of_decide_eq_true (by kernel_rfl)) w1
    unfold CleanPost at h
    rw [show Pt.cleanE [97, 0] = 30 by kernel_rfl, show Pt.cleanP [97, 0] = [] by kernel_rfl] at h
    exact h.mono fun _ _ ⟨h1, h2⟩ => ⟨h1, hb.trans (h2.mono hb.size)⟩)
  have HK3 : Hid (∀ w1, Below w.heap.size w w1 → Calls Tryd.prog 8 #[.string (sb a1L)] w1 fun e w' => e = .returned (.tuple #[.string ⟨#[]⟩, .int .i64 3]) ∧ Below w.heap.size w w') := Lib.hid (fun w1 hb => by
    have h := clean_walk a1L (of_decide_eq_true (by kernel_rfl)) w1
    unfold CleanPost at h
    rw [show Pt.cleanE a1L = 3 by kernel_rfl, show Pt.cleanP a1L = [] by kernel_rfl] at h
    exact h.mono fun _ _ ⟨h1, h2⟩ => ⟨h1, hb.trans (h2.mono hb.size)⟩)
  have HK4 : Hid (∀ w1, Below w.heap.size w w1 → Calls Tryd.prog 8 #[.string (sb a2L)] w1 fun e w' => e = .returned (.tuple #[.string (sb clL), .int .i64 0]) ∧ Below w.heap.size w w') := Lib.hid (fun w1 hb => by
    have h := clean_walk a2L (of_decide_eq_true (by kernel_rfl)) w1
    unfold CleanPost at h
    rw [show Pt.cleanE a2L = 0 by kernel_rfl, show Pt.cleanP a2L = clL by kernel_rfl] at h
    exact h.mono fun _ _ ⟨h1, h2⟩ => ⟨h1, hb.trans (h2.mono hb.size)⟩)
  have HK5 : Hid (∀ w1, Below w.heap.size w w1 → Calls Tryd.prog 8 #[.string ⟨#[]⟩] w1 fun e w' => e = .returned (.tuple #[.string ⟨#[]⟩, .int .i64 0]) ∧ Below w.heap.size w w') := Lib.hid (fun w1 hb => by
    have h := clean_walk [] (of_decide_eq_true (by kernel_rfl)) w1
    unfold CleanPost at h
    rw [show Pt.cleanE [] = 0 by kernel_rfl, show Pt.cleanP [] = [] by kernel_rfl] at h
    exact h.mono fun _ _ ⟨h1, h2⟩ => ⟨h1, hb.trans (h2.mono hb.size)⟩)
  have HM1 : Hid (∀ w1, Below w.heap.size w w1 → Calls Tryd.prog 14 #[.string ⟨#[]⟩] w1 fun e w' => e = .returned (.bool true) ∧ Below w.heap.size w w') := Lib.hid (fun w1 hb => by
    have h := may_walk [] (of_decide_eq_true (by kernel_rfl)) w1
    rw [show Pt.may [] = true by kernel_rfl] at h
    exact h.mono fun _ _ ⟨h1, h2⟩ => ⟨h1, hb.trans (h2.mono hb.size)⟩)
  have HM2 : Hid (∀ w1, Below w.heap.size w w1 → Calls Tryd.prog 14 #[.string (sb deL)] w1 fun e w' => e = .returned (.bool true) ∧ Below w.heap.size w w') := Lib.hid (fun w1 hb => by
    have h := may_walk deL (of_decide_eq_true (by kernel_rfl)) w1
    rw [show Pt.may deL = true by kernel_rfl] at h
    exact h.mono fun _ _ ⟨h1, h2⟩ => ⟨h1, hb.trans (h2.mono hb.size)⟩)
  have HM3 : Hid (∀ w1, Below w.heap.size w w1 → Calls Tryd.prog 14 #[.string (sb de1L)] w1 fun e w' => e = .returned (.bool false) ∧ Below w.heap.size w w') := Lib.hid (fun w1 hb => by
    have h := may_walk de1L (of_decide_eq_true (by kernel_rfl)) w1
    rw [show Pt.may de1L = false by kernel_rfl] at h
    exact h.mono fun _ _ ⟨h1, h2⟩ => ⟨h1, hb.trans (h2.mono hb.size)⟩)
  have HM4 : Hid (∀ w1, Below w.heap.size w w1 → Calls Tryd.prog 14 #[.string (sb wwL)] w1 fun e w' => e = .returned (.bool true) ∧ Below w.heap.size w w') := Lib.hid (fun w1 hb => by
    have h := may_walk wwL (of_decide_eq_true (by kernel_rfl)) w1
    rw [show Pt.may wwL = true by kernel_rfl] at h
    exact h.mono fun _ _ ⟨h1, h2⟩ => ⟨h1, hb.trans (h2.mono hb.size)⟩)
  have HM5 : Hid (∀ w1, Below w.heap.size w w1 → Calls Tryd.prog 14 #[.string (sb ww1L)] w1 fun e w' => e = .returned (.bool false) ∧ Below w.heap.size w w') := Lib.hid (fun w1 hb => by
    have h := may_walk ww1L (of_decide_eq_true (by kernel_rfl)) w1
    rw [show Pt.may ww1L = false by kernel_rfl] at h
    exact h.mono fun _ _ ⟨h1, h2⟩ => ⟨h1, hb.trans (h2.mono hb.size)⟩)
  have HM6 : Hid (∀ w1, Below w.heap.size w w1 → Calls Tryd.prog 14 #[.string ⟨#[97, 47, 47, 98]⟩] w1 fun e w' => e = .returned (.bool false) ∧ Below w.heap.size w w') := Lib.hid (fun w1 hb => by
    have h := may_walk [97, 47, 47, 98] (of_decide_eq_true (by kernel_rfl)) w1
    rw [show Pt.may [97, 47, 47, 98] = false by kernel_rfl] at h
    exact h.mono fun _ _ ⟨h1, h2⟩ => ⟨h1, hb.trans (h2.mono hb.size)⟩)
  have HM7 : Hid (∀ w1, Below w.heap.size w w1 → Calls Tryd.prog 14 #[.string ⟨#[97, 47]⟩] w1 fun e w' => e = .returned (.bool false) ∧ Below w.heap.size w w') := Lib.hid (fun w1 hb => by
    have h := may_walk [97, 47] (of_decide_eq_true (by kernel_rfl)) w1
    rw [show Pt.may [97, 47] = false by kernel_rfl] at h
    exact h.mono fun _ _ ⟨h1, h2⟩ => ⟨h1, hb.trans (h2.mono hb.size)⟩)
  have HJ1 : Hid (∀ w1, Below w.heap.size w w1 → Calls Tryd.prog 19 #[.slice (some ⟨w1.heap.size, 0, none⟩) 4 4] (w1.alloc (.cells #[.string ⟨#[]⟩, .string ⟨#[97]⟩, .string ⟨#[]⟩, .string ⟨#[98]⟩] 9)) fun e w' => e = .returned (.string ⟨#[97, 47, 98]⟩) ∧ Below w.heap.size w w') := Lib.hid (fun w1 hb => by
    have h := join_walk [[], [97], [], [98]] (of_decide_eq_true (by kernel_rfl)) (of_decide_eq_true (by kernel_rfl)) _ _ (slv_new w1 (sl [[], [97], [], [98]]) 9)
    unfold JoinPost at h
    rw [show Pt.join [[], [97], [], [98]] = [97, 47, 98] by kernel_rfl] at h
    exact h.mono fun _ _ ⟨h1, h2⟩ => ⟨h1, (hb.alloc hb.size _).trans (h2.mono (by have := hb.size; simp; omega))⟩)
  have HJ2 : Hid (∀ w1, Below w.heap.size w w1 → Calls Tryd.prog 19 #[.slice none 0 0] w1 fun e w' => e = .returned (.string ⟨#[]⟩) ∧ Below w.heap.size w w') := Lib.hid (fun w1 hb => by
    have h := join_walk [] (of_decide_eq_true (by kernel_rfl)) (of_decide_eq_true (by kernel_rfl)) (.slice none 0 0) w1 (.inr ⟨none, rfl, rfl⟩)
    unfold JoinPost at h
    rw [show Pt.join [] = [] by kernel_rfl] at h
    exact h.mono fun _ _ ⟨h1, h2⟩ => ⟨h1, hb.trans (h2.mono hb.size)⟩)
  have HPa : Hid (∀ w1, Below w.heap.size w w1 → Calls Tryd.prog 21 #[.string ⟨#[97]⟩] w1 fun e w' => e = .returned (.string ⟨#[]⟩) ∧ Below w.heap.size w w') := Lib.hid (fun w1 hb => by
    have h := parent_walk [97] (of_decide_eq_true (by kernel_rfl)) w1
    rw [show Pt.parent [97] = [] by kernel_rfl] at h
    exact h.mono fun _ _ ⟨h1, h2⟩ => ⟨h1, by rw [h2]; exact hb⟩)
  have HBa : Hid (∀ w1, Below w.heap.size w w1 → Calls Tryd.prog 23 #[.string ⟨#[97, 47]⟩] w1 fun e w' => e = .returned (.string ⟨#[]⟩) ∧ Below w.heap.size w w') := Lib.hid (fun w1 hb => by
    have h := base_walk [97, 47] (of_decide_eq_true (by kernel_rfl)) w1
    rw [show Pt.base [97, 47] = [] by kernel_rfl] at h
    exact h.mono fun _ _ ⟨h1, h2⟩ => ⟨h1, by rw [h2]; exact hb⟩)
  have HWh : Hid (∀ w1, Below w.heap.size w w1 → Calls Tryd.prog 29 #[.string ⟨#[]⟩] w1 fun e w' => e = .returned (.string ⟨#[]⟩) ∧ Below w.heap.size w w') := Lib.hid (fun w1 hb => by
    have h := whiteout_walk [] (of_decide_eq_true (by kernel_rfl)) w1
    rw [show Pt.whiteout [] = [] by kernel_rfl] at h
    exact h.mono fun _ _ ⟨h1, h2⟩ => ⟨h1, hb.trans (h2.mono hb.size)⟩)
  have HOp : Hid (∀ w1, Below w.heap.size w w1 → Calls Tryd.prog 31 #[.string ⟨#[]⟩] w1 fun e w' => e = .returned (.string ⟨#[46, 119, 104, 46, 46, 119, 104, 46, 46, 111, 112, 113]⟩) ∧ Below w.heap.size w w') := Lib.hid (fun w1 hb => by
    have h := opaq_walk [] (of_decide_eq_true (by kernel_rfl)) w1
    rw [show Pt.opaq [] = [46, 119, 104, 46, 46, 119, 104, 46, 46, 111, 112, 113] by kernel_rfl] at h
    exact h.mono fun _ _ ⟨h1, h2⟩ => ⟨h1, hb.trans (h2.mono hb.size)⟩)
  have HW : Hid (∀ w1, Below w.heap.size w w1 → Calls Tryd.prog 33 #[] w1 fun e w' => e = .returned (.bool true) ∧ Below w.heap.size w w') := Lib.hid (fun w1 hb => by
    have h := wakes_walk w1
    unfold WakePost at h
    exact h.mono fun _ _ ⟨h1, h2⟩ => ⟨h1, hb.trans (h2.mono hb.size)⟩)
  have k1 : (⟨#[97, 47, 46, 119, 104, 46]⟩ : ByteArray) ++ (sb nnL : ByteArray) = sb t9L := sb_append [97, 47, 46, 119, 104, 46] nnL
  have k2 : (sb t9L : ByteArray) ++ (⟨#[110]⟩ : ByteArray) = sb t10L := sb_append t9L [110]
  have k3 : (⟨#[97, 47]⟩ : ByteArray) ++ (sb nnL : ByteArray) = sb g9L := sb_append [97, 47] nnL
  have k4 : (sb dpL : ByteArray) ++ (⟨#[100]⟩ : ByteArray) = sb deL := sb_append dpL [100]
  have k5 : (sb deL : ByteArray) ++ (⟨#[47, 100]⟩ : ByteArray) = sb de1L := sb_append deL [47, 100]
  have k6 : (sb w1L : ByteArray) ++ (⟨#[47]⟩ : ByteArray) = sb w2L := sb_append w1L [47]
  have k7 : (sb w6L : ByteArray) ++ (sb w4L : ByteArray) = sb wwL := sb_append w6L w4L
  have k8 : (sb wwL : ByteArray) ++ (⟨#[119]⟩ : ByteArray) = sb ww1L := sb_append wwL [119]
  have z0 : ((sb nnL).size : Int) = 251 := by kernel_rfl
  have z1 : ((sb t9L).size : Int) = 257 := by kernel_rfl
  have z2 : ((sb dpL).size : Int) = 506 := by kernel_rfl
  have z3 : ((sb deL).size : Int) = 507 := by kernel_rfl
  have z4 : ((sb w1L).size : Int) = 249 := by kernel_rfl
  have z5 : ((sb w6L).size : Int) = 4000 := by kernel_rfl
  have z6 : ((sb w4L).size : Int) = 80 := by kernel_rfl
  have z7 : ((sb wwL).size : Int) = 4080 := by kernel_rfl
  have z8 : ((sb clL).size : Int) = 509 := by kernel_rfl
  have y0 : ((⟨#[97, 47, 46, 119, 104, 46]⟩ : ByteArray).size : Int) = 6 := rfl
  have y1 : ((⟨#[110]⟩ : ByteArray).size : Int) = 1 := rfl
  have y2 : ((⟨#[97, 47]⟩ : ByteArray).size : Int) = 2 := rfl
  have y3 : ((⟨#[100]⟩ : ByteArray).size : Int) = 1 := rfl
  have y4 : ((⟨#[47, 100]⟩ : ByteArray).size : Int) = 2 := rfl
  have y5 : ((⟨#[47]⟩ : ByteArray).size : Int) = 1 := rfl
  have y6 : ((⟨#[119]⟩ : ByteArray).size : Int) = 1 := rfl
  have hpp : ((sb g9L).toList == (sb g9L).toList) = true := beq_self_eq_true _
  have HMN : Hid (∀ s : List UInt8, s.length ≤ 300 → ∀ w1, Calls Tryd.prog 12 #[.string (sb s)] w1 fun e w' => e = .returned (.bool (Pt.mayName s)) ∧ Below w1.heap.size w1 w') := Lib.hid (fun s hs w1 => by
    have h := mayName_walk s (by omega) w1
    unfold MayPost at h
    exact h)
  have HRG : Hid (∀ a0 w1 Q, a0.tmps.size = 232 → a0.eval (.tmp 1) = .string (sb nnL) → (∀ a' es c, Like opsK a0 a' → a'.eval (.tmp 29) = .map (some w1.heap.size) → a'.eval (.tmp 30) = .string (sb nnL) → a'.eval (.tmp 31) = .string (sb nnL) → a'.eval (.tmp 32) = .string (sb (nnL ++ [110])) → a'.eval (.tmp 33) = .map (some w1.heap.size) →
      a'.eval (.tmp 34) = .pointer (some ⟨w1.heap.size + 1, 0, none⟩) → GoodMap es c → Q .normal a' ((w1.drew.alloc (.map es c)).alloc (.mapIter (some w1.heap.size) c #[] c))) → (Code.region 2 opsK true).wp Tryd.prog Q a0 w1) := Lib.hid (fun a0 w1 Q h1 h2 h3 => region_wp a0 h1 w1 h2 Q h3)
  generalize sb (nnL ++ [110]) = x0 at *
  generalize sb nnL = x1 at *
  generalize sb t9L = x2 at *
  generalize sb t10L = x3 at *
  generalize sb g9L = x4 at *
  generalize sb dpL = x5 at *
  generalize sb deL = x6 at *
  generalize sb de1L = x7 at *
  generalize sb w1L = x8 at *
  generalize sb w2L = x9 at *
  generalize sb w6L = x10 at *
  generalize sb w4L = x11 at *
  generalize sb wwL = x12 at *
  generalize sb ww1L = x13 at *
  generalize sb xxL = x14 at *
  generalize sb a1L = x15 at *
  generalize sb a2L = x16 at *
  generalize sb clL = x17 at *
  go_enter Tryd.func7, Tryd.ntmps7
  go_wp2_with (first
    | ((with_reducible refine (HR1.out _ HB.out).mono ?_); rintro e w1 ⟨rfl, hb⟩; replace HB := Lib.hid hb; clear hb))
  refine HRG.out _ w1 _ rfl rfl (fun a' es c hL h29 h30 h31 h32 h33 h34 hg => ?_)
  have hfr := like_eq rfl hL h29 h30 h31 h32 h33 h34
  rw [hfr]
  clear hfr hL h29 h30 h31 h32 h33 h34 HRG
  go_frame
  have hB0 : Below w.heap.size w ((w1.drew.alloc (.map es c)).alloc (.mapIter (some w1.heap.size) c #[] c)) := (HB.out.drew.alloc HB.out.size _).alloc (by have := HB.out.size; simp; omega) _
  have hI0 : ((w1.drew.alloc (.map es c)).alloc (.mapIter (some w1.heap.size) c #[] c)).heap[w1.heap.size + 1]? = some (.mapIter (some w1.heap.size) c #[] c) := by
    have h := heap_alloc_new (w1.drew.alloc (.map es c)) (.mapIter (some w1.heap.size) c #[] c)
    rw [World.size_alloc] at h
    exact h
  have hM0 : ((w1.drew.alloc (.map es c)).alloc (.mapIter (some w1.heap.size) c #[] c)).heap[w1.heap.size]? = some (.map es c) := by
    rw [heap_alloc_old _ _ (by simp)]
    exact heap_alloc_new w1.drew _
  have hge := HB.out.size
  generalize (w1.drew.alloc (.map es c)).alloc (.mapIter (some w1.heap.size) c #[] c) = W0 at *
  generalize w1.heap.size = N at *
  have HB0 := Lib.hid hB0
  have HG := Lib.hid hg
  clear hB0 HB hg
  go_wp2_with fail
  go_loopw [] (fun wr => ∃ seen, wr.heap[N + 1]? = some (.mapIter (some N) c seen c) ∧ wr.heap[N]? = some (.map es c) ∧ Below w.heap.size w wr) (fun wr => wr.rangeLeft N (N + 1))
  case atStart => exact ⟨#[], hI0, hM0, HB0.out⟩
  case round =>
    obtain ⟨seen, q1, q2, q3⟩ := hrel
    rcases next_known wr N (N + 1) c es seen HG.out q1 q2 (by omega) with h | ⟨s, w2, seen', hs, h, hen, r1, r2, rsz, hlt, hbel⟩
    · have HB := Lib.hid q3
      clear q1 q2 q3 hI0 hM0 HB0 HG
      go_wp2_with (first
        | ((with_reducible refine (HR1.out _ HB.out).mono ?_); rintro e w1 ⟨rfl, hb⟩; replace HB := Lib.hid hb; clear hb)
        | ((with_reducible refine (HR2.out _ HB.out).mono ?_); rintro e w1 ⟨rfl, hb⟩; replace HB := Lib.hid hb; clear hb)
        | ((with_reducible refine (HR3.out _ HB.out).mono ?_); rintro e w1 ⟨rfl, hb⟩; replace HB := Lib.hid hb; clear hb)
        | ((with_reducible refine (HR4.out _ HB.out).mono ?_); rintro e w1 ⟨rfl, hb⟩; replace HB := Lib.hid hb; clear hb)
        | ((with_reducible refine (HR5.out _ HB.out).mono ?_); rintro e w1 ⟨rfl, hb⟩; replace HB := Lib.hid hb; clear hb)
        | ((with_reducible refine (HR6.out _ HB.out).mono ?_); rintro e w1 ⟨rfl, hb⟩; replace HB := Lib.hid hb; clear hb)
        | ((with_reducible refine (HR7.out _ HB.out).mono ?_); rintro e w1 ⟨rfl, hb⟩; replace HB := Lib.hid hb; clear hb)
        | ((with_reducible refine (HR8.out _ HB.out).mono ?_); rintro e w1 ⟨rfl, hb⟩; replace HB := Lib.hid hb; clear hb)
        | ((with_reducible refine (HC1.out _ HB.out).mono ?_); rintro e w1 ⟨rfl, hb⟩; replace HB := Lib.hid hb; clear hb)
        | ((with_reducible refine (HC2.out _ HB.out).mono ?_); rintro e w1 ⟨rfl, hb⟩; replace HB := Lib.hid hb; clear hb)
        | ((with_reducible refine (HC3.out _ HB.out).mono ?_); rintro e w1 ⟨rfl, hb⟩; replace HB := Lib.hid hb; clear hb)
        | ((with_reducible refine (HC4.out _ HB.out).mono ?_); rintro e w1 ⟨rfl, hb⟩; replace HB := Lib.hid hb; clear hb)
        | ((with_reducible refine (HC5.out _ HB.out).mono ?_); rintro e w1 ⟨rfl, hb⟩; replace HB := Lib.hid hb; clear hb)
        | ((with_reducible refine (HC6.out _ HB.out).mono ?_); rintro e w1 ⟨rfl, hb⟩; replace HB := Lib.hid hb; clear hb)
        | ((with_reducible refine (HK1.out _ HB.out).mono ?_); rintro e w1 ⟨rfl, hb⟩; replace HB := Lib.hid hb; clear hb)
        | ((with_reducible refine (HK2.out _ HB.out).mono ?_); rintro e w1 ⟨rfl, hb⟩; replace HB := Lib.hid hb; clear hb)
        | ((with_reducible refine (HK3.out _ HB.out).mono ?_); rintro e w1 ⟨rfl, hb⟩; replace HB := Lib.hid hb; clear hb)
        | ((with_reducible refine (HK4.out _ HB.out).mono ?_); rintro e w1 ⟨rfl, hb⟩; replace HB := Lib.hid hb; clear hb)
        | ((with_reducible refine (HK5.out _ HB.out).mono ?_); rintro e w1 ⟨rfl, hb⟩; replace HB := Lib.hid hb; clear hb)
        | ((with_reducible refine (HM1.out _ HB.out).mono ?_); rintro e w1 ⟨rfl, hb⟩; replace HB := Lib.hid hb; clear hb)
        | ((with_reducible refine (HM2.out _ HB.out).mono ?_); rintro e w1 ⟨rfl, hb⟩; replace HB := Lib.hid hb; clear hb)
        | ((with_reducible refine (HM3.out _ HB.out).mono ?_); rintro e w1 ⟨rfl, hb⟩; replace HB := Lib.hid hb; clear hb)
        | ((with_reducible refine (HM4.out _ HB.out).mono ?_); rintro e w1 ⟨rfl, hb⟩; replace HB := Lib.hid hb; clear hb)
        | ((with_reducible refine (HM5.out _ HB.out).mono ?_); rintro e w1 ⟨rfl, hb⟩; replace HB := Lib.hid hb; clear hb)
        | ((with_reducible refine (HM6.out _ HB.out).mono ?_); rintro e w1 ⟨rfl, hb⟩; replace HB := Lib.hid hb; clear hb)
        | ((with_reducible refine (HM7.out _ HB.out).mono ?_); rintro e w1 ⟨rfl, hb⟩; replace HB := Lib.hid hb; clear hb)
        | ((with_reducible refine (HJ1.out _ HB.out).mono ?_); rintro e w1 ⟨rfl, hb⟩; replace HB := Lib.hid hb; clear hb)
        | ((with_reducible refine (HJ2.out _ HB.out).mono ?_); rintro e w1 ⟨rfl, hb⟩; replace HB := Lib.hid hb; clear hb)
        | ((with_reducible refine (HPa.out _ HB.out).mono ?_); rintro e w1 ⟨rfl, hb⟩; replace HB := Lib.hid hb; clear hb)
        | ((with_reducible refine (HBa.out _ HB.out).mono ?_); rintro e w1 ⟨rfl, hb⟩; replace HB := Lib.hid hb; clear hb)
        | ((with_reducible refine (HWh.out _ HB.out).mono ?_); rintro e w1 ⟨rfl, hb⟩; replace HB := Lib.hid hb; clear hb)
        | ((with_reducible refine (HOp.out _ HB.out).mono ?_); rintro e w1 ⟨rfl, hb⟩; replace HB := Lib.hid hb; clear hb)
        | ((with_reducible refine (HW.out _ HB.out).mono ?_); rintro e w1 ⟨rfl, hb⟩; replace HB := Lib.hid hb; clear hb))
      go_ret
      exact ⟨rfl, HB.out⟩
    · have HM := Lib.hid (HMN.out s hs w2)
      have HB2 := Lib.hid (hbel _ _ (by omega) q3)
      clear q3
      generalize Pt.mayName s = b at *
      generalize sb s = x99 at *
      cases b
      · go_wp2_with ((with_reducible refine HM.out.mono ?_); rintro e w3 ⟨rfl, hb3⟩; have HB3 := Lib.hid hb3; clear hb3)
        go_roundw
        case rel => exact ⟨seen', by rw [HB3.out.block _ (by rw [rsz]; exact (Array.getElem?_eq_some_iff.1 q1).1)]; exact r1, by rw [HB3.out.block _ (by rw [rsz]; exact (Array.getElem?_eq_some_iff.1 q2).1)]; exact r2, HB2.out.trans (HB3.out.mono HB2.out.size)⟩
        case measure =>
          have e1 : w3.heap[N + 1]? = some (.mapIter (some N) c seen' c) := by rw [HB3.out.block _ (by rw [rsz]; exact (Array.getElem?_eq_some_iff.1 q1).1)]; exact r1
          have e2 : w3.heap[N]? = some (.map es c) := by rw [HB3.out.block _ (by rw [rsz]; exact (Array.getElem?_eq_some_iff.1 q2).1)]; exact r2
          unfold World.rangeLeft
          rw [e1, e2, q1, q2]
          exact hlt
      · go_wp2_with ((with_reducible refine HM.out.mono ?_); rintro e w3 ⟨rfl, hb3⟩; have HB3 := Lib.hid hb3; clear hb3)
        go_roundw
        case rel => exact ⟨seen', by rw [HB3.out.block _ (by rw [rsz]; exact (Array.getElem?_eq_some_iff.1 q1).1)]; exact r1, by rw [HB3.out.block _ (by rw [rsz]; exact (Array.getElem?_eq_some_iff.1 q2).1)]; exact r2, HB2.out.trans (HB3.out.mono HB2.out.size)⟩
        case measure =>
          have e1 : w3.heap[N + 1]? = some (.mapIter (some N) c seen' c) := by rw [HB3.out.block _ (by rw [rsz]; exact (Array.getElem?_eq_some_iff.1 q1).1)]; exact r1
          have e2 : w3.heap[N]? = some (.map es c) := by rw [HB3.out.block _ (by rw [rsz]; exact (Array.getElem?_eq_some_iff.1 q2).1)]; exact r2
          unfold World.rangeLeft
          rw [e1, e2, q1, q2]
          exact hlt
end Go.Proofs.YtgdnemjlmhmhhaaDoor
