/-
  What the document's examples say (wakes).
-/
import Derived.Test.YtkkelmlkpehcpaaDoorFt
import Derived.Test.YtkkelmlkpehcpaaDoorFr
namespace Go.Proofs.YtkkelmlkpehcpaaDoor
open Go.RowKit

theorem oct88 (w : World) (h : TzAt w) : Calls Tryd.prog 10 #[.int .i64 8, .int .i64 8] w (MadePost [48, 48, 48, 48, 48, 49, 48, 0] 0 w) := by
  have e1 : Fx.octL 8 8 = [48, 48, 48, 48, 48, 49, 48, 0] := by decide
  have e2 : Fx.octE 8 8 = 0 := by decide
  have := octal_walk w 8 8 (by decide) (by decide) h
  rw [e1, e2] at this
  exact this
theorem wid8 (w : World) : Calls Tryd.prog 12 #[.int .i64 (-1), .int .i64 8] w (MadePost [255, 255, 255, 255, 255, 255, 255, 255] 0 w) := by
  have e1 : Fx.widL (-1) 8 = [255, 255, 255, 255, 255, 255, 255, 255] := by decide
  have e2 : Fx.widE (-1) 8 = 0 := by decide
  have := wide_walk w (-1) 8 (by decide) (by decide)
  rw [e1, e2] at this
  exact this
theorem wid4 (w : World) : Calls Tryd.prog 12 #[.int .i64 256, .int .i64 4] w (MadePost [128, 0, 1, 0] 0 w) := by
  have e1 : Fx.widL 256 4 = [128, 0, 1, 0] := by decide
  have e2 : Fx.widE 256 4 = 0 := by decide
  have := wide_walk w 256 4 (by decide) (by decide)
  rw [e1, e2] at this
  exact this
theorem slv_marked (w : World) (vs : List Value) (e : TypeId) (fr : Nat × Nat) : SlV (w.alloc (.cells vs.toArray e fr)) (.slice (some ⟨w.heap.size, 0, none⟩) vs.length vs.length) vs :=
  .inl ⟨w.heap.size, 0, _, rfl, Nat.le_refl _, fun i v hi => by
    rw [Nat.zero_add]
    exact (cell_of_row _ _ _ _ _ _ (heap_alloc_new _ _)).trans (by simpa using hi)⟩
theorem num_lit (w : World) (b : Nat) (hb : w.heap.size = b) (l : List UInt8) (r : Int × Int) (hr : Fx.num l = r) (hl : l.length ≤ 20) (fr : Nat × Nat) :
    Calls Tryd.prog 14 #[.slice (some ⟨b, 0, none⟩) l.length l.length] (w.alloc (.cells (bl l).toArray 5 fr)) (NumPost r (w.alloc (.cells (bl l).toArray 5 fr))) := by
  subst hb
  have h := slv_marked w (bl l) 5 fr
  rw [bl_length] at h
  have := number_walk _ _ l h (by omega)
  rw [hr] at this
  exact this
theorem conv_const (w : World) (b : Nat) (C : Array Value) (n c : Nat) (hb : w.heap.size = b) : (convert 22 22 (.slice (some ⟨b, 0, none⟩) n c)).run Tryd.prog (w.alloc (.cells C 5)) = .ok (.slice (some ⟨b, 0, none⟩) n c) (w.alloc (.cells C 5 (C.size, C.size + 1))) := by
  subst hb
  exact Lib.run_convert_bytes_const w 22 5 C n c Tryd.underlying22 Tryd.underlying5
theorem num17 (w : World) (b : Nat) (hb : w.heap.size = b) : Calls Tryd.prog 14 #[.slice (some ⟨b, 0, none⟩) 5 5] (w.alloc (.cells #[.int .u8 32, .int .u8 49, .int .u8 55, .int .u8 32, .int .u8 120] 5 (5, 6))) (NumPost (15, 0) (w.alloc (.cells #[.int .u8 32, .int .u8 49, .int .u8 55, .int .u8 32, .int .u8 120] 5 (5, 6)))) :=
  num_lit w b hb [32, 49, 55, 32, 120] (15, 0) (by decide) (by decide) _
theorem num0 (w : World) (b : Nat) (hb : w.heap.size = b) : Calls Tryd.prog 14 #[.slice (some ⟨b, 0, none⟩) 8 8] (w.alloc (.cells #[.int .u8 32, .int .u8 32, .int .u8 32, .int .u8 32, .int .u8 32, .int .u8 32, .int .u8 32, .int .u8 32] 5 (8, 9))) (NumPost (0, 0) (w.alloc (.cells #[.int .u8 32, .int .u8 32, .int .u8 32, .int .u8 32, .int .u8 32, .int .u8 32, .int .u8 32, .int .u8 32] 5 (8, 9)))) :=
  num_lit w b hb [32, 32, 32, 32, 32, 32, 32, 32] (0, 0) (by decide) (by decide) _
theorem num9 (w : World) (b : Nat) (hb : w.heap.size = b) : Calls Tryd.prog 14 #[.slice (some ⟨b, 0, none⟩) 1 1] (w.alloc (.cells #[.int .u8 57] 5 (1, 2))) (NumPost (0, 5) (w.alloc (.cells #[.int .u8 57] 5 (1, 2)))) :=
  num_lit w b hb [57] (0, 5) (by decide) (by decide) _
theorem equal_same (w : World) (v u : Value) (a : List UInt8) (h : SlV w v (bl a)) (k : SlV w u (bl a)) :
    Calls Tryd.prog 16 #[v, u] w fun e w' => e = .returned (.bool true) ∧ w' = w :=
  (equal_walk w v u a a h k).mono fun e w' ⟨he, hw⟩ => ⟨by rw [he]; simp, hw⟩
def RepPost (w : World) (e : Ending) (w' : World) : Prop := ∃ v', e = .returned v' ∧ SlV w' v' (bl [255, 255, 255, 255, 255, 255, 255, 255]) ∧ Below w.heap.size w w'
theorem rep255 (w : World) : Calls Tryd.prog 37 #[.slice (some ⟨w.heap.size, 0, none⟩) 1 1, .int .i64 8] (w.alloc (.cells #[.int .u8 255] 5)) (RepPost w) := by
  have h := slv_marked w (bl [255]) 5 (0, 0)
  have h2 := repeat_walk _ _ 255 8 h (by decide) (by decide)
  exact h2.mono fun e w' ⟨v', he, hv, hb⟩ => ⟨v', he, hv, ((Below.refl _ w).alloc (Nat.le_refl _) _).trans (hb.mono (by simp))⟩
theorem lit1280 (w : World) : SlV (w.alloc (.cells #[.int .u8 128, .int .u8 0, .int .u8 1, .int .u8 0] 5)) (.slice (some ⟨w.heap.size, 0, none⟩) 4 4) (bl [128, 0, 1, 0]) := slv_marked w (bl [128, 0, 1, 0]) 5 (0, 0)
def WakesPost (w : World) (e : Ending) (w' : World) : Prop := e = .returned (.bool true) ∧ Below w.heap.size w w'
set_option maxRecDepth 100000 in
set_option maxHeartbeats 1000000 in
theorem wakes_walk (w : World) (h : TzAt w) : Calls Tryd.prog 17 #[] w (WakesPost w) := by
  have HT := Lib.hid h
  clear h
  have kc := conv_const
  go_enter Tryd.func17, Tryd.ntmps17
  go_wp2_with (first
    | ((with_reducible refine (oct88 _ HT.out).mono ?_); rintro e w1 ⟨v1, rfl, h1, b1⟩; have H1 := Lib.hid h1; have B1 := Lib.hid b1; clear h1 b1)
    | ((with_reducible refine (wid8 _).mono ?_); rintro e w2 ⟨v2, rfl, h2, b2⟩; have H2 := Lib.hid h2; have B2 := Lib.hid b2; clear h2 b2)
    | ((with_reducible refine (wid4 _).mono ?_); rintro e w3 ⟨v3, rfl, h3, b3⟩; have H3 := Lib.hid h3; have B3 := Lib.hid b3; clear h3 b3)
    | ((with_reducible refine (num17 _ _ (by simp)).mono ?_); rintro e w4 ⟨rfl, rfl⟩)
    | ((with_reducible refine (num0 _ _ (by simp)).mono ?_); rintro e w5 ⟨rfl, rfl⟩)
    | ((with_reducible refine (num9 _ _ (by simp)).mono ?_); rintro e w6 ⟨rfl, hw6⟩; have B6 : Hid (Below w3.heap.size w3 w6) := Lib.hid (by rw [← hw6]; exact (((Below.refl _ _).alloc (Nat.le_refl _) _).alloc (by simp) _).alloc (by simp; omega) _); clear hw6; have c1 := run_toString (((H1.out.below B2.out (Nat.le_refl _)).below B3.out (Nat.le_refl _)).below B6.out (Nat.le_refl _)).toV; have X2 : Hid (SlV w6 v2 (bl [255, 255, 255, 255, 255, 255, 255, 255])) := Lib.hid ((H2.out.below B3.out (Nat.le_refl _)).below B6.out (Nat.le_refl _)).toV; have X3 : Hid (SlV w6 v3 (bl [128, 0, 1, 0])) := Lib.hid (H3.out.below B6.out (Nat.le_refl _)).toV)
    | ((with_reducible refine (rep255 _).mono ?_); rintro e w7 ⟨u7, rfl, h7, b7⟩; have X7 := Lib.hid h7; have X27 := Lib.hid (X2.out.below b7 (Nat.le_refl _)); have X37 : Hid (SlV (w7.alloc (.cells #[.int .u8 128, .int .u8 0, .int .u8 1, .int .u8 0] 5)) v3 (bl [128, 0, 1, 0])) := Lib.hid ((X3.out.below b7 (Nat.le_refl _)).below ((Below.refl _ _).alloc (Nat.le_refl _) _) (Nat.le_refl _)); have B7 := Lib.hid b7; clear h7 b7)
    | ((with_reducible refine (equal_same _ _ _ _ X27.out X7.out).mono ?_); rintro e w8 ⟨rfl, rfl⟩)
    | ((with_reducible refine (equal_same _ _ _ _ X37.out (lit1280 _)).mono ?_); rintro e w9 ⟨rfl, rfl⟩))
  go_ret
  have b2 := B1.out.trans (B2.out.mono B1.out.size)
  have b3 := b2.trans (B3.out.mono b2.size)
  have b6 := b3.trans (B6.out.mono b3.size)
  have b7 := b6.trans (B7.out.mono b6.size)
  exact ⟨rfl, b7.alloc b7.size _⟩
end Go.Proofs.YtkkelmlkpehcpaaDoor
