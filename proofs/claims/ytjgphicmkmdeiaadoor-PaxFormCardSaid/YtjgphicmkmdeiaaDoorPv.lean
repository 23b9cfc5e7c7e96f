/-
  The chapter's rows: tells.
-/
import Derived.Test.YtjgphicmkmdeiaaDoorPu
namespace Go.Proofs.YtjgphicmkmdeiaaDoor
open Go.RowKit Go.Maps

theorem ex1 : Px.get [57, 32, 107, 61, 97, 98, 99] = .error 4 := by kernel_rfl
theorem ex2 : Px.get [48, 57, 32, 107, 61, 97, 98, 10] = .error 5 := by kernel_rfl
theorem ex3 : Px.get [49, 48, 32, 112, 97, 116, 104, 61, 97, 10] = .error 5 := by kernel_rfl
theorem ex4 : Px.sz ([112, 97, 116, 104], [97]) = 9 := by kernel_rfl
theorem ex5 : Px.txts [([112, 97, 116, 104], [97])] = [57, 32, 112, 97, 116, 104, 61, 97, 10] := by kernel_rfl
theorem slv_marked (w : World) (vs : List Value) (e : TypeId) (fr : Nat × Nat) : SlV (w.alloc (.cells vs.toArray e fr)) (.slice (some ⟨w.heap.size, 0, none⟩) vs.length vs.length) vs :=
  .inl ⟨w.heap.size, 0, _, rfl, Nat.le_refl _, fun i v hi => by
    rw [Nat.zero_add]
    exact (cell_of_row _ _ _ _ _ _ (heap_alloc_new _ _)).trans (by simpa using hi)⟩
theorem conv_const (w : World) (b : Nat) (C : Array Value) (n c : Nat) (hb : w.heap.size = b) : (convert 26 26 (.slice (some ⟨b, 0, none⟩) n c)).run Tryd.prog (w.alloc (.cells C 5)) = .ok (.slice (some ⟨b, 0, none⟩) n c) (w.alloc (.cells C 5 (C.size, C.size + 1))) := by
  subst hb
  exact Lib.run_convert_bytes_const w 26 5 C n c Tryd.underlying26 Tryd.underlying5
/-- Get of a row that is none's. -/
theorem get_lit (w : World) (b : Nat) (hb : w.heap.size = b) (l : List UInt8) (x : Nat) (hr : Px.get l = .error x) (hl : l.length ≤ 1000) (fr : Nat × Nat) (hP : PxAt w) :
    Calls Tryd.prog 18 #[.slice (some ⟨b, 0, none⟩) l.length l.length] (w.alloc (.cells (bl l).toArray 5 fr)) fun e w' => e = .returned (.tuple #[.slice none 0 0, .int .i64 (x : Int)]) ∧ Below w.heap.size w w' := by
  subst hb
  have h := slv_marked w (bl l) 5 fr
  rw [bl_length] at h
  have hA : Below w.heap.size w (w.alloc (.cells (bl l).toArray 5 fr)) := (Below.refl _ _).alloc (Nat.le_refl _) _
  refine (get_walk _ _ l h (by omega) (hP.below hA (Nat.le_refl _))).mono ?_
  rintro e w' ⟨hb, h1 | ⟨_, y, h2, h3⟩ | ⟨_, rs, u, h2, _⟩⟩
  · omega
  · rw [hr] at h2
    cases h2
    exact ⟨h3, hA.trans (hb.mono hA.size)⟩
  · rw [hr] at h2; cases h2
theorem get7 (w : World) (b : Nat) (hb : w.heap.size = b) (hP : PxAt w) : Calls Tryd.prog 18 #[.slice (some ⟨b, 0, none⟩) 7 7] (w.alloc (.cells #[.int .u8 57, .int .u8 32, .int .u8 107, .int .u8 61, .int .u8 97, .int .u8 98, .int .u8 99] 5 (7, 8))) fun e w' => e = .returned (.tuple #[.slice none 0 0, .int .i64 4]) ∧ Below w.heap.size w w' :=
  get_lit w b hb [57, 32, 107, 61, 97, 98, 99] 4 ex1 (by decide) (7, 8) hP
theorem get8 (w : World) (b : Nat) (hb : w.heap.size = b) (hP : PxAt w) : Calls Tryd.prog 18 #[.slice (some ⟨b, 0, none⟩) 8 8] (w.alloc (.cells #[.int .u8 48, .int .u8 57, .int .u8 32, .int .u8 107, .int .u8 61, .int .u8 97, .int .u8 98, .int .u8 10] 5 (8, 9))) fun e w' => e = .returned (.tuple #[.slice none 0 0, .int .i64 5]) ∧ Below w.heap.size w w' :=
  get_lit w b hb [48, 57, 32, 107, 61, 97, 98, 10] 5 ex2 (by decide) (8, 9) hP
theorem get10 (w : World) (b : Nat) (hb : w.heap.size = b) (hP : PxAt w) : Calls Tryd.prog 18 #[.slice (some ⟨b, 0, none⟩) 10 10] (w.alloc (.cells #[.int .u8 49, .int .u8 48, .int .u8 32, .int .u8 112, .int .u8 97, .int .u8 116, .int .u8 104, .int .u8 61, .int .u8 97, .int .u8 10] 5 (10, 11))) fun e w' => e = .returned (.tuple #[.slice none 0 0, .int .i64 5]) ∧ Below w.heap.size w w' :=
  get_lit w b hb [49, 48, 32, 112, 97, 116, 104, 61, 97, 10] 5 ex3 (by decide) (10, 11) hP
theorem put_path (w : World) (hP : PxAt w) : Calls Tryd.prog 11 #[.slice (some ⟨w.heap.size, 0, none⟩) 1 1] (w.alloc (.cells #[.string ⟨#[112, 97, 116, 104]⟩, .string ⟨#[97]⟩] 37)) fun e w' => ∃ u, e = .returned (.tuple #[u, .int .i64 0]) ∧ SlV w' u (bl [57, 32, 112, 97, 116, 104, 61, 97, 10]) ∧ Below w.heap.size w w' := by
  have h : SlR (w.alloc (.cells #[.string ⟨#[112, 97, 116, 104]⟩, .string ⟨#[97]⟩] 37)) (.slice (some ⟨w.heap.size, 0, none⟩) 1 1) [([112, 97, 116, 104], [97])] := SlK_rec w _ _ _
  have hA : Below w.heap.size w (w.alloc (.cells #[.string ⟨#[112, 97, 116, 104]⟩, .string ⟨#[97]⟩] 37)) := (Below.refl _ _).alloc (Nat.le_refl _) _
  have hs : sums [([112, 97, 116, 104], [97])] = 9 := by kernel_rfl
  refine (put_walk _ _ _ h (by decide) (by intro r hr; rw [List.mem_singleton] at hr; subst hr; decide) (hP.below hA (Nat.le_refl _))).mono ?_
  rintro e w' ⟨hb, ⟨⟨r, hr, h1⟩, _⟩ | ⟨_, h1, _⟩ | ⟨_, _, u, h1, h2⟩⟩
  · rw [List.mem_singleton] at hr; subst hr; rw [ex4] at h1; cases h1
  · rw [hs] at h1; omega
  · rw [ex5] at h2
    exact ⟨u, h1, own_toV h2, hA.trans (hb.mono hA.size)⟩
theorem size_path (w : World) (hP : PxAt w) : Calls Tryd.prog 15 #[.agg #[.string ⟨#[112, 97, 116, 104]⟩, .string ⟨#[97]⟩]] w fun e w' => e = .returned (.int .i64 9) ∧ Below w.heap.size w w' := by
  have := size_walk ([112, 97, 116, 104], [97]) w (by decide) hP
  rw [ex4] at this
  exact this
def TellsPost (w : World) (e : Ending) (w' : World) : Prop := e = .returned (.bool true) ∧ Below w.heap.size w w'
set_option maxRecDepth 100000 in
set_option maxHeartbeats 1000000 in
theorem tells_walk (w : World) (hP : PxAt w) : Calls Tryd.prog 17 #[] w (TellsPost w) := by
  have HP := Lib.hid hP
  clear hP
  have kc := conv_const
  go_enter Tryd.func17, Tryd.ntmps17
  go_wp2_with (first
    | ((with_reducible refine (put_path _ HP.out).mono ?_); rintro e w1 ⟨u, rfl, h1, b1⟩; have H1 := Lib.hid h1; have B1 := Lib.hid b1; have HP1 := Lib.hid (HP.out.below b1 (Nat.le_refl _)); obtain ⟨pu, cu, hu⟩ := h1.shape; subst hu; clear h1 b1)
    | ((with_reducible refine (get7 _ _ rfl HP1.out).mono ?_); rintro e w2 ⟨rfl, hb⟩; have H2 := Lib.hid (H1.out.below hb (Nat.le_refl _)); have B2 : Hid (Below w.heap.size w w2) := Lib.hid (B1.out.trans (hb.mono B1.out.size)); have HP2 := Lib.hid (HP.out.below B2.out (Nat.le_refl _)); clear hb)
    | ((with_reducible refine (get8 _ _ rfl HP2.out).mono ?_); rintro e w3 ⟨rfl, hb⟩; have H3 := Lib.hid (H2.out.below hb (Nat.le_refl _)); have B3 : Hid (Below w.heap.size w w3) := Lib.hid (B2.out.trans (hb.mono B2.out.size)); have HP3 := Lib.hid (HP.out.below B3.out (Nat.le_refl _)); clear hb)
    | ((with_reducible refine (get10 _ _ rfl HP3.out).mono ?_); rintro e w4 ⟨rfl, hb⟩; have H4 := Lib.hid (H3.out.below hb (Nat.le_refl _)); have B4 : Hid (Below w.heap.size w w4) := Lib.hid (B3.out.trans (hb.mono B3.out.size)); have HP4 := Lib.hid (HP.out.below B4.out (Nat.le_refl _)); have hcv : (convert 26 9 (.slice pu 9 cu)).run Tryd.prog w4 = .ok (.string ⟨#[57, 32, 112, 97, 116, 104, 61, 97, 10]⟩) w4 := run_toString H4.out; clear hb)
    | ((with_reducible refine (size_path _ HP4.out).mono ?_); rintro e w5 ⟨rfl, hb⟩; have B5 : Hid (Below w.heap.size w w5) := Lib.hid (B4.out.trans (hb.mono B4.out.size)); clear hb))
  go_ret
  exact ⟨rfl, B5.out⟩
end Go.Proofs.YtjgphicmkmdeiaaDoor
