/-
  look: the best match at a place, by the chains.
-/
import Derived.Test.YtghphgpbgekoiaaBest
import Derived.Deep.RegionHeld3
import Derived.Deep.RegionHeldLaw
import Derived.Deep.RegionLaw
namespace Go.Proofs.Ytghphgpbgekoiaa
open Go.RowKit
theorem bt {w w1 w2 : World} (h : Below w.heap.size w w1) (k : Below w1.heap.size w1 w2) : Below w.heap.size w w2 := h.trans (k.mono h.size)
theorem enters32 : ∀ args w, (callFunc 32 args).run Try.prog w = .ok (.enter 32 args) w := fun _ _ => rfl
theorem ahead_q {w0 : World} {gc : Nat} {vb vf : Value} {d : Int} {b : List UInt8} (h : ChAt w0 gc vb vf d b) (hb : b.length ≤ 32768) :
    ∀ w', Below w0.heap.size w0 w' → ∀ p, p + 3 ≤ b.length → Calls Try.prog 32 #[.pointer (some ⟨gc, 0, none⟩), .int .i64 (p : Int)] w' (QPost (.int .i64 (Mt.ahead b p)) w') := fun w' hw p hp =>
  (ahead_walk w' gc vb vf d b (h.below hw (Nat.le_refl _)) p hp hb).mono fun _ _ ⟨h1, h2⟩ => ⟨h1, 0, h2⟩
theorem cell3 {w : World} {g h o : Nat} {u : Value} (hne : h ≠ g) (hc : w.cell? ⟨h, o, none⟩ = some u) (y0 y1 y2 : Value) : (((w.setCell ⟨g, 0, none⟩ y0).setCell ⟨g, 1, none⟩ y1).setCell ⟨g, 2, none⟩ y2).cell? ⟨h, o, none⟩ = some u := by
  rw [World.cell?_of_block (a := ⟨h, o, none⟩) (other3 hne y0 y1 y2)]; exact hc
set_option maxRecDepth 100000 in
set_option maxHeartbeats 4000000 in
theorem look_walk (w : World) (gc : Nat) (vb vf : Value) (d : Int) (b : List UInt8) (h : ChAt w gc vb vf d b) (k : Nat) (hk : k ≤ b.length) (hb : b.length ≤ 32768) (hd1 : d ≤ 9223372036854775807) :
    Calls Try.prog 21 #[.pointer (some ⟨gc, 0, none⟩), .int .i64 (k : Int)] w fun e w' => e = .returned (stv (Mt.best b k d.toNat)) ∧ Below w.heap.size w w' := by
  have hmf : ∀ (fn : Fn) (first cap : Array Value) (w : World), (Instr.makeFunc fn first cap).run Try.prog w = .ok (.func fn first cap) w := fun _ _ _ _ => rfl
  have hB1 : Below w.heap.size w (w.alloc (.cells #[.int .i64 0, .int .i64 0, .int .u8 0] 32)) := (Below.refl _ _).alloc (Nat.le_refl _) _
  have hr1 := heap_alloc_new w (.cells #[.int .i64 0, .int .i64 0, .int .u8 0] 32)
  have h1 := h.below hB1 (Nat.le_refl _)
  have h0 := h.c0
  have c0 := h1.c0
  have c1 := h1.c1
  have HH := Lib.hid h1
  have HB1 := Lib.hid hB1
  have HR1 := Lib.hid hr1
  clear h h1 hB1 hr1
  obtain ⟨p, cap, rfl⟩ := HH.out.bs.shape
  obtain ⟨n, hn⟩ : ∃ n, n = b.length := ⟨_, rfl⟩
  rw [bl_length, ← hn] at HH c0
  have HN := Lib.hid hn
  clear hn
  obtain ⟨x, y, hxy⟩ : ∃ x y, Mt.best b k d.toNat = (x, y) := ⟨_, _, rfl⟩
  rw [hxy]
  have HXY := Lib.hid hxy
  clear hxy
  go_enter Try.func21, Try.ntmps21
  go_wp2_with fail
  generalize (w.alloc (.cells #[.int .i64 0, .int .i64 0, .int .u8 0] 32)) = w1 at *
  have HBST : Hid (∀ wx, Below w1.heap.size w1 wx → Calls Try.prog 22 #[.slice p n cap, .int .i64 (k : Int), .int .i64 d, .func (.func 32) #[.pointer (some ⟨gc, 0, none⟩)] #[]] wx fun e w' => e = .returned (.agg #[.int .i64 (x : Int), .int .i64 (y : Int), .int .u8 0]) ∧ Below wx.heap.size wx w') := Lib.hid (fun wx hx => by
    have hxc := HH.out.below hx (Nat.le_refl _)
    rw [HN.out]
    have hbw := best_walk 32 _ wx _ b k d (by have := hxc.bs; rw [HN.out] at this; exact this) hk hb hd1 enters32 (ahead_q hxc hb)
    rw [HXY.out] at hbw
    exact hbw)
  have HDR : Hid (Below w1.heap.size w1 w1.drew) := Lib.hid ⟨rfl, rfl, rfl, Nat.le_refl _, fun _ _ => rfl⟩
  have HGC : Hid (gc < w1.heap.size) := Lib.hid (block_lt_of_cell c0)
  have HC0 := Lib.hid c0
  have HNE : Hid (gc ≠ w.heap.size) := Lib.hid (fun e => by have := block_lt_of_cell h0; rw [e] at this; exact absurd this (Nat.lt_irrefl _))
  have HC1 := Lib.hid c1
  clear hk hb hd1
  go_region_held3 (fun w' => w'.cell? ⟨gc, 0, none⟩ = some (.slice p n cap) ∧ w'.cell? ⟨gc, 1, none⟩ = some (.int .i64 d))
    (first | go_keep | (refine ⟨?_, ?_⟩ <;> assumption) | (exact ⟨cell3 HNE.out y0 _ _ _, cell3 HNE.out y1 _ _ _⟩))
    (first
      | (go_at_call 22; refine (HBST.out _ HDR.out).mono ?_; rintro e wp ⟨rfl, hbp⟩; obtain ⟨z0, z1, z2, zf0, zf1, zf2⟩ := row3 ((hbp.block w.heap.size (Array.getElem?_eq_some_iff.1 HR1.out).1).trans HR1.out); have y0 := (hbp.cell (p := ⟨gc, 0, none⟩) HGC.out).trans HC0.out; have y1 := (hbp.cell (p := ⟨gc, 1, none⟩) HGC.out).trans HC1.out; have HBp := Lib.hid hbp; clear hbp))
  all_goals
    have hrr := set3 (y0 := .int .i64 (x : Int)) (y1 := .int .i64 (y : Int)) (y2 := .int .u8 0) ((HBp.out.block w.heap.size (Array.getElem?_eq_some_iff.1 HR1.out).1).trans HR1.out)
    go_wp2_with fail
    exact bodyPost_ret (results_cell_row (p := 4) (ty := 32) rfl _ _ w.heap.size 32 _ (0, 0) _ rfl hrr Try.underlying32 rfl info32s) rfl ⟨rfl, below3 (bt (bt HB1.out HDR.out) HBp.out) (Nat.le_refl _) _ _ _⟩
end Go.Proofs.Ytghphgpbgekoiaa
