/-
  Seal.
-/
import Derived.Test.YtkkelmlkpehcpaaDoorFc
namespace Go.Proofs.YtkkelmlkpehcpaaDoor
open Go.RowKit

/-- The chksum field, laid, of a number. -/
def chkL (n : Nat) : List UInt8 := Fx.pad 6 n ++ [0, 32]
def sealF (l : List UInt8) : List UInt8 := setF l 148 (chkL (sumF l))
theorem chkL_length (n : Nat) : (chkL n).length = 8 := by simp [chkL]
theorem sumF_le (l : List UInt8) (h : l.length = 512) : sumF l ≤ 130560 := by
  have := sumB_le (setF l 148 blanks)
  rw [setF_length l 148 blanks (by rw [h, blanks_len]; omega), h] at this
  exact this
theorem oct7 (w : World) (n : Nat) (hn : n < 262144) (h : TzAt w) : Calls Tryd.prog 10 #[.int .i64 (n : Int), .int .i64 7] w (MadePost (Fx.pad 6 n ++ [0]) 0 w) := by
  obtain ⟨e1, e2⟩ := oct_ok n 7 (by decide) (by decide) (by simpa using hn)
  have := octal_walk w n 7 (by omega) (by omega) h
  rw [show ((7 : Nat) : Int) = 7 from rfl] at e1 e2
  rw [e1, e2] at this
  exact this
theorem TzAt.below {w w' : World} {B : Nat} (h : TzAt w) (hb : Below B w w') (hB : w.heap.size ≤ B) : TzAt w' :=
  (hb.cell (p := ⟨3, 7, none⟩) (Nat.lt_of_lt_of_le (block_lt_of_cell h) hB)).trans h
theorem add0 (g : Nat) : (⟨g, 0, none⟩ : Addr).add 0 = ⟨g, 0, none⟩ := by unfold Addr.add; split <;> simp_all
theorem chk_shape {B : Nat} {w : World} {v : Value} {n : Nat} (h : OwnM B w v (Fx.pad 6 n ++ [0] ++ [32])) : ∃ p c, v = .slice p 8 c ∧ Hid (SlV w (.slice p 8 c) (bl (chkL n))) := by
  have hv := h.toV
  rw [List.append_assoc] at hv
  obtain ⟨p, c, rfl⟩ := hv.shape
  have e : (bl (Fx.pad 6 n ++ ([0] ++ [32]))).length = 8 := by simp
  rw [e] at hv ⊢
  exact ⟨p, c, rfl, Lib.hid hv⟩
def SealPost (g : Nat) (l : List UInt8) (w : World) (e : Ending) (w' : World) : Prop := e = .returned (.tuple #[]) ∧ BlkAt w' g (sealF l) ∧ OnlyS (· = g) w w'
set_option maxRecDepth 100000 in
set_option maxHeartbeats 1000000 in
theorem seal_walk (w : World) (g : Nat) (l : List UInt8) (h : BlkAt w g l) (ht : TzAt w) : Calls Tryd.prog 31 #[.pointer (some ⟨g, 0, none⟩)] w (SealPost g l w) := by
  have H := Lib.hid h
  have HT := Lib.hid ht
  have HSL := Lib.hid (sumF_le l h.len)
  clear h ht
  go_enter Tryd.func31, Tryd.ntmps31
  go_wp2_with (first
    | ((with_reducible refine (sum_walk w g l H.out).mono ?_); rintro e w1 ⟨rfl, hb⟩; have HB := Lib.hid hb; clear hb)
    | ((with_reducible refine (oct7 w1 (sumF l) (by have := HSL.out; omega) (HT.out.below HB.out (Nat.le_refl _))).mono ?_); rintro e w2 ⟨v2, rfl, ho2, hb2⟩; have HO := Lib.hid ho2; have HB2 := Lib.hid hb2; clear ho2 hb2)
    | (refine wpList_app1 rfl (.tmp 13) (.tmp 14) rfl w1.heap.size v2 (Fx.pad 6 (sumF l) ++ [0]) 32 ⟨w2.heap.size, 0, none⟩ 1 rfl rfl (HO.out.below ((Below.refl w2.heap.size w2).alloc (Nat.le_refl _) _) (Nat.le_refl _)) (by rw [add0]; exact cell_of_row _ _ 0 _ _ _ (heap_alloc_new _ _)) (by simp) (by have := HB2.out.size; simp; omega) ?_; intro v3 w3 ho3 hb3; have HO3 := Lib.hid ho3; have HB3 : Hid (Below w1.heap.size w1 w3) := Lib.hid (HB2.out.trans ((((Below.refl w2.heap.size w2).alloc (Nat.le_refl _) _).mono HB2.out.size).trans hb3)); clear ho3 hb3; have HW3 : Hid (BlkAt w3 g l) := Lib.hid ((H.out.below HB.out H.out.lt).below HB3.out (Nat.lt_of_lt_of_le H.out.lt HB.out.size)); obtain ⟨p3, c3, rfl, HV3⟩ := chk_shape HO3.out)
    | ((with_reducible refine (set_chk w3 g l HW3.out _ _ HV3.out (chkL_length _)).mono ?_); rintro e w4 ⟨rfl, hb4, ho4⟩; have HB4 := Lib.hid hb4; have HO4 := Lib.hid ho4; clear hb4 ho4))
  go_end0
  refine ⟨rfl, HB4.out, ?_⟩
  exact ((OnlyS.of_below HB.out).trans (OnlyS.of_below HB3.out)).trans HO4.out
end Go.Proofs.YtkkelmlkpehcpaaDoor
