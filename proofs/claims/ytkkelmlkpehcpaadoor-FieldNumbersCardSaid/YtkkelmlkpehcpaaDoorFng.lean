/-
  The law FieldNumbers: the program's Octal, Wide and Number tell what the document's own tell.
-/
import Derived.Test.YtkkelmlkpehcpaaDoorFna
import Derived.Test.YtkkelmlkpehcpaaDoorFnf
import Derived.Test.YtkkelmlkpehcpaaDoorFe
namespace Go.Proofs.YtkkelmlkpehcpaaDoor
open Go.RowKit

set_option maxRecDepth 100000 in
set_option maxHeartbeats 2000000 in
theorem numbers_walk (w : World) (n many : Int) (h1 : -9223372036854775808 ≤ n) (h2 : n < 9223372036854775808) (v : Value) (l : List UInt8) (hv : SlV w v (bl l)) (hl : l.length ≤ 9223372036854775807) (ht : TzAt w) :
    Calls Tryd.prog 3 #[.int .i64 n, .int .i64 many, v] w (WakesPost w) := by
  obtain ⟨p, cap, rfl⟩ := hv.shape
  rw [bl_length] at hv ⊢
  obtain ⟨k, hk⟩ : ∃ k : Nat, min (l.length : Int) 24 = (k : Int) := ⟨min l.length 24, by omega⟩
  have hsl := slice_toB hv k (by omega)
  have hlI : (l.length : Int) ≤ 9223372036854775807 := by omega
  have HV := Lib.hid (hv.take k (by omega))
  rw [bl_take] at HV
  have HLK : Hid ((l.take k).length ≤ 24) := Lib.hid (by rw [List.length_take]; omega)
  generalize l.take k = x at *
  have HT := Lib.hid ht
  have HO := Lib.hid (octal_walk w n many h1 h2 ht)
  have HRO : Hid (∀ w, _) := Lib.hid (fun w => roctal_walk w n many h2)
  have HW : Hid (∀ w, _) := Lib.hid (fun w => wide_walk w n many h1 h2)
  have HRW : Hid (∀ w, _) := Lib.hid (fun w => rwide_walk w n many h1 h2)
  clear h1 h2 hl ht hv
  go_enter Tryd.func3, Tryd.ntmps3
  go_wp2_with (first
    | ((with_reducible refine HO.out.mono ?_); rintro e w1 ⟨v1, rfl, h1, b1⟩; have H1 := Lib.hid h1.toV; have B1 := Lib.hid b1; clear h1 b1)
    | ((with_reducible refine (HRO.out w1).mono ?_); rintro e w2 ⟨v2, rfl, h2, b2⟩; have H2 := Lib.hid h2.toV; have T2 : Hid (Below w.heap.size w w2) := Lib.hid (B1.out.trans (b2.mono B1.out.size)); have H12 := Lib.hid (H1.out.below b2 (Nat.le_refl _)); clear h2 b2)
    | ((with_reducible refine (HW.out w2).mono ?_); rintro e w3 ⟨v3, rfl, h3, b3⟩; have H3 := Lib.hid h3.toV; have T3 : Hid (Below w.heap.size w w3) := Lib.hid (T2.out.trans (b3.mono T2.out.size)); have H13 := Lib.hid (H12.out.below b3 (Nat.le_refl _)); have H23 := Lib.hid (H2.out.below b3 (Nat.le_refl _)); clear h3 b3)
    | ((with_reducible refine (HRW.out w3).mono ?_); rintro e w4 ⟨v4, rfl, h4, b4⟩; have H4 := Lib.hid h4.toV; have T4 : Hid (Below w.heap.size w w4) := Lib.hid (T3.out.trans (b4.mono T3.out.size)); have H14 := Lib.hid (H13.out.below b4 (Nat.le_refl _)); have H24 := Lib.hid (H23.out.below b4 (Nat.le_refl _)); have H34 := Lib.hid (H3.out.below b4 (Nat.le_refl _)); have HV4 := Lib.hid (HV.out.below T4.out (Nat.le_refl _)); clear h4 b4)
    | ((with_reducible refine (number_walk w4 _ x HV4.out (by have := HLK.out; omega)).mono ?_); rintro e w' ⟨rfl, rfl⟩)
    | ((with_reducible refine (rnumber_walk w4 _ x HV4.out).mono ?_); rintro e w5 ⟨rfl, b5⟩; have T5 : Hid (Below w.heap.size w w5) := Lib.hid (T4.out.trans (b5.mono T4.out.size)); have H15 := Lib.hid (H14.out.below b5 (Nat.le_refl _)); have H25 := Lib.hid (H24.out.below b5 (Nat.le_refl _)); have H35 := Lib.hid (H34.out.below b5 (Nat.le_refl _)); have H45 := Lib.hid (H4.out.below b5 (Nat.le_refl _)); clear b5)
    | ((with_reducible refine (equal_same w5 v1 v2 _ H15.out H25.out).mono ?_); rintro e w' ⟨rfl, rfl⟩)
    | ((with_reducible refine (equal_same _ v3 v4 _ H35.out H45.out).mono ?_); rintro e w' ⟨rfl, rfl⟩)
    | ((with_reducible refine (wakes_walk _ (HT.out.below T5.out (Nat.le_refl _))).mono ?_); rintro e w6 ⟨rfl, b6⟩; have T6 : Hid (Below w.heap.size w w6) := Lib.hid (T5.out.trans (b6.mono T5.out.size)); clear b6))
  go_ret
  exact ⟨rfl, T6.out⟩
end Go.Proofs.YtkkelmlkpehcpaaDoor
