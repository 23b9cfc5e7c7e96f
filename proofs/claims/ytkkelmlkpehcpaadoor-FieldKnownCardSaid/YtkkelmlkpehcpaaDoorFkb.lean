/-
  The law FieldKnown: the document's examples.
-/
import Derived.Test.YtkkelmlkpehcpaaDoorFka
namespace Go.Proofs.YtkkelmlkpehcpaaDoor
open Go.RowKit

set_option maxRecDepth 100000 in
set_option maxHeartbeats 4000000 in
theorem known_walk (w : World) (ht : TzAt w) : Calls Tryd.prog 9 #[] w (WakesPost w) := by
  have HT := Lib.hid ht
  clear ht
  have kc := conv_const
  have hmk := made21
  go_enter Tryd.func9, Tryd.ntmps9
  simp only [List.append_eq, List.cons_append, List.nil_append]
  go_wp2_with (first
    | ((with_reducible refine (field_nil w).mono ?_); rintro e w1 ⟨rfl, b1⟩; have B1 := Lib.hid b1; have T1 : Hid (Below w.heap.size w w1) := Lib.hid ((Below.refl w.heap.size w).trans (b1.mono (Below.refl w.heap.size w).size)); clear b1)
    | ((with_reducible refine (set_nil1 w1 _).mono ?_); rintro e w2 ⟨rfl, b2⟩; have B2 := Lib.hid b2; have T2 : Hid (Below w.heap.size w w2) := Lib.hid (T1.out.trans (b2.mono T1.out.size)); clear b2)
    | ((with_reducible refine (sum_nil w2).mono ?_); rintro e w' ⟨rfl, rfl⟩)
    | ((with_reducible refine (check_nil w2).mono ?_); rintro e w' ⟨rfl, rfl⟩)
    | ((with_reducible refine (zero_nil w2).mono ?_); rintro e w' ⟨rfl, rfl⟩)
    | ((with_reducible refine (seal_nil w2).mono ?_); rintro e w' ⟨rfl, rfl⟩)
    | ((with_reducible refine (oct_1_1 w2 (HT.out.below T2.out (Nat.le_refl _))).mono ?_); rintro e w3 ⟨v3, rfl, _, b3⟩; have B3 := Lib.hid b3; have T3 : Hid (Below w.heap.size w w3) := Lib.hid (T2.out.trans (b3.mono T2.out.size)); clear b3)
    | ((with_reducible refine (oct_1_21 w3 (HT.out.below T3.out (Nat.le_refl _))).mono ?_); rintro e w4 ⟨v4, rfl, _, b4⟩; have B4 := Lib.hid b4; have T4 : Hid (Below w.heap.size w w4) := Lib.hid (T3.out.trans (b4.mono T3.out.size)); clear b4)
    | ((with_reducible refine (oct_m1_8 w4 (HT.out.below T4.out (Nat.le_refl _))).mono ?_); rintro e w5 ⟨v5, rfl, _, b5⟩; have B5 := Lib.hid b5; have T5 : Hid (Below w.heap.size w w5) := Lib.hid (T4.out.trans (b5.mono T4.out.size)); clear b5)
    | ((with_reducible refine (oct_8_2 w5 (HT.out.below T5.out (Nat.le_refl _))).mono ?_); rintro e w6 ⟨v6, rfl, _, b6⟩; have B6 := Lib.hid b6; have T6 : Hid (Below w.heap.size w w6) := Lib.hid (T5.out.trans (b6.mono T5.out.size)); clear b6)
    | ((with_reducible refine (oct_7_2 w6 (HT.out.below T6.out (Nat.le_refl _))).mono ?_); rintro e w7 ⟨vf, rfl, h7, b7⟩; have B7 := Lib.hid b7; have T7 : Hid (Below w.heap.size w w7) := Lib.hid (T6.out.trans (b7.mono T6.out.size)); have HF_7 : Hid (SlV w7 vf (bl [55, 0])) := Lib.hid h7.toV; clear h7; clear b7)
    | ((with_reducible refine (wid_1_1 w7).mono ?_); rintro e w8 ⟨v8, rfl, _, b8⟩; have B8 := Lib.hid b8; have T8 : Hid (Below w.heap.size w w8) := Lib.hid (T7.out.trans (b8.mono T7.out.size)); have HF_8 : Hid (SlV w8 vf (bl [55, 0])) := Lib.hid (HF_7.out.below b8 (Nat.le_refl _)); clear b8)
    | ((with_reducible refine (wid_p_2 w8).mono ?_); rintro e w9 ⟨v9, rfl, _, b9⟩; have B9 := Lib.hid b9; have T9 : Hid (Below w.heap.size w w9) := Lib.hid (T8.out.trans (b9.mono T8.out.size)); have HF_9 : Hid (SlV w9 vf (bl [55, 0])) := Lib.hid (HF_8.out.below b9 (Nat.le_refl _)); clear b9)
    | ((with_reducible refine (wid_m_2 w9).mono ?_); rintro e w10 ⟨vj, rfl, h10, b10⟩; have B10 := Lib.hid b10; have T10 : Hid (Below w.heap.size w w10) := Lib.hid (T9.out.trans (b10.mono T9.out.size)); have HF_10 : Hid (SlV w10 vf (bl [55, 0])) := Lib.hid (HF_9.out.below b10 (Nat.le_refl _)); have HJ_10 : Hid (SlV w10 vj (bl [192, 0])) := Lib.hid h10.toV; clear h10; clear b10)
    | ((with_reducible refine (wid_min w10).mono ?_); rintro e w11 ⟨vl, ll, rfl, h11, hn11, hl11, b11⟩; have B11 := Lib.hid b11; have T11 : Hid (Below w.heap.size w w11) := Lib.hid (T10.out.trans (b11.mono T10.out.size)); have HF_11 : Hid (SlV w11 vf (bl [55, 0])) := Lib.hid (HF_10.out.below b11 (Nat.le_refl _)); have HJ_11 : Hid (SlV w11 vj (bl [192, 0])) := Lib.hid (HJ_10.out.below b11 (Nat.le_refl _)); have HL := Lib.hid h11; have HLN := Lib.hid (And.intro hn11 hl11); clear h11 hn11 hl11; clear b11)
    | ((with_reducible refine (num_of w11 _ ll (-9223372036854775808) HL.out HLN.out.1 HLN.out.2).mono ?_); rintro e w' ⟨rfl, rfl⟩)
    | (refine wpList_app19 (w0 := w11) rfl (.tmp 111) rfl rfl rfl ?_; intro vp w12 hp b12; have HP := Lib.hid hp; have B12 := Lib.hid b12; have T12 : Hid (Below w.heap.size w w12) := Lib.hid (T11.out.trans (b12.mono T11.out.size)); have HF_12 : Hid (SlV w12 vf (bl [55, 0])) := Lib.hid (HF_11.out.below b12 (Nat.le_refl _)); have HJ_12 : Hid (SlV w12 vj (bl [192, 0])) := Lib.hid (HJ_11.out.below b12 (Nat.le_refl _)); clear hp b12; simp only [Act.put, Array.setIfInBounds])
    | ((with_reducible refine (num129 w12 _ HP.out).mono ?_); rintro e w' ⟨rfl, rfl⟩)
    | ((with_reducible refine (num_nil w12).mono ?_); rintro e w' ⟨rfl, rfl⟩)
    | ((with_reducible refine (num21 w12 _ (by simp)).mono ?_); rintro e w13 ⟨rfl, b13⟩; have B13 := Lib.hid b13; have T13 : Hid (Below w.heap.size w w13) := Lib.hid (T12.out.trans (b13.mono T12.out.size)); have HF_13 : Hid (SlV w13 vf (bl [55, 0])) := Lib.hid (HF_12.out.below b13 (Nat.le_refl _)); have HJ_13 : Hid (SlV w13 vj (bl [192, 0])) := Lib.hid (HJ_12.out.below b13 (Nat.le_refl _)); clear b13)
    | ((with_reducible refine (numFF w13 _ (by simp)).mono ?_); rintro e w14 ⟨rfl, b14⟩; have B14 := Lib.hid b14; have T14 : Hid (Below w.heap.size w w14) := Lib.hid (T13.out.trans (b14.mono T13.out.size)); have HF_14 : Hid (SlV w14 vf (bl [55, 0])) := Lib.hid (HF_13.out.below b14 (Nat.le_refl _)); have HJ_14 : Hid (SlV w14 vj (bl [192, 0])) := Lib.hid (HJ_13.out.below b14 (Nat.le_refl _)); clear b14)
    | ((with_reducible refine (num7s8 w14 _ (by simp)).mono ?_); rintro e w15 ⟨rfl, b15⟩; have B15 := Lib.hid b15; have T15 : Hid (Below w.heap.size w w15) := Lib.hid (T14.out.trans (b15.mono T14.out.size)); have HF_15 : Hid (SlV w15 vf (bl [55, 0])) := Lib.hid (HF_14.out.below b15 (Nat.le_refl _)); have HJ_15 : Hid (SlV w15 vj (bl [192, 0])) := Lib.hid (HJ_14.out.below b15 (Nat.le_refl _)); clear b15)
    | ((with_reducible refine (num78 w15 _ (by simp)).mono ?_); rintro e w16 ⟨rfl, b16⟩; have B16 := Lib.hid b16; have T16 : Hid (Below w.heap.size w w16) := Lib.hid (T15.out.trans (b16.mono T15.out.size)); have HF_16 : Hid (SlV w16 vf (bl [55, 0])) := Lib.hid (HF_15.out.below b16 (Nat.le_refl _)); have HJ_16 : Hid (SlV w16 vj (bl [192, 0])) := Lib.hid (HJ_15.out.below b16 (Nat.le_refl _)); clear b16)
    | ((with_reducible refine (numnul w16 _ (by simp)).mono ?_); rintro e w17 ⟨rfl, b17⟩; have B17 := Lib.hid b17; have T17 : Hid (Below w.heap.size w w17) := Lib.hid (T16.out.trans (b17.mono T16.out.size)); have HF_17 : Hid (SlV w17 vf (bl [55, 0])) := Lib.hid (HF_16.out.below b17 (Nat.le_refl _)); have HJ_17 : Hid (SlV w17 vj (bl [192, 0])) := Lib.hid (HJ_16.out.below b17 (Nat.le_refl _)); clear b17)
    | ((with_reducible refine (text_abc w17).mono ?_); rintro e w18 ⟨v18, rfl, _, b18⟩; have B18 := Lib.hid b18; have T18 : Hid (Below w.heap.size w w18) := Lib.hid (T17.out.trans (b18.mono T17.out.size)); have HF_18 : Hid (SlV w18 vf (bl [55, 0])) := Lib.hid (HF_17.out.below b18 (Nat.le_refl _)); have HJ_18 : Hid (SlV w18 vj (bl [192, 0])) := Lib.hid (HJ_17.out.below b18 (Nat.le_refl _)); have BA : Hid (Below w18.heap.size w18 (w18.alloc (.cells Tryd.zeroCells40 40))) := Lib.hid ((Below.refl w18.heap.size w18).alloc (Nat.le_refl _) _); have BB : Hid (Below w18.heap.size w18 ((w18.alloc (.cells Tryd.zeroCells40 40)).alloc (.cells #[.int .u8 192, .int .u8 0] 5))) := Lib.hid (BA.out.alloc BA.out.size _); have HJA : Hid (SlV (w18.alloc (.cells Tryd.zeroCells40 40)) vj (bl [192, 0])) := Lib.hid (HJ_18.out.below BA.out (Nat.le_refl _)); have ZBX : Hid (BlkAt ((w18.alloc (.cells Tryd.zeroCells40 40)).alloc (.cells #[.int .u8 192, .int .u8 0] 5)) w18.heap.size z512) := Lib.hid ((blk_new w18).below ((Below.refl (w18.alloc (.cells Tryd.zeroCells40 40)).heap.size (w18.alloc (.cells Tryd.zeroCells40 40))).alloc (Nat.le_refl _) _) (blk_new w18).lt); have cf := run_toString (HF_18.out.below BA.out (Nat.le_refl _)); clear b18)
    | ((with_reducible refine (equal_j _ _ vj HJA.out (by simp)).mono ?_); rintro e w' ⟨rfl, rfl⟩)
    | ((with_reducible refine (z_zero _ _ ZBX.out).mono ?_); rintro e w' ⟨rfl, rfl⟩)
    | ((with_reducible refine (z_check _ _ ZBX.out).mono ?_); rintro e w19 ⟨rfl, b19⟩; have T19 : Hid (Below w.heap.size w w19) := Lib.hid ((T18.out.trans (BB.out.mono T18.out.size)).trans (b19.mono (T18.out.trans (BB.out.mono T18.out.size)).size)); have ZB2 := Lib.hid (ZBX.out.below b19 ZBX.out.lt); clear b19)
    | ((with_reducible refine (z_sum w19 _ ZB2.out).mono ?_); rintro e w20 ⟨rfl, b20⟩; have B20 := Lib.hid b20; have T20 : Hid (Below w.heap.size w w20) := Lib.hid (T19.out.trans (b20.mono T19.out.size)); clear b20)
    | ((with_reducible refine (str_a0b w20 _ (by simp)).mono ?_); rintro e w21 ⟨rfl, b21⟩; have B21 := Lib.hid b21; have T21 : Hid (Below w.heap.size w w21) := Lib.hid (T20.out.trans (b21.mono T20.out.size)); clear b21)
    | ((with_reducible refine (wakes_walk w21 (HT.out.below T21.out (Nat.le_refl _))).mono ?_); rintro e w22 ⟨rfl, b22⟩; have B22 := Lib.hid b22; have T22 : Hid (Below w.heap.size w w22) := Lib.hid (T21.out.trans (b22.mono T21.out.size)); clear b22))
  go_ret
  exact ⟨rfl, T22.out⟩
end Go.Proofs.YtkkelmlkpehcpaaDoor
