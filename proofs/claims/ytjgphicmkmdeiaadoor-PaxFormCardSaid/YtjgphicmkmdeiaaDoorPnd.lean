/-
  The law of numbers' texts beside the document's own.
-/
import Derived.Test.YtjgphicmkmdeiaaDoorPnc
namespace Go.Proofs.YtjgphicmkmdeiaaDoor
open Go.RowKit Go.Maps

theorem rnum_walk (w : World) (l : List UInt8) (hm : l.length ≤ 1000) : Calls Tryd.prog 22 #[.string ⟨l.toArray⟩] w (NumPost l w) := by
  by_cases h : ∃ t, l = 45 :: t
  · obtain ⟨t, ht⟩ := h
    exact rnum_neg w l ⟨l.toArray⟩ rfl hm t ht
  · exact rnum_pos w l ⟨l.toArray⟩ rfl hm (fun t ht => h ⟨t, ht⟩)
set_option maxRecDepth 100000 in
set_option maxHeartbeats 1000000 in
theorem numbers_walk (w : World) (n : Int) (h0 : -9223372036854775808 ≤ n) (h1 : n ≤ 9223372036854775807) (s : List UInt8) (hs : s.length ≤ maxLen) (hP : PxAt w) : Calls Tryd.prog 5 #[.int .i64 n, .string ⟨s.toArray⟩] w (TellsPost w) := by
  unfold maxLen at hs
  have hcut := cutN s 30
  have hsz : (⟨s.toArray⟩ : ByteArray).size = s.length := by simp [ByteArray.size]
  obtain ⟨bs, hbs⟩ : ∃ bs, (⟨s.toArray⟩ : ByteArray) = bs := ⟨_, rfl⟩
  rw [hbs] at hsz hcut ⊢
  have hs2 : (bs.size : Int) ≤ 9223372036854775807 := by omega
  have hx6 : (s.take 30).length ≤ 30 := List.length_take_le _ _
  obtain ⟨x, hx⟩ : ∃ x, s.take 30 = x := ⟨_, rfl⟩
  rw [hx] at hx6 hcut
  have hcut1 : bs.extract 0 (min (bs.size : Int) 30).toNat = ⟨x.toArray⟩ := hcut
  have HT : Hid (∀ w1, Below w.heap.size w w1 → Calls Tryd.prog 23 #[.int .i64 n] w1 fun e w' => e = .returned (.string ⟨(Lib.itoa n).toArray⟩) ∧ Below w.heap.size w w') := Lib.hid (fun w1 hb =>
    (text_walk w1 n h0 h1 (hP.below hb (Nat.le_refl _))).mono fun _ _ ⟨h1, h2⟩ => ⟨h1, hb.trans (h2.mono hb.size)⟩)
  have HT2 : Hid (∀ w1, Below w.heap.size w w1 → Calls Tryd.prog 24 #[.int .i64 n] w1 fun e w' => e = .returned (.string ⟨(Lib.itoa n).toArray⟩) ∧ Below w.heap.size w w') := Lib.hid (fun w1 hb =>
    (rtext_walk w1 n h0 h1).mono fun _ _ ⟨h1, h2⟩ => ⟨h1, hb.trans (h2.mono hb.size)⟩)
  have HN1 : Hid (∀ w1, Below w.heap.size w w1 → Calls Tryd.prog 21 #[.string ⟨x.toArray⟩] w1 fun e w' => e = .returned (.tuple #[.int .i64 ((num x).getD 0), .bool (num x).isSome]) ∧ Below w.heap.size w w') := Lib.hid (fun w1 hb =>
    (number_list w1 x (by omega) (hP.below hb (Nat.le_refl _))).mono fun _ _ ⟨h1, h2⟩ => ⟨h1, hb.trans (h2.mono hb.size)⟩)
  have HN2 : Hid (∀ w1, Below w.heap.size w w1 → Calls Tryd.prog 22 #[.string ⟨x.toArray⟩] w1 fun e w' => e = .returned (.tuple #[.int .i64 ((num x).getD 0), .bool (num x).isSome]) ∧ Below w.heap.size w w') := Lib.hid (fun w1 hb =>
    (rnum_walk w1 x (by omega)).mono fun _ _ ⟨h1, h2⟩ => ⟨h1, hb.trans (h2.mono hb.size)⟩)
  have HW : Hid (∀ w1, Below w.heap.size w w1 → Calls Tryd.prog 17 #[] w1 (TellsPost w)) := Lib.hid (fun w1 hb =>
    (tells_walk w1 (hP.below hb (Nat.le_refl _))).mono fun _ _ ⟨h1, h2⟩ => ⟨h1, hb.trans (h2.mono hb.size)⟩)
  obtain ⟨bn, hbn⟩ : ∃ b, (⟨(Lib.itoa n).toArray⟩ : ByteArray) = b := ⟨_, rfl⟩
  obtain ⟨bx, hbx⟩ : ∃ b, (⟨x.toArray⟩ : ByteArray) = b := ⟨_, rfl⟩
  rw [hbn] at HT HT2
  rw [hbx] at HN1 HN2 hcut1
  generalize (num x).getD 0 = k at *
  generalize (num x).isSome = f at *
  have HC0 := Lib.hid (HN1.out _ (Below.refl _ _))
  have hkk : (k == k) = true := beq_self_eq_true k
  have hff : (f == f) = true := beq_self_eq_true f
  have hnn : (bn.toList == bn.toList) = true := beq_self_eq_true _
  clear hsz hbs hs hx hcut hx6 hP hbn hbx
  go_enter Tryd.func5, Tryd.ntmps5
  go_wp2_with (first
    | ((with_reducible refine HC0.out.mono ?_); rintro e w1 ⟨rfl, hb⟩; have HC1 := Lib.hid (HN2.out _ hb); clear hb)
    | ((with_reducible refine HC1.out.mono ?_); rintro e w2 ⟨rfl, hb⟩; have HC2 := Lib.hid (HT.out _ hb); clear hb)
    | ((with_reducible refine HC2.out.mono ?_); rintro e w3 ⟨rfl, hb⟩; have HC3 := Lib.hid (HT2.out _ hb); clear hb)
    | ((with_reducible refine HC3.out.mono ?_); rintro e w4 ⟨rfl, hb⟩; have HC4 := Lib.hid (HW.out _ hb); clear hb)
    | ((with_reducible refine HC4.out.mono ?_); rintro e w5 ⟨rfl, hb⟩; have HB := Lib.hid hb; clear hb))
  go_ret
  exact ⟨rfl, HB.out⟩
end Go.Proofs.YtjgphicmkmdeiaaDoor
