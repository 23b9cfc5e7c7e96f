/-
  The law of numbers' texts, there and back.
-/
import Derived.Test.YtjgphicmkmdeiaaDoorPv
namespace Go.Proofs.YtjgphicmkmdeiaaDoor
open Go.RowKit Go.Maps

theorem cutN (s : List UInt8) (N : Nat) : (⟨s.toArray⟩ : ByteArray).extract 0 (min ((⟨s.toArray⟩ : ByteArray).size : Int) (N : Int)).toNat = ⟨(s.take N).toArray⟩ := by
  have hsz : (⟨s.toArray⟩ : ByteArray).size = s.length := by simp [ByteArray.size]
  rw [hsz]
  have e : (min (s.length : Int) (N : Int)).toNat = min s.length N := by omega
  rw [e]
  apply ByteArray.ext
  rw [ByteArray.data_extract]
  apply Array.ext'
  rw [Array.toList_extract]
  simp only [List.extract_eq_take_drop, Nat.sub_zero, List.drop_zero]
  rcases Nat.le_total s.length N with h | h
  · rw [Nat.min_eq_left h, List.take_of_length_le (by show s.length ≤ s.length; exact Nat.le_refl _), List.take_of_length_le h]
  · rw [Nat.min_eq_right h]
theorem number_list (w : World) (x : List UInt8) (hx : x.length ≤ 1000) (hP : PxAt w) :
    Calls Tryd.prog 21 #[.string ⟨x.toArray⟩] w fun e w' => e = .returned (.tuple #[.int .i64 ((num x).getD 0), .bool (num x).isSome]) ∧ Below w.heap.size w w' :=
  number_walk w ⟨x.toArray⟩ (by show x.toArray.size ≤ _; simp; omega) hP
theorem itoa_len (n : Int) (h0 : -9223372036854775808 ≤ n) (h1 : n ≤ 9223372036854775807) : (Lib.itoa n).length ≤ 1000 := by
  have hd : ∀ u : Nat, u ≤ 9223372036854775808 → (Lib.decDigits u).length ≤ 20 := fun u hu => by rw [Px.dec_len]; exact Px.dg_lt (k := 19) (by omega)
  unfold Lib.itoa
  split
  · have := hd n.natAbs (by omega); simp; omega
  · have := hd n.toNat (by omega); omega
set_option maxRecDepth 100000 in
set_option maxHeartbeats 1000000 in
theorem texts_walk (w : World) (n : Int) (h0 : -9223372036854775808 ≤ n) (h1 : n ≤ 9223372036854775807) (s : List UInt8) (hs : s.length ≤ maxLen) (hP : PxAt w) : Calls Tryd.prog 8 #[.int .i64 n, .string ⟨s.toArray⟩] w (TellsPost w) := by
  unfold maxLen at hs
  have hcut := cutN s 30
  have hsz : (⟨s.toArray⟩ : ByteArray).size = s.length := by simp [ByteArray.size]
  obtain ⟨bs, hbs⟩ : ∃ bs, (⟨s.toArray⟩ : ByteArray) = bs := ⟨_, rfl⟩
  rw [hbs] at hsz hcut ⊢
  have hs2 : (bs.size : Int) ≤ 9223372036854775807 := by omega
  have hx6 : (s.take 30).length ≤ 30 := List.length_take_le _ _
  obtain ⟨x, hx⟩ : ∃ x, s.take 30 = x := ⟨_, rfl⟩
  rw [hx] at hx6 hcut
  have hcut1 : bs.extract 0 (min (bs.size : Int) 30).toNat = ⟨x.toArray⟩ := hcut
  have HP := Lib.hid hP
  have HT : Hid (∀ w1, Below w.heap.size w w1 → Calls Tryd.prog 23 #[.int .i64 n] w1 fun e w' => e = .returned (.string ⟨(Lib.itoa n).toArray⟩) ∧ Below w.heap.size w w') := Lib.hid (fun w1 hb =>
    (text_walk w1 n h0 h1 (hP.below hb (Nat.le_refl _))).mono fun _ _ ⟨h1, h2⟩ => ⟨h1, hb.trans (h2.mono hb.size)⟩)
  have HN1 : Hid (∀ w1, Below w.heap.size w w1 → Calls Tryd.prog 21 #[.string ⟨(Lib.itoa n).toArray⟩] w1 fun e w' => e = .returned (.tuple #[.int .i64 n, .bool true]) ∧ Below w.heap.size w w') := Lib.hid (fun w1 hb => by
    have := number_list w1 (Lib.itoa n) (itoa_len n h0 h1) (hP.below hb (Nat.le_refl _))
    rw [Px.num_itoa n h0 (by omega)] at this
    exact this.mono fun _ _ ⟨h1, h2⟩ => ⟨h1, hb.trans (h2.mono hb.size)⟩)
  have HN2 : Hid (∀ w1, Below w.heap.size w w1 → Calls Tryd.prog 21 #[.string ⟨x.toArray⟩] w1 fun e w' => e = .returned (.tuple #[.int .i64 ((num x).getD 0), .bool (num x).isSome]) ∧ Below w.heap.size w w') := Lib.hid (fun w1 hb =>
    (number_list w1 x (by omega) (hP.below hb (Nat.le_refl _))).mono fun _ _ ⟨h1, h2⟩ => ⟨h1, hb.trans (h2.mono hb.size)⟩)
  have HW : Hid (∀ w1, Below w.heap.size w w1 → Calls Tryd.prog 17 #[] w1 (TellsPost w)) := Lib.hid (fun w1 hb =>
    (tells_walk w1 (hP.below hb (Nat.le_refl _))).mono fun _ _ ⟨h1, h2⟩ => ⟨h1, hb.trans (h2.mono hb.size)⟩)
  obtain ⟨bn, hbn⟩ : ∃ b, (⟨(Lib.itoa n).toArray⟩ : ByteArray) = b := ⟨_, rfl⟩
  obtain ⟨bx, hbx⟩ : ∃ b, (⟨x.toArray⟩ : ByteArray) = b := ⟨_, rfl⟩
  rw [hbn] at HT HN1
  rw [hbx] at HN2 hcut1
  have HC0 := Lib.hid (HT.out _ (Below.refl _ _))
  have hnn : (n == n) = true := beq_self_eq_true n
  rcases hnx : num x with _ | k
  · rw [hnx] at HN2
    simp only [Option.getD_none, Option.isSome_none] at HN2
    clear hsz hbs hs hx hcut hx6 hP hbn hbx hnx
    go_enter Tryd.func8, Tryd.ntmps8
    go_wp2_with (first
      | ((with_reducible refine HC0.out.mono ?_); rintro e w1 ⟨rfl, hb⟩; have HC1 := Lib.hid (HN1.out _ hb); clear hb)
      | ((with_reducible refine HC1.out.mono ?_); rintro e w2 ⟨rfl, hb⟩; have HC2 := Lib.hid (HN2.out _ hb); clear hb)
      | ((with_reducible refine HC2.out.mono ?_); rintro e w3 ⟨rfl, hb⟩; have HC3 := Lib.hid (HW.out _ hb); clear hb)
      | ((with_reducible refine HC3.out.mono ?_); rintro e w4 ⟨rfl, hb⟩; have HB := Lib.hid hb; clear hb))
    go_ret
    exact ⟨rfl, HB.out⟩
  · rw [hnx] at HN2
    simp only [Option.getD_some, Option.isSome_some] at HN2
    obtain ⟨hk1, hk2, hk3⟩ := (Px.num_iff x k).1 hnx
    have HTK : Hid (∀ w1, Below w.heap.size w w1 → Calls Tryd.prog 23 #[.int .i64 k] w1 fun e w' => e = .returned (.string bx) ∧ Below w.heap.size w w') := Lib.hid (fun w1 hb => by
      have := text_walk w1 k hk2 (by omega) (hP.below hb (Nat.le_refl _))
      rw [← hk1, hbx] at this
      exact this.mono fun _ _ ⟨h1, h2⟩ => ⟨h1, hb.trans (h2.mono hb.size)⟩)
    have hee : (bx.toList == bx.toList) = true := by simp
    clear hsz hbs hs hx hcut hx6 hP hbn hbx hnx hk1 hk2 hk3
    go_enter Tryd.func8, Tryd.ntmps8
    go_wp2_with (first
      | ((with_reducible refine HC0.out.mono ?_); rintro e w1 ⟨rfl, hb⟩; have HC1 := Lib.hid (HN1.out _ hb); clear hb)
      | ((with_reducible refine HC1.out.mono ?_); rintro e w2 ⟨rfl, hb⟩; have HC2 := Lib.hid (HN2.out _ hb); clear hb)
      | ((with_reducible refine HC2.out.mono ?_); rintro e w3 ⟨rfl, hb⟩; have HC3 := Lib.hid (HTK.out _ hb); clear hb)
      | ((with_reducible refine HC3.out.mono ?_); rintro e w4 ⟨rfl, hb⟩; have HC4 := Lib.hid (HW.out _ hb); clear hb)
      | ((with_reducible refine HC4.out.mono ?_); rintro e w5 ⟨rfl, hb⟩; have HB := Lib.hid hb; clear hb))
    go_ret
    exact ⟨rfl, HB.out⟩
end Go.Proofs.YtjgphicmkmdeiaaDoor
