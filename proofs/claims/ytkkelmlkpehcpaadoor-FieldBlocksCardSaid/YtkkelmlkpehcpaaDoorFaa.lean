/-
  The law of texts.
-/
import Derived.Test.YtkkelmlkpehcpaaDoorFh
import Derived.Test.YtkkelmlkpehcpaaDoorFe
namespace Go.Proofs.YtkkelmlkpehcpaaDoor
open Go.RowKit

theorem cutN (s : List UInt8) (N : Nat) : (⟨s.toArray⟩ : ByteArray).extract 0 (min ((⟨s.toArray⟩ : ByteArray).size : Int) (N : Int)).toNat = ⟨(s.take N).toArray⟩ := by
  have hsz : (⟨s.toArray⟩ : ByteArray).size = s.length := by simp [ByteArray.size]
  rw [hsz]
  have e : (min (s.length : Int) (N : Int)).toNat = min s.length N := by omega
  rw [e]
  apply ByteArray.ext
  rw [ByteArray.data_extract]
  apply Array.ext'
  rw [Array.toList_extract]
  simp only [List.extract_eq_take_drop, Nat.sub_zero, List.drop_zero]
  rcases Nat.le_total s.length N with h | h
  · rw [Nat.min_eq_left h, List.take_of_length_le (by show s.length ≤ s.length; exact Nat.le_refl _), List.take_of_length_le h]
  · rw [Nat.min_eq_right h]
theorem conv_own (w : World) (b : ByteArray) (l : List UInt8) (hb : b.data.toList = l) (hl : l.length ≤ 1099511627776) : SlV (Lib.bytesWorld w 5 b) (.slice (some ⟨w.heap.size, 0, none⟩) b.size (grownCap w b.size 0 5)) (bl l) := by
  have hsz : b.size = l.length := by rw [← hb]; exact Array.length_toList.symm
  exact (OwnM.conv' w b l b.size hsz hb hl).toV
set_option maxRecDepth 100000 in
set_option maxHeartbeats 1000000 in
theorem texts_walk (w : World) (s : List UInt8) (hs : s.length ≤ maxLen) (many : Int) (ht : TzAt w) : Calls Tryd.prog 4 #[.string ⟨s.toArray⟩, .int .i64 many] w (WakesPost w) := by
  have HT := Lib.hid ht
  unfold maxLen at hs
  have hcut := cutN s 600
  have hsz : (⟨s.toArray⟩ : ByteArray).size = s.length := by simp [ByteArray.size]
  obtain ⟨bs, hbs⟩ : ∃ bs, (⟨s.toArray⟩ : ByteArray) = bs := ⟨_, rfl⟩
  rw [hbs] at hsz hcut ⊢
  have hs2 : (bs.size : Int) ≤ 9223372036854775807 := by omega
  have hx6 : (s.take 600).length ≤ 600 := List.length_take_le _ _
  obtain ⟨x, hx⟩ : ∃ x, s.take 600 = x := ⟨_, rfl⟩
  rw [hx] at hx6 hcut
  have hcut1 : bs.extract 0 (min (bs.size : Int) 600).toNat = ⟨x.toArray⟩ := hcut
  have HX := Lib.hid hx6
  obtain ⟨L, hL⟩ : ∃ L, txtL x many = L := ⟨_, rfl⟩
  obtain ⟨E, hE⟩ : ∃ E, txtE x many = E := ⟨_, rfl⟩
  have HC1 : Hid (∀ w, _) := Lib.hid (fun w => text_walk w x many (by unfold maxLen; omega))
  have HC2 : Hid (∀ w, _) := Lib.hid (fun w => rtext_walk w x many (by omega))
  rw [hL, hE] at HC1 HC2
  have hee : (E == E) = true := by simp
  have ks := conv_str
  obtain ⟨bx, hbx⟩ : ∃ b, (⟨x.toArray⟩ : ByteArray) = b := ⟨_, rfl⟩
  rw [hbx] at HC1 HC2 hcut1
  have HBX := Lib.hid hbx
  clear hsz hbs hs hx hcut hx6 hL hE ht hbx
  go_enter Tryd.func4, Tryd.ntmps4
  go_wp2_with (first
    | ((with_reducible refine (HC1.out _).mono ?_); rintro e w1 ⟨v1, rfl, h1, b1⟩; have H1 := Lib.hid h1; have B1 := Lib.hid b1; clear h1 b1)
    | ((with_reducible refine (HC2.out _).mono ?_); rintro e w2 ⟨v2, rfl, h2, b2⟩; have H2 := Lib.hid h2.toV; have H12 := Lib.hid (H1.out.below b2 (Nat.le_refl _)).toV; have B2 : Hid (Below w.heap.size w w2) := Lib.hid (B1.out.trans (b2.mono B1.out.size)); clear h2 b2)
    | ((with_reducible refine (equal_same _ _ _ L H12.out H2.out).mono ?_); rintro e w3 ⟨rfl, rfl⟩)
    | ((with_reducible refine (string_walk _ _ x (conv_own w3 bx x (by rw [← HBX.out]) (by have := HX.out; omega)) (by have := HX.out; unfold maxLen; omega)).mono ?_); rintro e w4 ⟨rfl, hb⟩; have B4 : Hid (Below w.heap.size w w4) := Lib.hid ((B2.out.trans ((conv_below w3 bx).mono B2.out.size)).trans (hb.mono (Nat.le_trans B2.out.size (conv_below w3 bx).size))); clear hb)
    | ((with_reducible refine (rstring_walk _ _ x (conv_own w4 bx x (by rw [← HBX.out]) (by have := HX.out; omega)) (by have := HX.out; omega)).mono ?_); rintro e w5 ⟨rfl, rfl⟩; have B5 : Hid (Below w.heap.size w (Lib.bytesWorld w4 5 bx)) := Lib.hid (B4.out.trans ((conv_below w4 bx).mono B4.out.size)))
    | ((with_reducible refine (wakes_walk _ (HT.out.below B5.out (Nat.le_refl _))).mono ?_); rintro e w8 ⟨rfl, hb⟩; have B8 : Hid (Below w.heap.size w w8) := Lib.hid (B5.out.trans (hb.mono B5.out.size)); clear hb))
  go_ret
  exact ⟨rfl, B8.out⟩
end Go.Proofs.YtkkelmlkpehcpaaDoor
