/-
  Numbers' texts: Text, Number, how many digits.
-/
import Derived.Test.YtjgphicmkmdeiaaDoorPw
import Derived.Test.YtjgphicmkmdeiaaDoorPla
import Derived.Lib.AppendIntMem
import Derived.Lib.ItoaMem
import Derived.Lib.ParseIntBTie
namespace Go.Proofs.YtjgphicmkmdeiaaDoor
open Go.RowKit Go.Maps

/-- What the variables hold that numbers' texts lean on. -/
structure PxAt (w : World) : Prop where
  tab : Lib.TabIs Tryd.prog w "internal/strconv.uint64pow10" .u64 Lib.pow10Tab
  syn : ∃ ev, w.cell? ⟨0, 0, none⟩ = some ev ∧ (ev = .nilIface ∨ ∃ te pe, ev = .iface te pe)
  rng : ∃ ev, w.cell? ⟨1, 0, none⟩ = some ev ∧ (ev = .nilIface ∨ ∃ te pe, ev = .iface te pe)
theorem PxAt.below {w w' : World} {B : Nat} (h : PxAt w) (hb : Below B w w') (hB : w.heap.size ≤ B) : PxAt w' := by
  have hb' : Below w.heap.size w w' := hb.mono hB
  refine ⟨Lib.tabBelow_of_tabIs h.tab w' hb', ?_, ?_⟩
  · obtain ⟨ev, h1, h2⟩ := h.syn
    exact ⟨ev, by rw [hb'.cell (p := ⟨0, 0, none⟩) (block_lt_of_cell h1)]; exact h1, h2⟩
  · obtain ⟨ev, h1, h2⟩ := h.rng
    exact ⟨ev, by rw [hb'.cell (p := ⟨1, 0, none⟩) (block_lt_of_cell h1)]; exact h1, h2⟩
theorem grow_below' (w : World) (k : Nat) (os : Array Obj) : Below w.heap.size w (Sort.grow (w.drewN k) os) :=
  ⟨rfl, rfl, rfl, Lib.size_grow w k os, fun j hj => Lib.heap_grow_old w k os j hj⟩
theorem finterp_walk (w : World) (n : Int) (h0 : -9223372036854775808 ≤ n) (h1 : n ≤ 9223372036854775807) (hP : PxAt w) :
    Calls Tryd.prog 35 #[.int .i64 n, .int .i64 10] w fun e w' => e = .returned (.string ⟨(Lib.itoa n).toArray⟩) ∧ Below w.heap.size w w' :=
  (Any.strconv_FormatInt_10 Tryd.laysFi n h0 h1 w hP.tab).mono fun _ _ ⟨h, k, os, hw⟩ => ⟨h, by rw [hw]; exact grow_below' w k os⟩
set_option maxHeartbeats 400000 in
theorem text_walk (w : World) (n : Int) (h0 : -9223372036854775808 ≤ n) (h1 : n ≤ 9223372036854775807) (hP : PxAt w) :
    Calls Tryd.prog 23 #[.int .i64 n] w fun e w' => e = .returned (.string ⟨(Lib.itoa n).toArray⟩) ∧ Below w.heap.size w w' := by
  have HC := Lib.hid (finterp_walk w n h0 h1 hP)
  clear hP
  go_enter Tryd.func23, Tryd.ntmps23
  go_wp2_with ((with_reducible refine HC.out.mono ?_); rintro e w' ⟨rfl, hb⟩)
  go_ret
  exact ⟨rfl, hb⟩
/-- How many digits a number has. -/
abbrev dg (n : Nat) : Nat := Lib.nDigits n
theorem itoa_nat (n : Nat) : Lib.itoa (n : Int) = Lib.decDigits n := Lib.itoa_nonneg n
set_option maxHeartbeats 400000 in
theorem digits_walk (w : World) (n : Nat) (h1 : n ≤ 9223372036854775807) (hP : PxAt w) :
    Calls Tryd.prog 38 #[.int .i64 (n : Int)] w fun e w' => e = .returned (.int .i64 (dg n : Int)) ∧ Below w.heap.size w w' := by
  have HC := Lib.hid (text_walk w n (by omega) (by omega) hP)
  clear hP
  have hs : (⟨(Lib.itoa (n : Int)).toArray⟩ : ByteArray).size = dg n := by rw [itoa_nat]; show (Lib.decDigits n).toArray.size = _; rw [List.size_toArray, Lib.decDigits_length]
  obtain ⟨b, hb⟩ : ∃ b, (⟨(Lib.itoa (n : Int)).toArray⟩ : ByteArray) = b := ⟨_, rfl⟩
  rw [hb] at HC hs
  clear hb
  go_enter Tryd.func38, Tryd.ntmps38
  go_wp2_with ((with_reducible refine HC.out.mono ?_); rintro e w' ⟨rfl, hb⟩)
  go_ret
  exact ⟨rfl, hb⟩
/-- The number whose text this is. -/
def num (s : List UInt8) : Option Int := match Lib.parseIntB 64 s with
  | .ok v => if Lib.itoa v = s then some v else none
  | _ => none
theorem parse_ok (w : World) (s : ByteArray) (hs : s.size ≤ 281474976710656) (v : Int) (h : Lib.parseIntB 64 s.data.toList = .ok v) :
    Calls Tryd.prog 34 #[.string s, .int .i64 10, .int .i64 64] w fun e w' => e = .returned (.tuple #[.int .i64 v, .nilIface]) ∧ Below w.heap.size w w' :=
  (Any.strconv_ParseInt_10_at64_ok Tryd.laysPi s (by omega) v h w).mono fun _ _ ⟨h, hw⟩ => ⟨h, by
    rcases hw with rfl | ⟨t, rfl⟩
    · exact Below.refl _ _
    · exact conv_below w t⟩
theorem parse_no (w : World) (s : ByteArray) (hs : s.size ≤ 281474976710656) (h : ∀ v, Lib.parseIntB 64 s.data.toList ≠ .ok v) (hP : PxAt w) :
    Calls Tryd.prog 34 #[.string s, .int .i64 10, .int .i64 64] w fun e w' => ∃ n N, e = .returned (.tuple #[.int .i64 n, .iface 86 (.pointer (some ⟨N, 0, none⟩))]) ∧ Below w.heap.size w w' := by
  rcases hp : Lib.parseIntB 64 s.data.toList with v | _ | _
  · exact absurd hp (h v)
  · obtain ⟨ev, h1, h2⟩ := hP.syn
    exact (Any.strconv_ParseInt_10_at64_syntax Tryd.laysPi s hs hp ev w h1 h2).mono fun _ _ ⟨N, h, _, _, hb⟩ => ⟨0, N, h, hb⟩
  · obtain ⟨ev, h1, h2⟩ := hP.rng
    exact (Any.strconv_ParseInt_10_at64_range Tryd.laysPi s hs hp ev w h1 h2).mono fun _ _ ⟨N, h, _, _, hb⟩ => ⟨_, N, h, hb⟩
set_option maxHeartbeats 1000000 in
theorem number_walk (w : World) (s : ByteArray) (hs : s.size ≤ 281474976710656) (hP : PxAt w) :
    Calls Tryd.prog 21 #[.string s] w fun e w' => e = .returned (.tuple #[.int .i64 ((num s.data.toList).getD 0), .bool (num s.data.toList).isSome]) ∧ Below w.heap.size w w' := by
  by_cases hp : ∃ v, Lib.parseIntB 64 s.data.toList = .ok v
  · obtain ⟨v, hp⟩ := hp
    have hbd := Lib.parseIntB_bounds hp
    have h0 : -9223372036854775808 ≤ v := by have := hbd.1; simpa using this
    have h1 : v ≤ 9223372036854775807 := by have := hbd.2; have h9 : v < 9223372036854775808 := (by simpa using this); omega
    have HB := Lib.hid (parse_ok w s hs v hp)
    have HP := Lib.hid hP
    have HBD : Hid (-9223372036854775808 ≤ v ∧ v ≤ 9223372036854775807) := Lib.hid ⟨h0, h1⟩
    have hd : num s.data.toList = if Lib.itoa v = s.data.toList then some v else none := by unfold num; rw [hp]
    obtain ⟨b, hb⟩ : ∃ b, (⟨(Lib.itoa v).toArray⟩ : ByteArray) = b := ⟨_, rfl⟩
    have hbe : (Lib.itoa v = s.data.toList) ↔ b = s := by
      rw [← hb]
      constructor
      · intro h; apply ByteArray.ext; apply Array.ext'; simpa using h
      · intro h; rw [← h]
    have HT : Hid (∀ w, PxAt w → Calls Tryd.prog 23 #[.int .i64 v] w fun e w' => e = .returned (.string b) ∧ Below w.heap.size w w') := Lib.hid (fun w hP => by have := text_walk w v h0 h1 hP; rw [hb] at this; exact this)
    clear hbd h0 h1 hp hP hb
    by_cases he : b = s
    · rw [if_pos (hbe.2 he)] at hd
      rw [hd]
      clear hd hbe
      subst he
      go_enter Tryd.func21, Tryd.ntmps21
      go_wp2_with (first
        | ((with_reducible refine HB.out.mono ?_); rintro e w1 ⟨rfl, hb⟩; have B1 := Lib.hid hb; clear hb)
        | ((with_reducible refine (HT.out _ (HP.out.below B1.out (Nat.le_refl _))).mono ?_); rintro e w2 ⟨rfl, hb⟩; have B2 : Hid (Below w.heap.size w w2) := Lib.hid (B1.out.trans (hb.mono B1.out.size)); clear hb))
      go_ret2
      exact ⟨rfl, B2.out⟩
    · rw [if_neg (fun h => he (hbe.1 h))] at hd
      rw [hd]
      clear hd hbe
      have hne : (b.toList == s.toList) = false := by
        rw [beq_eq_false_iff_ne]; intro h; apply he; apply ByteArray.ext; apply Array.ext'; rw [← Lib.toList_data, ← Lib.toList_data]; exact h
      clear he
      go_enter Tryd.func21, Tryd.ntmps21
      go_wp2_with (first
        | ((with_reducible refine HB.out.mono ?_); rintro e w1 ⟨rfl, hb⟩; have B1 := Lib.hid hb; clear hb)
        | ((with_reducible refine (HT.out _ (HP.out.below B1.out (Nat.le_refl _))).mono ?_); rintro e w2 ⟨rfl, hb⟩; have B2 : Hid (Below w.heap.size w w2) := Lib.hid (B1.out.trans (hb.mono B1.out.size)); clear hb))
      go_ret2
      exact ⟨rfl, B2.out⟩
  · have hd : num s.data.toList = none := by
      unfold num
      rcases h : Lib.parseIntB 64 s.data.toList with v | _ | _
      · exact absurd ⟨v, h⟩ hp
      · rfl
      · rfl
    have HB := Lib.hid (parse_no w s hs (fun v h => hp ⟨v, h⟩) hP)
    rw [hd]
    clear hd hp hP
    go_enter Tryd.func21, Tryd.ntmps21
    go_wp2_with ((with_reducible refine HB.out.mono ?_); rintro e w1 ⟨n, N, rfl, hb⟩; have B1 := Lib.hid hb; clear hb)
    go_ret2
    exact ⟨rfl, B1.out⟩
end Go.Proofs.YtjgphicmkmdeiaaDoor
