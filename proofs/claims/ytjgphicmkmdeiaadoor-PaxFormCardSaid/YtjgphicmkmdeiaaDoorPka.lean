/-
  What a key's bytes may be: strings.ContainsAny of a byte 0, = and a newline, over any bytes; isKey.
-/
import Derived.Test.YtjgphicmkmdeiaaDoorPd
import Derived.WalkMore
import Derived.Laws.RangeAny
import Derived.Lib.OthersKept
import Derived.Laws.Runes
import Derived.Deep.LoopGhost
import Derived.Shelf.Small.Strs
import Derived.Shelf.Small.Utf8
namespace Go.Proofs.YtjgphicmkmdeiaaDoor
open Go.RowKit Go.Maps

def bad3 : ByteArray := ⟨#[0, 61, 10]⟩
set_option maxHeartbeats 4000000 in
set_option maxRecDepth 1000000 in
theorem idxrune_err (w : World) : Calls Tryd.prog 56 #[.string bad3, .int .i32 65533] w fun e w' => e = .returned (.int .i64 (-1)) ∧ Below w.heap.size w w' := by
  have hsz : bad3.size = 3 := by kernel_rfl
  have hn0 : ∀ ty, (Instr.next (.pointer (some ⟨w.heap.size, 0, none⟩)) true ty).run Tryd.prog (w.iter bad3 0) = .ok (.tuple #[.bool true, .int .i64 0, .int .i32 0]) (w.iter bad3 1) := fun ty => run_next_ascii (P := Tryd.prog) w bad3 0 ty (by decide) (by decide)
  have hn1 : ∀ ty, (Instr.next (.pointer (some ⟨w.heap.size, 0, none⟩)) true ty).run Tryd.prog (w.iter bad3 1) = .ok (.tuple #[.bool true, .int .i64 1, .int .i32 61]) (w.iter bad3 2) := fun ty => run_next_ascii (P := Tryd.prog) w bad3 1 ty (by decide) (by decide)
  have hn2 : ∀ ty, (Instr.next (.pointer (some ⟨w.heap.size, 0, none⟩)) true ty).run Tryd.prog (w.iter bad3 2) = .ok (.tuple #[.bool true, .int .i64 2, .int .i32 10]) (w.iter bad3 3) := fun ty => run_next_ascii (P := Tryd.prog) w bad3 2 ty (by decide) (by decide)
  have hn3 : ∀ ty, (Instr.next (.pointer (some ⟨w.heap.size, 0, none⟩)) true ty).run Tryd.prog (w.iter bad3 3) = _ := fun ty => run_next_end (P := Tryd.prog) w bad3 3 ty (by rw [hsz]; omega)
  have hb : ∀ i, Below w.heap.size w (w.iter bad3 i) := fun i => (Below.refl _ _).alloc (Nat.le_refl _) _
  go_enter Tryd.func56, Tryd.ntmps56
  go_wp2
  go_loopg [5, 6] 4 (fun g _ _ wx => ∃ i : Nat, i + g = 4 ∧ i ≤ 3 ∧ wx = w.iter bad3 i)
  case atStart => exact ⟨0, rfl, by omega, rfl⟩
  case round =>
    obtain ⟨i, hi, hi3, rfl⟩ := hrel
    match i, hi, hi3 with
    | 0, hi, _ =>
      obtain rfl : gk = 4 := by omega
      go_wp2
      go_roundg 3
      case measure => omega
      case rel => exact ⟨1, rfl, by omega, rfl⟩
    | 1, hi, _ =>
      obtain rfl : gk = 3 := by omega
      go_wp2
      go_roundg 2
      case measure => omega
      case rel => exact ⟨2, rfl, by omega, rfl⟩
    | 2, hi, _ =>
      obtain rfl : gk = 2 := by omega
      go_wp2
      go_roundg 1
      case measure => omega
      case rel => exact ⟨3, rfl, by omega, rfl⟩
    | 3, hi, _ =>
      go_wp2
      go_ret
      exact ⟨rfl, hb 3⟩
    | i + 4, hi, hi3 => exact absurd hi3 (by omega)
theorem ib_no (l : List UInt8) (c : UInt8) (h : c ∉ l) : Lib.indexByte l c = -1 := by
  induction l with
  | nil => rfl
  | cons x t ih =>
    rw [List.mem_cons, not_or] at h
    have hx : ¬ x = c := fun e => h.1 e.symm
    rw [Lib.indexByte]
    simp [hx, ih h.2]
theorem vrune_walk (r : Int) (w : World) : Calls Tryd.prog 72 #[.int .i32 r] w fun e w' => e = .returned (.bool (Lib.validRune r)) ∧ w' = w := Any.utf8_ValidRune (P := Tryd.prog) { Tryd.laysIa with } r w
theorem sibyte_walk (s : ByteArray) (c : Int) (w : World) : Calls Tryd.prog 71 #[.string s, .int .u8 c] w fun e w' => e = .returned (.int .i64 (Lib.indexByte s.data.toList c.toNat.toUInt8)) ∧ w' = w := Any.strings_IndexByte { Tryd.laysIa with } s c w
set_option maxHeartbeats 4000000 in
set_option maxRecDepth 1000000 in
theorem idxrune_bad (w : World) (r : Int) (h0 : 128 ≤ r) (h1 : r ≤ 2147483647) (hr : r ≠ 65533) (hv : validRune r = false) : Calls Tryd.prog 56 #[.string bad3, .int .i32 r] w fun e w' => e = .returned (.int .i64 (-1)) ∧ w' = w := by
  have HV := Lib.hid (vrune_walk r w)
  have hv2 : Lib.validRune r = false := by rw [← hv]; rfl
  rw [hv2] at HV
  have hr' : (r == 65533) = false := beq_eq_false_iff_ne.2 hr
  have hlt : decide (r < 128) = false := decide_eq_false (by omega)
  clear hv hv2 hr
  go_enter Tryd.func56, Tryd.ntmps56
  go_wp2_with ((with_reducible refine HV.out.mono ?_); rintro e w' ⟨rfl, hw⟩; rw [hw])
  go_ret
  exact ⟨rfl, rfl⟩
set_option maxHeartbeats 4000000 in
set_option maxRecDepth 1000000 in
theorem idxrune_val (w : World) (r : Int) (h0 : 128 ≤ r) (h1 : r ≤ 2147483647) (hr : r ≠ 65533) (hv : validRune r = true) : Calls Tryd.prog 56 #[.string bad3, .int .i32 r] w fun e w' => e = .returned (.int .i64 (-1)) ∧ Below w.heap.size w w' := by
  have HV := Lib.hid (vrune_walk r w)
  have hv2 : Lib.validRune r = true := by rw [← hv]; rfl
  have hf := encode_facts r (by rw [validRune_eq]; exact hv) h0
  rw [hv2] at HV
  have hr' : (r == 65533) = false := beq_eq_false_iff_ne.2 hr
  have hlt : decide (r < 128) = false := decide_eq_false (by omega)
  have hcv : ∀ w, (convert 21 9 (.int .i32 r)).run Tryd.prog w = .ok (.string (Utf8.encode r)) w := fun w => run_convert_int_string w 21 9 .i32 r (by rw [Tryd.underlying21]; rfl) Tryd.underlying9
  clear hv hv2 hr
  obtain ⟨rs, hrs⟩ : ∃ rs, Utf8.encode r = rs := ⟨_, rfl⟩
  rw [hrs] at hf hcv
  clear hrs
  obtain ⟨f1, f2, f3⟩ := hf
  have f4 := f3 (by omega)
  obtain ⟨b, hb⟩ : ∃ b, (rs[rs.size - 1]'(by omega)) = b := ⟨_, rfl⟩
  rw [hb] at f4
  have hsz3 : bad3.size = 3 := by kernel_rfl
  have hix : ∀ (k : Nat), rs.size = k + 1 → ∀ w, (Instr.index 9 (.string rs) (.int .i64 (k : Int))).run Tryd.prog w = .ok (.int .u8 (b.toNat : Int)) w := by
    intro k hk w
    have hk2 : (0 : Int) ≤ (k : Int) ∧ (k : Int) < (rs.size : Int) := by omega
    rw [run_index_string (P := Tryd.prog) (w := w) 9 rs .i64 (k : Int) Tryd.underlying9, dif_pos hk2]
    have e : rs[(k : Int).toNat]'(by omega) = b := by
      rw [← hb]
      congr 1; omega
    rw [e]
  have hi2 : ∀ w, (Instr.index 9 (.string bad3) (.int .i64 2)).run Tryd.prog w = .ok (.int .u8 10) w := fun w => by kernel_rfl
  have hi1 : ∀ w, (Instr.index 9 (.string bad3) (.int .i64 1)).run Tryd.prog w = .ok (.int .u8 61) w := fun w => by kernel_rfl
  have hs2 : ∀ w, (Instr.sliceAt 9 (.string bad3) (some (.int .i64 2)) none none).run Tryd.prog w = .ok (.string ⟨#[10]⟩) w := fun w => by kernel_rfl
  have hs3 : ∀ w, (Instr.sliceAt 9 (.string bad3) (some (.int .i64 3)) none none).run Tryd.prog w = .ok (.string ⟨#[]⟩) w := fun w => by kernel_rfl
  have hb1 : Lib.indexByte [10] b = -1 := ib_no _ _ (by rw [List.mem_singleton]; intro e; subst e; exact absurd f4 (by decide))
  have hb2 : Lib.indexByte [] b = -1 := rfl
  have hne1 : ((61 : Int) == (b.toNat : Int)) = false := beq_eq_false_iff_ne.2 (by omega)
  have hne2 : ((10 : Int) == (b.toNat : Int)) = false := beq_eq_false_iff_ne.2 (by omega)
  have hB1 : ∀ w, Calls Tryd.prog 71 #[.string ⟨#[10]⟩, .int .u8 (b.toNat : Int)] w fun e w' => e = .returned (.int .i64 (-1)) ∧ w' = w := fun w => by
    have := sibyte_walk ⟨#[10]⟩ (b.toNat : Int) w
    rw [show ((b.toNat : Int)).toNat.toUInt8 = b by simp] at this
    rw [show (⟨#[10]⟩ : ByteArray).data.toList = [10] from rfl, hb1] at this
    exact this
  have hB2 : ∀ w, Calls Tryd.prog 71 #[.string ⟨#[]⟩, .int .u8 (b.toNat : Int)] w fun e w' => e = .returned (.int .i64 (-1)) ∧ w' = w := fun w => by
    have := sibyte_walk ⟨#[]⟩ (b.toNat : Int) w
    exact this
  have HB1 := Lib.hid hB1
  have HB2 := Lib.hid hB2
  clear hb hb1 hb2 f3 hB1 hB2
  have h3 : rs.size = 2 ∨ rs.size = 3 ∨ rs.size = 4 := by omega
  have hw2 : IntKind.i64.wrap 2 = 2 := by decide
  have hw3 : IntKind.i64.wrap 3 = 3 := by decide
  rcases h3 with h3 | h3 | h3
  · have hx : ∀ w, (Instr.index 9 (.string rs) (.int .i64 1)).run Tryd.prog w = .ok (.int .u8 (b.toNat : Int)) w := hix 1 h3
    have hsI : (rs.size : Int) = 2 := by omega
    clear hix h3 f1 f2
    go_enter Tryd.func56, Tryd.ntmps56
    go_wp2_with ((with_reducible refine HV.out.mono ?_); rintro e w' ⟨rfl, hw⟩; rw [hw])
    go_step3
    go_wp2_with fail
    go_loopw [9, 10, 11, 12] (fun i f _ _ wr => i = .int .i64 1 ∧ f = .int .i64 0 ∧ wr = w) (fun _ _ _ _ _ => 0)
    case atStart => exact ⟨rfl, rfl, rfl⟩
    case round =>
      obtain ⟨rfl, rfl, rfl⟩ := hrel
      go_wp2_with fail
      go_step3
      go_wp2_with fail
      go_quiet (fail)
      go_wp2_with fail
      go_quiet ((go_at_call 71; exact (HB1.out _).mono fun _ _ ⟨h1, h2⟩ => ⟨h1, _, h2⟩))
      go_wp2_with fail

      simp +zetaDelta only [Exit.noGoto, Exit.inBlock, Exit.then]
      go_ret
      exact ⟨rfl, rfl, rfl, rfl, Nat.le_refl _, fun _ _ => rfl⟩
  · have hx : ∀ w, (Instr.index 9 (.string rs) (.int .i64 2)).run Tryd.prog w = .ok (.int .u8 (b.toNat : Int)) w := hix 2 h3
    have hsI : (rs.size : Int) = 3 := by omega
    clear hix h3 f1 f2
    go_enter Tryd.func56, Tryd.ntmps56
    go_wp2_with ((with_reducible refine HV.out.mono ?_); rintro e w' ⟨rfl, hw⟩; rw [hw])
    go_step3
    go_wp2_with fail
    go_loopw [9, 10, 11, 12] (fun i f _ _ wr => i = .int .i64 2 ∧ f = .int .i64 0 ∧ wr = w) (fun _ _ _ _ _ => 0)
    case atStart => exact ⟨rfl, rfl, rfl⟩
    case round =>
      obtain ⟨rfl, rfl, rfl⟩ := hrel
      go_wp2_with fail
      go_step3
      go_wp2_with fail
      go_quiet (fail)
      go_wp2_with fail
      go_quiet ((go_at_call 71; exact (HB2.out _).mono fun _ _ ⟨h1, h2⟩ => ⟨h1, _, h2⟩))
      go_wp2_with fail
      simp +zetaDelta only [Exit.noGoto, Exit.inBlock, Exit.then]
      go_ret
      exact ⟨rfl, rfl, rfl, rfl, Nat.le_refl _, fun _ _ => rfl⟩
  · have hx : ∀ w, (Instr.index 9 (.string rs) (.int .i64 3)).run Tryd.prog w = .ok (.int .u8 (b.toNat : Int)) w := hix 3 h3
    have hsI : (rs.size : Int) = 4 := by omega
    clear hix h3 f1 f2
    go_enter Tryd.func56, Tryd.ntmps56
    go_wp2_with ((with_reducible refine HV.out.mono ?_); rintro e w' ⟨rfl, hw⟩; rw [hw])
    go_step3
    go_wp2_with fail
    go_loopw [9, 10, 11, 12] (fun i f _ _ wr => i = .int .i64 3 ∧ f = .int .i64 0 ∧ wr = w) (fun _ _ _ _ _ => 0)
    case atStart => exact ⟨rfl, rfl, rfl⟩
    case round =>
      obtain ⟨rfl, rfl, rfl⟩ := hrel
      go_wp2_with fail
      simp +zetaDelta only [Exit.noGoto, Exit.inBlock]
      go_ret
      exact ⟨rfl, rfl, rfl, rfl, Nat.le_refl _, fun _ _ => rfl⟩
theorem idxrune_any (w : World) (r : Int) (h0 : 128 ≤ r) (h1 : r ≤ 2147483647) : Calls Tryd.prog 56 #[.string bad3, .int .i32 r] w fun e w' => e = .returned (.int .i64 (-1)) ∧ Below w.heap.size w w' := by
  by_cases hr : r = 65533
  · subst hr; exact idxrune_err w
  · cases hv : validRune r with
    | false => exact (idxrune_bad w r h0 h1 hr hv).mono fun _ _ ⟨h, hw⟩ => ⟨h, by rw [hw]; exact Below.refl _ _⟩
    | true => exact idxrune_val w r h0 h1 hr hv
theorem get_le (s : ByteArray) (j : Nat) (h : j < s.size) : s.get! j = s[j]'h := by
  show s.get! j = _
  simp [ByteArray.get!, getElem!_pos, h]
  rfl
theorem decode_span (s : ByteArray) (pos : Nat) (h : pos < s.size) (ha : 128 ≤ (s[pos]'h).toNat) :
    pos + (Utf8.decode s pos).2 ≤ s.size ∧ ∀ j, pos ≤ j → j < pos + (Utf8.decode s pos).2 → 128 ≤ (s.get! j).toNat := by
  have hn : ¬ (s[pos]'h).toNat < 128 := by omega
  have h0 : 128 ≤ (s.get! pos).toNat := by rw [get_le s pos h]; exact ha
  have one : ∀ j, pos ≤ j → j < pos + 1 → 128 ≤ (s.get! j).toNat := fun j h1 h2 => (show j = pos from Nat.le_antisymm (Nat.le_of_lt_succ h2) h1) ▸ h0
  have ct : ∀ k, (decide (pos + k < s.size) && ((s.get! (pos + k)).toNat / 64 == 2)) = true → pos + k < s.size ∧ 128 ≤ (s.get! (pos + k)).toNat := fun k hk => by
    simp only [Bool.and_eq_true, decide_eq_true_eq, beq_iff_eq] at hk
    exact ⟨hk.1, by omega⟩
  have two : pos + 1 < s.size ∧ 128 ≤ (s.get! (pos + 1)).toNat → pos + 2 ≤ s.size ∧ ∀ j, pos ≤ j → j < pos + 2 → 128 ≤ (s.get! j).toNat := fun hk => ⟨by omega, fun j h1 h2 => by
    rcases (show j = pos ∨ j = pos + 1 by omega) with rfl | rfl
    · exact h0
    · exact hk.2⟩
  simp only [Utf8.decode, get_at s pos h, hn, if_false]
  split
  · rename_i hc
    have h2 := two (ct 1 (by simp only [Bool.and_eq_true] at hc ⊢; exact hc.2))
    split
    · exact h2
    · exact ⟨by omega, one⟩
  · split
    · rename_i hc
      simp only [Bool.and_eq_true] at hc
      have h1 := ct 1 (by simp only [Bool.and_eq_true]; exact hc.1.2)
      have h2 := ct 2 (by simp only [Bool.and_eq_true]; exact hc.2)
      split
      · refine ⟨by show pos + 3 ≤ s.size; omega, fun j a b => ?_⟩
        have b' : j < pos + 3 := b
        rcases (show j = pos ∨ j = pos + 1 ∨ j = pos + 2 by omega) with rfl | rfl | rfl
        · exact h0
        · exact h1.2
        · exact h2.2
      · exact ⟨by show pos + 1 ≤ s.size; omega, one⟩
    · split
      · rename_i hc
        simp only [Bool.and_eq_true] at hc
        have h1 := ct 1 (by simp only [Bool.and_eq_true]; exact hc.1.1.2)
        have h2 := ct 2 (by simp only [Bool.and_eq_true]; exact hc.1.2)
        have h3 := ct 3 (by simp only [Bool.and_eq_true]; exact hc.2)
        split
        · refine ⟨by show pos + 4 ≤ s.size; omega, fun j a b => ?_⟩
          have b' : j < pos + 4 := b
          rcases (show j = pos ∨ j = pos + 1 ∨ j = pos + 2 ∨ j = pos + 3 by omega) with rfl | rfl | rfl | rfl
          · exact h0
          · exact h1.2
          · exact h2.2
          · exact h3.2
        · exact ⟨by show pos + 1 ≤ s.size; omega, one⟩
      · exact ⟨by show pos + 1 ≤ s.size; omega, one⟩
/-- The iterator over s stands in its block; none of the bytes passed is a bad one. -/
structure IterAt (w : World) (s : ByteArray) (i : Nat) (wx : World) : Prop where
  le : i ≤ s.size
  at' : wx.heap[w.heap.size]? = some (.stringIter s i)
  below : Below w.heap.size w wx
  no : Lib.NoAny s.data.toList [0, 61, 10] i
theorem IterAt.next {w : World} {s : ByteArray} {i j : Nat} {wx : World} (h : IterAt w s i wx) (hj : j ≤ s.size) (hn : Lib.NoAny s.data.toList [0, 61, 10] j) : IterAt w s j (wx.iterAt w.heap.size s j) := by
  refine ⟨hj, Lib.iterAt_heap _ _ _ _ _ h.at', ?_, hn⟩
  refine h.below.trans ⟨rfl, rfl, rfl, by show _ ≤ (Array.setIfInBounds _ _ _).size; simp, fun k hk => ?_⟩
  show (Array.setIfInBounds _ _ _)[k]? = _
  rw [Array.getElem?_setIfInBounds, if_neg (by omega)]
theorem IterAt.later {w : World} {s : ByteArray} {i : Nat} {wx wy : World} (h : IterAt w s i wx) (hb : Below wx.heap.size wx wy) : IterAt w s i wy := by
  have hlt : w.heap.size < wx.heap.size := (Array.getElem?_eq_some_iff.1 h.at').1
  exact ⟨h.le, (hb.block _ hlt).trans h.at', h.below.trans (hb.mono (by omega)), h.no⟩
end Go.Proofs.YtjgphicmkmdeiaaDoor
