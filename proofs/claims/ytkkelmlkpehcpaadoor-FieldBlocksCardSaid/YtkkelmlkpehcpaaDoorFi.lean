/-
  strconv.FormatInt in base 8.
-/
import Derived.Test.YtkkelmlkpehcpaaDoorFw
import Derived.Test.YtkkelmlkpehcpaaDoorFx
namespace Go.Proofs.YtkkelmlkpehcpaaDoor
open Go.RowKit

/-- What bits.TrailingZeros reads of its table for 8. -/
def TzAt (w : World) : Prop := w.cell? ⟨3, 7, none⟩ = some (.int .u8 3)
set_option maxHeartbeats 400000 in
theorem tz64_walk (w : World) (h : TzAt w) : Calls Tryd.prog 90 #[.int .u64 8] w fun e w' => e = .returned (.int .i64 3) ∧ w' = w := by
  unfold TzAt at h
  have e : IntKind.u64.wrap (bits BinOp.and IntKind.u64 8 (IntKind.u64.wrap (-8)) * 285870213051353865) / 288230376151711744 = 7 := by kernel_rfl
  go_enter Tryd.func90, Tryd.ntmps90
  go_wp2_with fail
  go_ret
  exact ⟨rfl, rfl⟩
set_option maxHeartbeats 400000 in
theorem tz_walk (w : World) (h : TzAt w) : Calls Tryd.prog 81 #[.int .u64 8] w fun e w' => e = .returned (.int .i64 3) ∧ w' = w := by
  go_enter Tryd.func81, Tryd.ntmps81
  go_wp2_with ((with_reducible refine (tz64_walk _ h).mono ?_); rintro e w' ⟨rfl, rfl⟩)
  go_ret
  exact ⟨rfl, rfl⟩
set_option maxHeartbeats 400000 in
theorem pow2_walk (w : World) : Calls Tryd.prog 80 #[.int .i64 8] w fun e w' => e = .returned (.bool true) ∧ w' = w := by
  go_enter Tryd.func80, Tryd.ntmps80
  go_wp2_with fail
  go_ret
  exact ⟨rfl, rfl⟩

theorem size5 (w : World) : (sizeOf 5).run Tryd.prog w = .ok 1 w := by kernel_rfl
theorem slice_lh {t n : Nat} (ht : Tryd.prog.underlying t = some (.array n 5)) (hn : Tryd.prog.arrayLen t = n) (he : Tryd.prog.elem t = 5) (g l h : Nat) (h1 : l ≤ h) (h2 : h ≤ n) (hl : l < n) (w : World) :
    (Instr.sliceAt t (.pointer (some ⟨g, 0, none⟩)) (some (.int .i64 (l : Int))) (some (.int .i64 (h : Int))) none).run Tryd.prog w = .ok (.slice (some ⟨g, l, none⟩) (h - l) (n - l)) w := by
  rw [run_sliceAt_array_lh w t ⟨g, 0, none⟩ (by rw [hn, he]; exact ht) .i64 .i64 (l : Int) (h : Int) (by omega) (by omega) (by rw [hn]; omega), he, size5]
  have hadd : (⟨g, 0, none⟩ : Addr).add (l * 1) = ⟨g, l, none⟩ := by unfold Addr.add; split <;> simp_all
  simp [Result.andThen, slicedAt, hn]
  rw [if_neg (by omega)]
  simpa using hadd
theorem slice_l {t n : Nat} (ht : Tryd.prog.underlying t = some (.array n 5)) (hn : Tryd.prog.arrayLen t = n) (he : Tryd.prog.elem t = 5) (g l : Nat) (hl : l < n) (w : World) :
    (Instr.sliceAt t (.pointer (some ⟨g, 0, none⟩)) (some (.int .i64 (l : Int))) none none).run Tryd.prog w = .ok (.slice (some ⟨g, l, none⟩) (n - l) (n - l)) w := by
  rw [run_sliceAt_array_l w t ⟨g, 0, none⟩ (by rw [hn, he]; exact ht) .i64 (l : Int) (by omega) (by rw [hn]; omega), he, size5]
  have hadd : (⟨g, 0, none⟩ : Addr).add (l * 1) = ⟨g, l, none⟩ := by unfold Addr.add; split <;> simp_all
  simp [Result.andThen, slicedAt, hn]
  rw [if_neg (by omega)]
  simpa using hadd
theorem arr65 : Tryd.prog.arrayLen 116 = 65 := by kernel_rfl
theorem elm65 : Tryd.prog.elem 116 = 5 := by kernel_rfl
/-- The array of 65 bytes behind k steps: the last k cells are k octal digits. -/
structure FmtAt (w wr : World) (u k : Nat) : Prop where
  row : ∃ cs : List Value, cs.length = 65 ∧ wr.heap[w.heap.size]? = some (.cells cs.toArray 116 (0, 0)) ∧ cs.drop (65 - k) = bl (Fx.pad k u)
  below : Below w.heap.size w wr
theorem FmtAt.cell {w wr : World} {u k : Nat} (h : FmtAt w wr u k) (i : Nat) (hi : i < 65) : ∃ v, wr.cell? ⟨w.heap.size, i, none⟩ = some v := by
  obtain ⟨cs, hl, hr, _⟩ := h.row
  rw [cell_of_row _ _ _ _ _ _ hr]
  exact ⟨cs[i]'(by omega), by simp [hl, hi]⟩
theorem FmtAt.free {w wr : World} {u k : Nat} (h : FmtAt w wr u k) (i : Nat) : wr.frozen? ⟨w.heap.size, i, none⟩ = false := by
  obtain ⟨cs, hl, hr, _⟩ := h.row
  exact frozen_of_row _ _ _ _ _ hr
theorem FmtAt.step {w wr : World} {u k : Nat} (h : FmtAt w wr u k) (hk : k < 65) (x : Nat) (hx : x = u / 8 ^ k % 8) : FmtAt w (wr.setCell ⟨w.heap.size, 65 - k - 1, none⟩ (.int .u8 (48 + (x : Int)))) u (k + 1) := by
  obtain ⟨cs, hl, hr, hd⟩ := h.row
  refine ⟨⟨cs.set (65 - k - 1) (.int .u8 (48 + (x : Int))), by simpa using hl, ?_, ?_⟩, h.below.setCell (Nat.le_refl _) _⟩
  · rw [heap_setCell_same _ _ _ _ _ _ hr]; simp
  · rw [show 65 - (k + 1) = 65 - k - 1 by omega, List.drop_set, if_neg (by omega), Nat.sub_self, List.drop_eq_getElem_cons (by omega), List.set_cons_zero, show 65 - k - 1 + 1 = 65 - k by omega, hd, Fx.pad_cons, ← hx]
    have hx8 : x < 8 := by omega
    have e := bi_of (48 + x) (by omega)
    show _ = Value.int .u8 (bi (UInt8.ofNat (48 + x))) :: _
    rw [e]
    simp [bl]
theorem zeros65 : Tryd.zeroCells116 = (List.replicate 65 (Value.int .u8 0)).toArray := by kernel_rfl
theorem FmtAt.start (w : World) (u : Nat) : FmtAt w (w.alloc (.cells Tryd.zeroCells116 116)) u 0 :=
  ⟨⟨List.replicate 65 (Value.int .u8 0), by simp, by rw [heap_alloc_new, zeros65], by simp [Fx.pad, bl]⟩, (Below.refl _ _).alloc (Nat.le_refl _) _⟩
theorem FmtAt.text {w wr : World} {u k : Nat} (h : FmtAt w wr u k) (_hk : k ≤ 65) : SlV wr (.slice (some ⟨w.heap.size, 65 - k, none⟩) k k) (bl (Fx.pad k u)) := by
  obtain ⟨cs, hl, hr, hd⟩ := h.row
  refine .inl ⟨w.heap.size, 65 - k, k, by simp, by simp, fun i v hi => ?_⟩
  rw [cell_of_row _ _ _ _ _ _ hr]
  rw [← hd, List.getElem?_drop] at hi
  simpa using hi
/-- FormatInt's answer for a number from 0 on. -/
def FmtPost (u : Nat) (v : Value) : Prop := ∃ k, 1 ≤ k ∧ k ≤ 22 ∧ u < 8 ^ k ∧ (k = 1 ∨ 8 ^ (k - 1) ≤ u) ∧ v = .string ⟨(Fx.pad k u).toArray⟩
def BitsPost (u : Nat) (w : World) (e : Ending) (w' : World) : Prop := ∃ v, FmtPost u v ∧ e = .returned (.tuple #[.slice none 0 0, v]) ∧ Below w.heap.size w w'
def FmtLoop (w : World) (u0 : Nat) (u i : Value) (wr : World) : Prop := ∃ k : Nat, k ≤ 21 ∧ u = .int .u64 ((u0 / 8 ^ k : Nat) : Int) ∧ i = .int .i64 ((65 - k : Nat) : Int) ∧ 8 ^ k ≤ max u0 1 ∧ FmtAt w wr u0 k
def digS : Array UInt8 := #[48, 49, 50, 51, 52, 53, 54, 55, 56, 57, 97, 98, 99, 100, 101, 102, 103, 104, 105, 106, 107, 108, 109, 110, 111, 112, 113, 114, 115, 116, 117, 118, 119, 120, 121, 122]
theorem dig_ix (n : Nat) (hn : n < 8) (w : World) : (Instr.index 9 (.string ⟨digS⟩) (.int .u64 (n : Int))).run Tryd.prog w = .ok (.int .u8 (48 + (n : Int))) w := by
  have h0 : (Instr.index 9 (.string ⟨digS⟩) (.int .u64 0)).run Tryd.prog w = .ok (.int .u8 (48 + 0)) w := by kernel_rfl
  have h1 : (Instr.index 9 (.string ⟨digS⟩) (.int .u64 1)).run Tryd.prog w = .ok (.int .u8 (48 + 1)) w := by kernel_rfl
  have h2 : (Instr.index 9 (.string ⟨digS⟩) (.int .u64 2)).run Tryd.prog w = .ok (.int .u8 (48 + 2)) w := by kernel_rfl
  have h3 : (Instr.index 9 (.string ⟨digS⟩) (.int .u64 3)).run Tryd.prog w = .ok (.int .u8 (48 + 3)) w := by kernel_rfl
  have h4 : (Instr.index 9 (.string ⟨digS⟩) (.int .u64 4)).run Tryd.prog w = .ok (.int .u8 (48 + 4)) w := by kernel_rfl
  have h5 : (Instr.index 9 (.string ⟨digS⟩) (.int .u64 5)).run Tryd.prog w = .ok (.int .u8 (48 + 5)) w := by kernel_rfl
  have h6 : (Instr.index 9 (.string ⟨digS⟩) (.int .u64 6)).run Tryd.prog w = .ok (.int .u8 (48 + 6)) w := by kernel_rfl
  have h7 : (Instr.index 9 (.string ⟨digS⟩) (.int .u64 7)).run Tryd.prog w = .ok (.int .u8 (48 + 7)) w := by kernel_rfl
  match n, hn with
  | 0, _ => exact h0
  | 1, _ => exact h1
  | 2, _ => exact h2
  | 3, _ => exact h3
  | 4, _ => exact h4
  | 5, _ => exact h5
  | 6, _ => exact h6
  | 7, _ => exact h7
  | k + 8, h => exact absurd h (by omega)
theorem and7 (x : Nat) (hx : x < 18446744073709551616) : bits .and .u64 (x : Int) 7 = ((x % 8 : Nat) : Int) := by
  have := u64_and_nat x 7 hx (by decide)
  rw [show ((7 : Nat) : Int) = 7 from rfl] at this
  rw [this, nat_mask3]
theorem shr3 (x : Nat) : (x : Int) / 2 ^ 3 = ((x / 8 : Nat) : Int) := by omega
set_option maxRecDepth 100000 in
set_option maxHeartbeats 1000000 in
theorem bits_walk (w : World) (u : Nat) (hu : u < 9223372036854775808) (h : TzAt w) :
    Calls Tryd.prog 60 #[.slice none 0 0, .int .u64 (u : Int), .int .i64 8, .bool false, .bool false] w (BitsPost u w) := by
  have HU := Lib.hid hu
  clear hu
  have H0 := Lib.hid (FmtAt.start w u)
  have HT : Hid (TzAt (w.alloc (.cells Tryd.zeroCells116 116))) := Lib.hid ((((Below.refl w.heap.size w).alloc (Nat.le_refl _) _).cell (p := ⟨3, 7, none⟩) (block_lt_of_cell h)).trans h)
  clear h
  go_enter Tryd.func60, Tryd.ntmps60
  go_wp2_with (first | ((with_reducible refine (pow2_walk _).mono ?_); rintro e w' ⟨rfl, rfl⟩) | ((with_reducible refine (tz_walk _ HT.out).mono ?_); rintro e w' ⟨rfl, rfl⟩))
  have hu63 : u < 9223372036854775808 := HU.out
  go_loopw [1, 13] (fun v i wr => FmtLoop w u v i wr) (fun _ i _ => (intOf i).toNat)
  case atStart => exact ⟨0, by omega, by simp, rfl, by simp; omega, H0.out⟩
  case round =>
    clear HT hu63
    obtain ⟨k, hk, rfl, rfl, hmax, hF⟩ := hrel
    have HF := Lib.hid hF
    have HM := Lib.hid hmax
    clear hF hmax H0
    obtain ⟨x, hx⟩ : ∃ x, u / 8 ^ k = x := ⟨_, rfl⟩
    rw [hx]
    have hx63 : (x : Int) < 9223372036854775808 := by have := Nat.div_le_self u (8 ^ k); have := HU.out; omega
    obtain ⟨y, hy⟩ : ∃ y, x % 8 = y := ⟨_, rfl⟩
    have hy8 : y < 8 := by omega
    have ha := and7 x (by omega)
    rw [hy] at ha
    have hd := dig_ix y hy8
    simp only [digS] at hd
    obtain ⟨j, hj⟩ : ∃ j, 65 - k = j + 1 := ⟨64 - k, by omega⟩
    obtain ⟨vc, hc⟩ := HF.out.cell j (by omega)
    have hf := HF.out.free j
    have hj64 : (j : Int) < 65 := by omega
    rw [hj]
    have HST := Lib.hid (HF.out.step (by omega) y (by rw [hx, hy]))
    rw [show 65 - k - 1 = j by omega] at HST
    have HX := Lib.hid hx
    have HJ := Lib.hid hj
    have HY := Lib.hid hy
    clear hx hj hy
    have hy8i : (y : Int) < 8 := by omega
    by_cases h8 : 8 ≤ x
    · have h8i : (8 : Int) ≤ (x : Int) := by omega
      have HK : Hid (8 ^ (k + 1) ≤ u) := Lib.hid (by
        have h1 := HX.out
        have h2 : 0 < 8 ^ k := Nat.pow_pos (by omega)
        have h3 : 8 * 8 ^ k ≤ u := by rw [← Nat.le_div_iff_mul_le h2]; omega
        rw [Nat.pow_succ]; omega)
      have HK2 : Hid (k + 1 ≤ 20) := Lib.hid (by
        have h1 : 8 ^ (k + 1) < 8 ^ 21 := Nat.lt_of_le_of_lt HK.out (by have := HU.out; omega)
        have := (Nat.pow_lt_pow_iff_right (a := 8) (by omega)).1 h1
        omega)
      go_wp2_with fail
      refine ⟨⟨k + 1, by have := HK2.out; omega, ?_, ?_, ?_, HST.out⟩, by simp [intOf]⟩
      · rw [Nat.pow_succ, ← Nat.div_div_eq_div_mul, HX.out]; congr 1
      · have := HJ.out; congr 2; omega
      · have := HK.out; omega
    · have hx8 : (x : Int) < 8 := by omega
      obtain rfl : x = y := by have := HY.out; omega
      have HTX := Lib.hid (run_toString (HST.out.text (by omega)))
      clear hx63 h8 ha hy8
      rw [show 65 - (k + 1) = j by have := HJ.out; omega] at HTX
      obtain ⟨q, hq⟩ : ∃ q, k + 1 = q := ⟨_, rfl⟩
      rw [hq] at HTX
      have hsl := slice_l (t := 116) Tryd.underlying116 arr65 elm65 w.heap.size j (by omega)
      rw [show 65 - j = q by have := HJ.out; omega] at hsl
      have HQ := Lib.hid hq
      have HTY := HTX.out
      clear HTX hq
      go_wp2_with fail
      go_ret2
      refine ⟨_, ⟨q, by have := HQ.out; omega, by have := HQ.out; omega, ?_, ?_, rfl⟩, rfl, HST.out.below⟩
      · have h1 := HX.out
        have h2 : 0 < 8 ^ k := Nat.pow_pos (by omega)
        rw [← HQ.out, Nat.pow_succ]
        have := (Nat.div_lt_iff_lt_mul h2).1 (show u / 8 ^ k < 8 by omega)
        omega
      · have h1 := HQ.out
        have h2 := HM.out
        rcases Nat.eq_zero_or_pos k with h3 | h3
        · left; omega
        · right
          rw [show q - 1 = k by omega]
          have : 8 ≤ 8 ^ k := by
            have := Nat.pow_le_pow_right (n := 8) (by omega) h3
            simpa using this
          omega
theorem FmtAt.sign {w wr : World} {u k : Nat} (h : FmtAt w wr u k) (hk : k < 65) : SlV (wr.setCell ⟨w.heap.size, 65 - k - 1, none⟩ (.int .u8 45)) (.slice (some ⟨w.heap.size, 65 - k - 1, none⟩) (k + 1) (k + 1)) (bl (45 :: Fx.pad k u)) := by
  obtain ⟨cs, hl, hr, hd⟩ := h.row
  refine .inl ⟨w.heap.size, 65 - k - 1, k + 1, by simp, by simp, fun i v hi => ?_⟩
  rw [cell_of_row _ _ _ _ _ _ (heap_setCell_same _ _ _ _ _ _ hr)]
  have e : (cs.set (65 - k - 1) (.int .u8 45)).drop (65 - k - 1) = bl (45 :: Fx.pad k u) := by
    rw [List.drop_set, if_neg (by omega), Nat.sub_self, List.drop_eq_getElem_cons (by omega), List.set_cons_zero, show 65 - k - 1 + 1 = 65 - k by omega, hd]
    simp [bl, bi]
  rw [← e, List.getElem?_drop] at hi
  simpa using hi
/-- What formatBits tells of a number below 0: some text. -/
def NegPost (w : World) (e : Ending) (w' : World) : Prop := ∃ s : ByteArray, s.size ≤ 70 ∧ e = .returned (.tuple #[.slice none 0 0, .string s]) ∧ Below w.heap.size w w'
set_option maxRecDepth 100000 in
set_option maxHeartbeats 1000000 in
theorem bitsneg_walk (w : World) (n : Int) (u : Nat) (hu : u ≤ 9223372036854775808) (hn : IntKind.u64.wrap (-n) = (u : Int)) (h : TzAt w) :
    Calls Tryd.prog 60 #[.slice none 0 0, .int .u64 n, .int .i64 8, .bool true, .bool false] w (NegPost w) := by
  have HU := Lib.hid hu
  clear hu
  have H0 := Lib.hid (FmtAt.start w u)
  have HT : Hid (TzAt (w.alloc (.cells Tryd.zeroCells116 116))) := Lib.hid ((((Below.refl w.heap.size w).alloc (Nat.le_refl _) _).cell (p := ⟨3, 7, none⟩) (block_lt_of_cell h)).trans h)
  clear h
  go_enter Tryd.func60, Tryd.ntmps60
  go_wp2_with (first | ((with_reducible refine (pow2_walk _).mono ?_); rintro e w' ⟨rfl, rfl⟩) | ((with_reducible refine (tz_walk _ HT.out).mono ?_); rintro e w' ⟨rfl, rfl⟩))
  clear hn
  go_loopw [1, 13] (fun v i wr => FmtLoop w u v i wr) (fun _ i _ => (intOf i).toNat)
  case atStart => exact ⟨0, by omega, by simp, rfl, by simp; omega, H0.out⟩
  case round =>
    clear HT
    obtain ⟨k, hk, rfl, rfl, hmax, hF⟩ := hrel
    have HF := Lib.hid hF
    have HM := Lib.hid hmax
    clear hF hmax H0
    obtain ⟨x, hx⟩ : ∃ x, u / 8 ^ k = x := ⟨_, rfl⟩
    rw [hx]
    have hx63 : (x : Int) < 9223372036854775809 := by have := Nat.div_le_self u (8 ^ k); have := HU.out; omega
    obtain ⟨y, hy⟩ : ∃ y, x % 8 = y := ⟨_, rfl⟩
    have hy8 : y < 8 := by omega
    have ha := and7 x (by omega)
    rw [hy] at ha
    have hd := dig_ix y hy8
    simp only [digS] at hd
    obtain ⟨j, hj⟩ : ∃ j, 65 - k = j + 1 := ⟨64 - k, by omega⟩
    obtain ⟨vc, hc⟩ := HF.out.cell j (by omega)
    have hf := HF.out.free j
    have hj64 : (j : Int) < 65 := by omega
    rw [hj]
    have HST := Lib.hid (HF.out.step (by omega) y (by rw [hx, hy]))
    rw [show 65 - k - 1 = j by omega] at HST
    have HX := Lib.hid hx
    have HJ := Lib.hid hj
    have HY := Lib.hid hy
    clear hx hj hy
    have hy8i : (y : Int) < 8 := by omega
    by_cases h8 : 8 ≤ x
    · have h8i : (8 : Int) ≤ (x : Int) := by omega
      have HK : Hid (8 ^ (k + 1) ≤ u) := Lib.hid (by
        have h1 := HX.out
        have h2 : 0 < 8 ^ k := Nat.pow_pos (by omega)
        have h3 : 8 * 8 ^ k ≤ u := by rw [← Nat.le_div_iff_mul_le h2]; omega
        rw [Nat.pow_succ]; omega)
      have HK2 : Hid (k + 1 ≤ 21) := Lib.hid (by
        have h1 : 8 ^ (k + 1) ≤ 8 ^ 21 := Nat.le_trans HK.out (by have := HU.out; omega)
        have := (Nat.pow_le_pow_iff_right (a := 8) (by omega)).1 h1
        omega)
      go_wp2_with fail
      refine ⟨⟨k + 1, by have := HK2.out; omega, ?_, ?_, ?_, HST.out⟩, by simp [intOf]⟩
      · rw [Nat.pow_succ, ← Nat.div_div_eq_div_mul, HX.out]; congr 1
      · have := HJ.out; congr 2; omega
      · have := HK.out; omega
    · have hx8 : (x : Int) < 8 := by omega
      obtain rfl : x = y := by have := HY.out; omega
      clear hx63 h8 ha hy8
      obtain ⟨i, hi⟩ : ∃ i, j = i + 1 := ⟨j - 1, by have := HJ.out; omega⟩
      obtain ⟨vd, hcd⟩ := HST.out.cell i (by omega)
      have hfd := HST.out.free i
      have hi64 : (i : Int) < 65 := by omega
      have HSG := Lib.hid (run_toString (HST.out.sign (by omega)))
      have hqq : 65 - i = k + 1 + 1 := by have := HJ.out; omega
      rw [show 65 - (k + 1) - 1 = i by omega, ← hqq] at HSG
      have HQ := Lib.hid hqq
      clear hqq
      subst hi
      have hsl := slice_l (t := 116) Tryd.underlying116 arr65 elm65 w.heap.size i (by omega)
      have HTY := HSG.out
      clear HSG
      go_wp2_with fail
      go_ret2
      exact ⟨_, by simp [ByteArray.size]; omega, rfl, HST.out.below.setCell (Nat.le_refl _) _⟩
/-- What FormatInt tells. -/
def FormatPost (n : Int) (w : World) (e : Ending) (w' : World) : Prop := ∃ s : ByteArray, s.size ≤ 70 ∧ (0 ≤ n → FmtPost n.toNat (.string s)) ∧ e = .returned (.string s) ∧ Below w.heap.size w w'
set_option maxRecDepth 100000 in
set_option maxHeartbeats 1000000 in
theorem fmtin_walk (w : World) (n : Int) (h1 : -9223372036854775808 ≤ n) (h2 : n < 9223372036854775808) (h : TzAt w) :
    Calls Tryd.prog 44 #[.int .i64 n, .int .i64 8] w (FormatPost n w) := by
  have HN1 := Lib.hid h1
  have HN2 := Lib.hid h2
  by_cases hn : n < 0
  · obtain ⟨u, hu⟩ : ∃ u : Nat, (u : Int) = -n := ⟨(-n).toNat, by omega⟩
    have hw : IntKind.u64.wrap n = 18446744073709551616 + n := by simp only [IntKind.wrap_u64]; omega
    have HB := Lib.hid (bitsneg_walk w (IntKind.u64.wrap n) u (by omega) (by rw [hw]; simp only [IntKind.wrap_u64]; omega) h)
    have HNN := Lib.hid hn
    clear h1 h2 hu hw hn
    have hd : decide (n < 0) = true := decide_eq_true HNN.out
    go_enter Tryd.func44, Tryd.ntmps44
    go_wp2_with ((with_reducible refine HB.out.mono ?_); rintro e w' ⟨s, hs, rfl, hb⟩)
    go_ret
    exact ⟨s, hs, fun h0 => by have := HNN.out; omega, rfl, hb⟩
  · obtain ⟨u, rfl⟩ : ∃ u : Nat, n = (u : Int) := ⟨n.toNat, by omega⟩
    have HB := Lib.hid (bits_walk w u (by omega) h)
    have hd : decide ((u : Int) < 0) = false := decide_eq_false hn
    have hw : IntKind.u64.wrap (u : Int) = (u : Int) := by simp only [IntKind.wrap_u64]; omega
    clear h1 h2 hn
    go_enter Tryd.func44, Tryd.ntmps44
    go_wp2_with ((with_reducible refine HB.out.mono ?_); rintro e w' ⟨v, hv, rfl, hb⟩; obtain ⟨s, rfl⟩ : ∃ s, v = .string s := (by obtain ⟨k, _, _, _, _, hv⟩ := hv; exact ⟨_, hv⟩); have HV := Lib.hid hv; clear hv)
    go_ret
    refine ⟨s, ?_, fun _ => HV.out, rfl, hb⟩
    obtain ⟨k, _, hk, _, _, hv⟩ := HV.out
    obtain rfl := Value.string.inj hv
    simp [ByteArray.size]; omega
set_option maxHeartbeats 400000 in
theorem format_walk (w : World) (n : Int) (h1 : -9223372036854775808 ≤ n) (h2 : n < 9223372036854775808) (h : TzAt w) :
    Calls Tryd.prog 32 #[.int .i64 n, .int .i64 8] w (FormatPost n w) := by
  have HB := Lib.hid (fmtin_walk w n h1 h2 h)
  clear h1 h2
  go_enter Tryd.func32, Tryd.ntmps32
  go_wp2_with ((with_reducible refine HB.out.mono ?_); rintro e w' ⟨s, hs, hv, rfl, hb⟩; have HV := Lib.hid hv; clear hv)
  go_ret
  exact ⟨s, hs, HV.out, rfl, hb⟩
end Go.Proofs.YtkkelmlkpehcpaaDoor
