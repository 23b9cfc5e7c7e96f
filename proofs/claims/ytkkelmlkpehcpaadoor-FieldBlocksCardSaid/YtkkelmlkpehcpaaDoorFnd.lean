/-
  The document's own Number; two's complement of a number, bit by bit.
-/
import Derived.Test.YtkkelmlkpehcpaaDoorFnb
import Derived.Test.YtkkelmlkpehcpaaDoorFnc
import Derived.Test.YtkkelmlkpehcpaaDoorFd
namespace Go.Proofs.YtkkelmlkpehcpaaDoor
open Go.RowKit

def RNumPost (r : Int × Int) (w : World) (e : Ending) (w' : World) : Prop := e = .returned (.tuple #[.int .i64 r.1, .int .i64 r.2]) ∧ Below w.heap.size w w'
set_option maxRecDepth 100000 in
set_option maxHeartbeats 1000000 in
theorem rnumber_walk (w : World) (v : Value) (l : List UInt8) (h : SlV w v (bl l)) :
    Calls Tryd.prog 15 #[v] w (RNumPost (Fx.num l) w) := by
  obtain ⟨p, cap, rfl⟩ := h.shape
  rw [bl_length] at *
  by_cases hlen : l.length = 0 ∨ 20 < l.length
  · have HE : Hid (Fx.num l = (0, 1)) := Lib.hid (if_pos hlen)
    rw [HE.out]
    obtain ⟨m, hm⟩ : ∃ m, l.length = m := ⟨_, rfl⟩
    rw [hm] at hlen ⊢
    clear hm h
    rcases hlen with rfl | hlen
    · go_enter Tryd.func15, Tryd.ntmps15
      go_wp2_with fail
      go_ret2
      exact ⟨rfl, Below.refl _ _⟩
    · have hi : (20 : Int) < (m : Int) := by omega
      have hi0 : decide ((m : Int) < 1) = false := decide_eq_false (by omega)
      clear hlen
      go_enter Tryd.func15, Tryd.ntmps15
      go_wp2_with fail
      go_ret2
      exact ⟨rfl, Below.refl _ _⟩
  · obtain ⟨g, o, rfl, hrow⟩ := h.some (by omega)
    cases l with
    | nil => exact absurd (.inl rfl) hlen
    | cons b t =>
      by_cases h8 : 128 ≤ b.toNat
      · exact rnum_wide w g o _ cap b t hrow rfl (by omega) h8
      · have e1 : Fx.num (b :: t) = octR (b :: t) := by
          unfold Fx.num
          rw [if_neg hlen]
          simp only
          rw [if_neg h8]
          rfl
        rw [e1]
        exact (rnum_oct w g o _ cap (b :: t) hrow rfl (by simp) (by omega) (by show bi b < 128; unfold bi; omega)).mono fun _ _ ⟨he, hw⟩ => ⟨he, hw ▸ Below.refl _ _⟩

/-- k bits of n (the lowest ones), the highest first. -/
def lowBits : Nat → Int → List Bool
  | 0, _ => []
  | k + 1, n => lowBits k (n / 2) ++ [decide (n % 2 = 1)]
@[simp] theorem lowBits_length (k : Nat) (n : Int) : (lowBits k n).length = k := by
  induction k generalizing n with
  | zero => rfl
  | succ k ih => simp [lowBits, ih]
theorem lowBits_cons (k : Nat) (n : Int) : lowBits (k + 1) n = decide (n / 2 ^ k % 2 = 1) :: lowBits k n := by
  induction k generalizing n with
  | zero => simp [lowBits]
  | succ k ih =>
    rw [lowBits, ih, List.cons_append, lowBits]
    congr 4
    rw [Int.ediv_ediv_of_nonneg (by omega), Int.pow_succ, Int.mul_comm]
theorem made_bools (m : Nat) (hm : m ≤ 16777216) (w : World) : (Instr.makeSlice 61 (.int .i64 (m : Int)) (.int .i64 (m : Int))).run Tryd.prog w = .ok (.slice (some ⟨w.heap.size, 0, none⟩) m m) (w.alloc (.cells (bv (List.replicate m false)).toArray 4)) := by
  obtain ⟨i0, hi, hz0, hz1, hz2⟩ := info_parts infoBool
  have hmk := run_makeSlice (P := Tryd.prog) w 61 4 i0 (.bool false) Tryd.underlying61 hi hz0 .i64 .i64 (m : Int) (m : Int) (by omega) (Int.le_refl _) (by rw [hz1]; simp only [Int.toNat_natCast]; omega) (by rw [hz2]; omega) (by omega)
  simp only [Int.toNat_natCast] at hmk
  rw [hmk, hz1]
  have e : madeCells (Value.bool false).cells (m * 1) = (bv (List.replicate m false)).toArray := by
    apply Array.ext
    · simp [size_madeCells]
    · intro i h1 h2
      simp [madeCells, bv, Value.cells, Nat.mod_one]
  rw [e]
/-- A row of bits that the call has made, filled from its end. -/
structure BTail (w wr : World) (m : Nat) (t : List Bool) : Prop where
  row : ∃ cs : List Value, cs.length = m ∧ wr.heap[w.heap.size]? = some (.cells cs.toArray 4 (0, 0)) ∧ cs.drop (m - t.length) = bv t ∧ ∀ v ∈ cs, ∃ x : Bool, v = .bool x
  below : Below w.heap.size w wr
theorem BTail.step {w wr : World} {m : Nat} {t : List Bool} (h : BTail w wr m t) (ht : t.length < m) (j : Nat) (hj : j = m - t.length - 1) (b : Bool) : BTail w (wr.setCell ⟨w.heap.size, j, none⟩ (.bool b)) m (b :: t) := by
  subst hj
  obtain ⟨cs, hl, hr, hd, ha⟩ := h.row
  refine ⟨⟨cs.set (m - t.length - 1) (.bool b), by simpa using hl, ?_, ?_, ?_⟩, h.below.setCell (Nat.le_refl _) _⟩
  · rw [heap_setCell_same _ _ _ _ _ _ hr]; simp
  · rw [List.length_cons, show m - (t.length + 1) = m - t.length - 1 by omega, List.drop_set, if_neg (by omega), Nat.sub_self, List.drop_eq_getElem_cons (by omega), List.set_cons_zero, show m - t.length - 1 + 1 = m - t.length by omega, hd]
    simp [bv]
  · intro v hv
    rcases List.mem_or_eq_of_mem_set hv with h1 | h1
    · exact ha v h1
    · exact ⟨b, h1⟩
theorem BTail.cell {w wr : World} {m : Nat} {t : List Bool} (h : BTail w wr m t) (i : Nat) (hi : i < m) : ∃ x : Bool, wr.cell? ⟨w.heap.size, i, none⟩ = some (.bool x) := by
  obtain ⟨cs, hl, hr, _, ha⟩ := h.row
  obtain ⟨x, hx⟩ := ha (cs[i]'(by omega)) (List.getElem_mem _)
  refine ⟨x, ?_⟩
  rw [cell_of_row _ _ _ _ _ _ hr, ← hx]
  simp [hl, hi]
theorem BTail.free {w wr : World} {m : Nat} {t : List Bool} (h : BTail w wr m t) (i : Nat) : wr.frozen? ⟨w.heap.size, i, none⟩ = false := by
  obtain ⟨cs, hl, hr, _⟩ := h.row
  exact frozen_of_row _ _ _ _ _ hr
theorem BTail.start (w : World) (m : Nat) : BTail w (w.alloc (.cells (bv (List.replicate m false)).toArray 4)) m [] :=
  ⟨⟨_, by simp, heap_alloc_new _ _, by simp [bv], fun v hv => by simp [bv] at hv; exact ⟨false, hv.2⟩⟩, (Below.refl _ _).alloc (Nat.le_refl _) _⟩
theorem BTail.toV {w wr : World} {m : Nat} {t : List Bool} (h : BTail w wr m t) (ht : t.length = m) : SlV wr (.slice (some ⟨w.heap.size, 0, none⟩) m m) (bv t) := by
  obtain ⟨cs, hl, hr, hd, _⟩ := h.row
  rw [ht, Nat.sub_self, List.drop_zero] at hd
  subst hd
  refine .inl ⟨w.heap.size, 0, m, by rw [bv_length, ht], by rw [bv_length, ht]; omega, fun i v hi => ?_⟩
  rw [Nat.zero_add, cell_of_row _ _ _ _ _ _ hr]
  simpa using hi
theorem div_bounds (n P : Int) (hp : 0 < P) (h1 : -9223372036854775808 ≤ n) (h2 : n < 9223372036854775808) : -9223372036854775808 ≤ n / P ∧ n / P < 9223372036854775808 := by
  constructor
  · by_cases h0 : 0 ≤ n
    · have := Int.ediv_nonneg h0 (Int.le_of_lt hp); omega
    · have := Int.le_ediv_of_mul_le hp (a := -9223372036854775808) (b := n) (by
        have h3 : (-9223372036854775808 : Int) * P ≤ -9223372036854775808 * 1 := Int.mul_le_mul_of_nonpos_left (by omega) hp
        omega)
      exact this
  · by_cases h0 : 0 ≤ n
    · have := Int.ediv_le_self P h0; omega
    · have := Int.ediv_neg_of_neg_of_pos (show n < 0 by omega) hp; omega
theorem Fx_fits (n : Int) (mm k : Nat) (hk : k = 8 * mm - 2) : Fx.fits n mm ↔ (n / 2 ^ k = 0 ∨ n / 2 ^ k = -1) := fits_iff n mm k hk
def TwosLoop (w : World) (m : Nat) (n0 : Int) (n k : Value) (wr : World) : Prop := ∃ j : Nat, j ≤ m ∧ n = .int .i64 (n0 / 2 ^ j) ∧ k = .int .i64 ((m : Int) - 1 - (j : Int)) ∧ BTail w wr m (lowBits j n0)
def TwosPost (mm : Nat) (m : Nat) (n : Int) (w : World) (e : Ending) (w' : World) : Prop := e = .returned (.tuple #[.slice (some ⟨w.heap.size, 0, none⟩) m m, .bool (decide (Fx.fits n mm))]) ∧ SlV w' (.slice (some ⟨w.heap.size, 0, none⟩) m m) (bv (lowBits m n)) ∧ Below w.heap.size w w'
set_option maxRecDepth 100000 in
set_option maxHeartbeats 1000000 in
theorem twos_walk (w : World) (n : Int) (h1 : -9223372036854775808 ≤ n) (h2 : n < 9223372036854775808) (mm m : Nat) (hmm : 2 ≤ mm) (hmm2 : mm ≤ 20) (hm : m = 8 * mm - 1) :
    Calls Tryd.prog 34 #[.int .i64 n, .int .i64 (m : Int)] w (TwosPost mm m n w) := by
  have hmk := made_bools m (by omega)
  have HW := Lib.hid (BTail.start w m)
  have hm0 : (0 : Int) < (m : Int) := by omega
  have hm1 : (m : Int) ≤ 159 := by omega
  have HN := Lib.hid (And.intro h1 h2)
  have HM := Lib.hid (And.intro hmm (And.intro hmm2 hm))
  clear h1 h2 hmm hmm2 hm
  go_enter Tryd.func34, Tryd.ntmps34
  go_wp2_with fail
  go_loopw [0, 7] (fun n' k wr => TwosLoop w m n n' k wr) (fun _ k _ => (intOf k + 1).toNat)
  case atStart => exact ⟨0, by omega, by simp, by simp, HW.out⟩
  case round =>
    clear HW
    obtain ⟨j, hj, rfl, rfl, hA⟩ := hrel
    have HA := Lib.hid hA
    clear hA
    by_cases hlt : j < m
    · obtain ⟨i, hi⟩ : ∃ i : Nat, (m : Int) - 1 - (j : Int) = (i : Int) := ⟨m - 1 - j, by omega⟩
      rw [hi]
      have him : (i : Int) < (m : Int) := by omega
      have HI := Lib.hid hi
      obtain ⟨x, hc⟩ := HA.out.cell i (by omega)
      have hf := HA.out.free i
      obtain ⟨q, hq⟩ : ∃ q, n / 2 ^ j = q := ⟨_, rfl⟩
      have HQ := Lib.hid hq
      rw [hq]
      obtain ⟨hb1, hb2⟩ := div_bounds n (2 ^ j) (Int.pow_pos (by omega)) HN.out.1 HN.out.2
      rw [hq] at hb1 hb2
      obtain ⟨y, hy⟩ : ∃ y, q / 2 = y := ⟨_, rfl⟩
      have HY := Lib.hid hy
      have hy1 : -9223372036854775808 ≤ y := by omega
      have hy2 : y < 9223372036854775808 := by omega
      have HIM : Hid (i = m - (lowBits j n).length - 1 ∧ (lowBits j n).length < m) := Lib.hid (by simp; omega)
      have HBT : ∀ b : Bool, decide (q % 2 = 1) = b → Hid (BTail w (wr.setCell ⟨w.heap.size, i, none⟩ (.bool b)) m (lowBits (j + 1) n)) := fun b hb => Lib.hid (by rw [lowBits_cons, HQ.out, hb]; exact HA.out.step HIM.out.2 i HIM.out.1 b)
      have HNX : Hid (n / 2 ^ (j + 1) = y) := Lib.hid (by rw [Int.pow_succ, ← Int.ediv_ediv_of_nonneg (Int.le_of_lt (Int.pow_pos (by omega))), HQ.out, HY.out])
      have HIJ : Hid ((i : Int) - 1 = (m : Int) - 1 - ((j + 1 : Nat) : Int) ∧ j + 1 ≤ m) := Lib.hid (by omega)
      by_cases h2 : q % 2 = 1
      · have HB := HBT true (decide_eq_true h2)
        have ht : (q.tmod 2 != 0) = true := by
          rw [bne_iff_ne]
          intro h
          have := Int.dvd_of_tmod_eq_zero h
          omega
        have htd : (q - 1).tdiv 2 = y := by rw [Int.tdiv_eq_ediv_of_dvd (by omega)]; omega
        have hb3 : -9223372036854775807 ≤ q := by omega
        clear hq hi hlt hj HBT hb1 h2 hy
        go_wp2_with fail
        exact ⟨⟨j + 1, HIJ.out.2, by rw [HNX.out], by rw [HIJ.out.1], HB.out⟩, by simp [intOf]⟩
      · have HB := HBT false (decide_eq_false h2)
        have ht : (q.tmod 2 != 0) = false := by
          rw [bne_eq_false_iff_eq]
          exact Int.tmod_eq_zero_of_dvd (by omega)
        have htd : q.tdiv 2 = y := by rw [Int.tdiv_eq_ediv_of_dvd (by omega)]; exact hy
        clear hq hi hlt hj HBT h2 hy
        go_wp2_with fail
        exact ⟨⟨j + 1, HIJ.out.2, by rw [HNX.out], by rw [HIJ.out.1], HB.out⟩, by simp [intOf]⟩
    · obtain rfl : m = j := by omega
      have hV := HA.out.toV (lowBits_length m n)
      have HV := Lib.hid hV
      obtain ⟨k, hk⟩ : ∃ k, m = k + 1 := ⟨m - 1, by omega⟩
      have hF := Fx_fits n mm k (by have := HM.out; omega)
      have e0 : (lowBits m n).getD 0 false = decide (n / 2 ^ k % 2 = 1) := by rw [hk, lowBits_cons]; rfl
      have hrow : RowAt wr w.heap.size 0 (bv (lowBits m n)) := by
        obtain ⟨g, o, hp, hr⟩ := hV.some (by omega)
        have : w.heap.size = g ∧ 0 = o := by simpa using hp
        rw [this.1, this.2]
        exact hr
      have hc := hrow.bv 0 (by simp; omega)
      rw [e0, Nat.zero_add] at hc
      have e1 : n / 2 ^ m = n / 2 ^ k / 2 := by rw [hk, Int.pow_succ, Int.ediv_ediv_of_nonneg (Int.le_of_lt (Int.pow_pos (by omega)))]
      rw [e1]
      generalize n / 2 ^ k = q at *
      have HF := Lib.hid hF
      have hmi : (m : Int) - 1 - (m : Int) = -1 := by omega
      rw [hmi]
      clear hV hrow e0 e1 hF hlt hj hk hmi
      by_cases h2 : q % 2 = 1
      · rw [decide_eq_true h2] at hc
        have HE : Hid ((q / 2 == -1) = decide (Fx.fits n mm)) := Lib.hid (by
          by_cases h : q = -1
          · rw [decide_eq_true (HF.out.2 (.inr h)), beq_iff_eq]; omega
          · rw [decide_eq_false (fun h3 => by have := HF.out.1 h3; omega), beq_eq_false_iff_ne]; omega)
        clear h2
        go_wp2_with fail
        go_ret2
        exact ⟨by rw [HE.out]; rfl, HV.out, HA.out.below⟩
      · rw [decide_eq_false h2] at hc
        have HE : Hid ((q / 2 == 0) = decide (Fx.fits n mm)) := Lib.hid (by
          by_cases h : q = 0
          · rw [decide_eq_true (HF.out.2 (.inl h)), beq_iff_eq]; omega
          · rw [decide_eq_false (fun h3 => by have := HF.out.1 h3; omega), beq_eq_false_iff_ne]; omega)
        clear h2
        go_wp2_with fail
        go_ret2
        exact ⟨by rw [HE.out]; rfl, HV.out, HA.out.below⟩
end Go.Proofs.YtkkelmlkpehcpaaDoor
