/-
  field.Wide.
-/
import Derived.Test.YtkkelmlkpehcpaaDoorFo
namespace Go.Proofs.YtkkelmlkpehcpaaDoor
open Go.RowKit

theorem wid_arg (n many : Int) (h : many < 2 ∨ 20 < many) : Fx.widE n many = 1 ∧ Fx.widL n many = [] := by
  have e : Fx.widE n many = 1 := if_pos h
  exact ⟨e, if_neg (by rw [e]; decide)⟩
theorem wid_long (n many : Int) (h0 : 2 ≤ many) (h1 : many ≤ 20) (h : ¬ Fx.fits n many) : Fx.widE n many = 3 ∧ Fx.widL n many = [] := by
  have e : Fx.widE n many = 3 := by unfold Fx.widE; rw [if_neg (by omega), if_neg h]
  exact ⟨e, if_neg (by rw [e]; decide)⟩
theorem wid_ok (n : Int) (m : Nat) (h0 : 2 ≤ m) (h1 : m ≤ 20) (h : Fx.fits n m) : Fx.widE n m = 0 ∧ Fx.widL n m = Fx.mark (Fx.wid m n) := by
  have e : Fx.widE n m = 0 := by unfold Fx.widE; rw [if_neg (by omega), if_pos h]
  refine ⟨e, ?_⟩
  unfold Fx.widL
  rw [if_pos e, Int.toNat_natCast]
/-- What is left of a number behind many bits. -/
theorem fits_iff (n : Int) (m : Nat) (k : Nat) (hk : k = 8 * m - 2) : Fx.fits n m ↔ (n / 2 ^ k = 0 ∨ n / 2 ^ k = -1) := by
  subst hk
  unfold Fx.fits
  rw [Int.toNat_natCast]
  generalize hP : (2 : Int) ^ (8 * m - 2) = P
  have h0 : 0 < P := by rw [← hP]; exact Int.pow_pos (by omega)
  constructor
  · intro ⟨h1, h2⟩
    by_cases h3 : 0 ≤ n
    · exact .inl (Int.ediv_eq_zero_of_lt h3 h2)
    · right
      have := Int.ediv_emod_unique (a := n) (b := P) (q := -1) (r := n + P) h0
      exact (this.2 ⟨by omega, by omega, by omega⟩).1
  · intro h
    have e1 := Int.mul_ediv_add_emod n P
    have e2 := Int.emod_nonneg n (show P ≠ 0 by omega)
    have e3 := Int.emod_lt_of_pos n h0
    rcases h with h | h <;> rw [h] at e1 <;> omega
/-- The own row of bytes behind k steps: the last k are the number's. -/
structure WidAt (w wr : World) (n : Int) (m k : Nat) : Prop where
  row : ∃ cs : List Value, cs.length = m ∧ wr.heap[w.heap.size]? = some (.cells cs.toArray 5 (0, 0)) ∧ cs.drop (m - k) = bl (Fx.wid k n) ∧ ∀ v ∈ cs, ∃ x : UInt8, v = .int .u8 (bi x)
  below : Below w.heap.size w wr
theorem wid_cons (k : Nat) (n : Int) : Fx.wid (k + 1) n = UInt8.ofNat (n / 256 ^ k % 256).toNat :: Fx.wid k n := by
  induction k generalizing n with
  | zero => simp [Fx.wid]
  | succ k ih =>
    rw [Fx.wid, ih, List.cons_append, Fx.wid]
    congr 4
    rw [Int.ediv_ediv_of_nonneg (by omega), Int.pow_succ, Int.mul_comm]
theorem WidAt.step {w wr : World} {n : Int} {m k : Nat} (h : WidAt w wr n m k) (hk : k < m) (j : Nat) (hj : j = m - k - 1) (x : Int) (hx : x = n / 256 ^ k % 256) : WidAt w (wr.setCell ⟨w.heap.size, j, none⟩ (.int .u8 x)) n m (k + 1) := by
  subst hj
  obtain ⟨cs, hl, hr, hd, ha⟩ := h.row
  have hx0 : 0 ≤ x ∧ x < 256 := by rw [hx]; omega
  have e := bi_of x.toNat (by omega)
  refine ⟨⟨cs.set (m - k - 1) (.int .u8 x), by simpa using hl, ?_, ?_, ?_⟩, h.below.setCell (Nat.le_refl _) _⟩
  · rw [heap_setCell_same _ _ _ _ _ _ hr]; simp
  · rw [show m - (k + 1) = m - k - 1 by omega, List.drop_set, if_neg (by omega), Nat.sub_self, List.drop_eq_getElem_cons (by omega), List.set_cons_zero, show m - k - 1 + 1 = m - k by omega, hd, wid_cons, ← hx]
    show _ = Value.int .u8 (bi (UInt8.ofNat x.toNat)) :: _
    rw [e, Int.toNat_of_nonneg hx0.1]
    simp [bl]
  · intro v hv
    rcases List.mem_or_eq_of_mem_set hv with h1 | h1
    · exact ha v h1
    · exact ⟨UInt8.ofNat x.toNat, by rw [h1, e, Int.toNat_of_nonneg hx0.1]⟩
theorem WidAt.cell {w wr : World} {n : Int} {m k : Nat} (h : WidAt w wr n m k) (i : Nat) (hi : i < m) : ∃ x : UInt8, wr.cell? ⟨w.heap.size, i, none⟩ = some (.int .u8 (bi x)) := by
  obtain ⟨cs, hl, hr, _, ha⟩ := h.row
  obtain ⟨x, hx⟩ := ha (cs[i]'(by omega)) (List.getElem_mem _)
  refine ⟨x, ?_⟩
  rw [cell_of_row _ _ _ _ _ _ hr, ← hx]
  simp [hl, hi]
theorem WidAt.free {w wr : World} {n : Int} {m k : Nat} (h : WidAt w wr n m k) (i : Nat) : wr.frozen? ⟨w.heap.size, i, none⟩ = false := by
  obtain ⟨cs, hl, hr, _⟩ := h.row
  exact frozen_of_row _ _ _ _ _ hr
/-- make([]byte, m). -/
theorem made_bytes (m : Nat) (hm : m ≤ 16777216) (w : World) : (Instr.makeSlice 22 (.int .i64 (m : Int)) (.int .i64 (m : Int))).run Tryd.prog w = .ok (.slice (some ⟨w.heap.size, 0, none⟩) m m) (w.alloc (.cells (bl (List.replicate m 0)).toArray 5)) := by
  obtain ⟨i0, hi, hz0, hz1, hz2⟩ := info_parts info5
  have hmk := run_makeSlice (P := Tryd.prog) w 22 5 i0 (.int .u8 0) Tryd.underlying22 hi hz0 .i64 .i64 (m : Int) (m : Int) (by omega) (Int.le_refl _) (by rw [hz1]; simp only [Int.toNat_natCast]; omega) (by rw [hz2]; omega) (by omega)
  simp only [Int.toNat_natCast] at hmk
  rw [hmk, hz1]
  have e : madeCells (Value.int .u8 0).cells (m * 1) = (bl (List.replicate m 0)).toArray := by
    apply Array.ext
    · simp [size_madeCells]
    · intro i h1 h2
      simp [madeCells, bl, bi, Value.cells, Nat.mod_one]
  rw [e]
/-- The shift that asks whether a number fits. -/
theorem shr_fits (n : Int) (m : Nat) (h0 : 2 ≤ m) (h1 : -9223372036854775808 ≤ n) (h2 : n < 9223372036854775808) (w : World) :
    ∃ s : Int, (Op.shift .shr .i64 n .i64 (8 * (m : Int) - 2)).run Tryd.prog w = .ok (.int .i64 s) w ∧ (Fx.fits n m ↔ (s = 0 ∨ s = -1)) := by
  have e : (Op.shift .shr .i64 n .i64 (8 * (m : Int) - 2)).run Tryd.prog w = .ok (.int .i64 (n / 2 ^ min (8 * m - 2) 64)) w := by
    have e1 : (8 * (m : Int) - 2).toNat = 8 * m - 2 := by omega
    have e2 : IntKind.i64.bits = 64 := rfl
    have e3 : ¬ (8 * (m : Int) - 2 < 0) := by omega
    simp only [Op.shift, if_neg e3, e1, e2, Sem.run_pure]
    rw [Int.fdiv_eq_ediv_of_nonneg _ (Int.le_of_lt (Int.pow_pos (by omega)))]
  refine ⟨_, e, ?_⟩
  by_cases hm : m ≤ 8
  · rw [Nat.min_eq_left (by omega)]
    exact fits_iff n m _ rfl
  · rw [Nat.min_eq_right (by omega)]
    have hp : (2 : Int) ^ 64 ≤ 2 ^ (8 * m - 2) := by
      have : 2 ^ 64 ≤ 2 ^ (8 * m - 2) := Nat.pow_le_pow_right (by omega) (by omega)
      exact_mod_cast this
    constructor
    · intro _; omega
    · intro _
      unfold Fx.fits
      rw [Int.toNat_natCast]
      generalize (2 : Int) ^ (8 * m - 2) = P at hp
      omega
theorem WidAt.start (w : World) (n : Int) (m : Nat) : WidAt w (w.alloc (.cells (bl (List.replicate m 0)).toArray 5)) n m 0 :=
  ⟨⟨_, by simp, heap_alloc_new _ _, by simp [Fx.wid, bl], fun v hv => by simp [bl] at hv; exact ⟨0, hv.2⟩⟩, (Below.refl _ _).alloc (Nat.le_refl _) _⟩
/-- The whole row, marked. -/
theorem WidAt.marked {w wr : World} {n : Int} {m : Nat} (h : WidAt w wr n m m) (hm : 2 ≤ m) (hm2 : m ≤ 20) (x : UInt8) (hc : wr.cell? ⟨w.heap.size, 0, none⟩ = some (.int .u8 (bi x))) :
    OwnM w.heap.size (wr.setCell ⟨w.heap.size, 0, none⟩ (.int .u8 (bits .or .u8 (bi x) 128))) (.slice (some ⟨w.heap.size, 0, none⟩) m m) (Fx.mark (Fx.wid m n)) := by
  obtain ⟨cs, hl, hr, hd, _⟩ := h.row
  rw [Nat.sub_self, List.drop_zero] at hd
  subst hd
  have e : bits .or .u8 (bi x) 128 = bi (x ||| 128) := by
    have := u8_or_nat x.toNat 128 x.toNat_lt (by decide)
    unfold bi
    rw [UInt8.toNat_or]
    exact this
  have hlen : (Fx.mark (Fx.wid m n)).length = m := by simp
  refine .inr ⟨w.heap.size, m, _, (0, 0), by rw [hlen], Nat.le_refl _, heap_setCell_same _ _ _ _ _ _ hr, .inl rfl, by omega, by unfold maxLen; omega, by simp, ?_⟩
  rw [hlen, Array.toList_setIfInBounds, List.take_of_length_le (by simp), e]
  rw [cell_of_row _ _ _ _ _ _ hr] at hc
  obtain ⟨k, rfl⟩ : ∃ k, m = k + 1 := ⟨m - 1, by omega⟩
  rw [wid_cons] at hc ⊢
  simp only [bl, List.map_cons, List.getElem?_toArray, List.getElem?_cons_zero, Option.some.injEq, Value.int.injEq, true_and] at hc
  simp [bl, Fx.mark, ← bi_inj.1 hc]
def WidLoop (w : World) (n0 : Int) (m : Nat) (n i : Value) (wr : World) : Prop := ∃ k : Nat, k ≤ m ∧ n = .int .i64 (n0 / 256 ^ k) ∧ i = .int .i64 ((m : Int) - 1 - (k : Int)) ∧ WidAt w wr n0 m k
set_option maxRecDepth 100000 in
set_option maxHeartbeats 1000000 in
theorem wide_walk (w : World) (n many : Int) (h1 : -9223372036854775808 ≤ n) (h2 : n < 9223372036854775808) :
    Calls Tryd.prog 12 #[.int .i64 n, .int .i64 many] w (MadePost (Fx.widL n many) (Fx.widE n many) w) := by
  by_cases hlo : many < 2
  · obtain ⟨e1, e2⟩ := wid_arg n many (.inl hlo)
    rw [e1, e2]
    clear e1 e2
    go_enter Tryd.func12, Tryd.ntmps12
    go_wp2_with fail
    go_ret2
    exact made_none w w (Below.refl _ _)
  by_cases hhi : 20 < many
  · obtain ⟨e1, e2⟩ := wid_arg n many (.inr hhi)
    rw [e1, e2]
    clear e1 e2
    go_enter Tryd.func12, Tryd.ntmps12
    go_wp2_with fail
    go_ret2
    exact made_none w w (Below.refl _ _)
  obtain ⟨m, rfl⟩ : ∃ m : Nat, many = (m : Int) := ⟨many.toNat, by omega⟩
  have hm1 : 2 ≤ (m : Int) := by omega
  have hm2 : (m : Int) ≤ 20 := by omega
  clear hlo hhi
  have hlo : decide ((m : Int) < 2) = false := decide_eq_false (by omega)
  have hhi : decide (20 < (m : Int)) = false := decide_eq_false (by omega)
  have hmk := made_bytes m (by omega)
  obtain ⟨s, hs, hfit⟩ := shr_fits n m (by omega) h1 h2 w
  have HF := Lib.hid hfit
  have HW := Lib.hid (WidAt.start w n m)
  have HN := Lib.hid (And.intro h1 h2)
  clear h1 h2 hfit
  by_cases hs0 : s = 0 ∨ s = -1
  · have HE := Lib.hid (wid_ok n m (by omega) (by omega) (HF.out.2 hs0))
    rw [HE.out.1, HE.out.2]
    have hi : 0 ≤ (m : Int) - 1 := by omega
    have h0m : (0 : Int) < (m : Int) := by omega
    rcases hs0 with rfl | rfl
    all_goals
      go_enter Tryd.func12, Tryd.ntmps12
      go_wp2_with fail
      go_loopw [0, 8] (fun v i wr => WidLoop w n m v i wr) (fun _ i _ => (intOf i + 1).toNat)
      case atStart => exact ⟨0, by omega, by simp, by simp, HW.out⟩
      case round =>
        clear HW hi
        obtain ⟨k, hk, rfl, rfl, hA⟩ := hrel
        have HA := Lib.hid hA
        clear hA
        by_cases hlt : k < m
        · obtain ⟨j, hj⟩ : ∃ j : Nat, (m : Int) - 1 - (k : Int) = (j : Int) := ⟨m - 1 - k, by omega⟩
          rw [hj]
          have hjm : (j : Int) < (m : Int) := by omega
          have hkj : m - k - 1 = j := by omega
          have HJ := Lib.hid hj
          obtain ⟨x, hc⟩ := HA.out.cell j (by omega)
          have hf := HA.out.free j
          have HST := Lib.hid (HA.out.step hlt j hkj.symm _ rfl)
          obtain ⟨y, hy⟩ : ∃ y, n / 256 ^ k = y := ⟨_, rfl⟩
          have HY := Lib.hid hy
          rw [hy] at HST ⊢
          clear hy hj hkj hlt
          go_wp2_with fail
          refine ⟨⟨k + 1, by have := HJ.out; omega, ?_, ?_, HST.out⟩, by simp [intOf]⟩
          · rw [← HY.out, Int.ediv_ediv_of_nonneg (Int.le_of_lt (Int.pow_pos (by omega))), ← Int.pow_succ]
          · have := HJ.out; congr 1; omega
        · obtain rfl : k = m := by omega
          clear hlt
          rw [show (k : Int) - 1 - (k : Int) = -1 by omega]
          obtain ⟨x, hc⟩ := HA.out.cell 0 (by omega)
          have hf := HA.out.free 0
          have HMK := Lib.hid (HA.out.marked (by omega) (by omega) x hc)
          go_wp2_with fail
          go_ret2
          exact ⟨_, rfl, HMK.out, HA.out.below.setCell (Nat.le_refl _) _⟩
  · have HE := Lib.hid (wid_long n m hm1 hm2 (fun h => hs0 (HF.out.1 h)))
    rw [HE.out.1, HE.out.2]
    have t0 : (s == 0) = false := by rw [beq_eq_false_iff_ne]; omega
    have t1 : (s == -1) = false := by rw [beq_eq_false_iff_ne]; omega
    have t2 : (s != 0) = true := by rw [bne_iff_ne]; omega
    have t3 : (s != -1) = true := by rw [bne_iff_ne]; omega
    clear hs0
    go_enter Tryd.func12, Tryd.ntmps12
    go_wp2_with fail
    go_ret2
    exact made_none w w (Below.refl _ _)
end Go.Proofs.YtkkelmlkpehcpaaDoor
