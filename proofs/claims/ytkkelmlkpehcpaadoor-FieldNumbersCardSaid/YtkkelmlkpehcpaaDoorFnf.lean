/-
  The document's own Wide: the walk.
-/
import Derived.Test.YtkkelmlkpehcpaaDoorFne
namespace Go.Proofs.YtkkelmlkpehcpaaDoor
open Go.RowKit

/-- A row of bytes, told by a function. -/
structure WRow (w wr : World) (mm : Nat) (f : Nat → Int) : Prop where
  row : wr.heap[w.heap.size]? = some (.cells ((List.range mm).map fun q => Value.int .u8 (f q)).toArray 5 (0, 0))
  below : Below w.heap.size w wr
theorem WRow.congr {w wr : World} {mm : Nat} {f f' : Nat → Int} (h : WRow w wr mm f) (he : ∀ q, q < mm → f q = f' q) : WRow w wr mm f' := by
  refine ⟨?_, h.below⟩
  rw [h.row]
  congr 2
  congr 1
  apply List.map_congr_left
  intro q hq
  rw [he q (List.mem_range.1 hq)]
theorem WRow.set {w wr : World} {mm : Nat} {f : Nat → Int} (h : WRow w wr mm f) (q : Nat) (x : Int) : WRow w (wr.setCell ⟨w.heap.size, q, none⟩ (.int .u8 x)) mm (fun p => if p = q then x else f p) := by
  refine ⟨?_, h.below.setCell (Nat.le_refl _) _⟩
  rw [heap_setCell_same _ _ _ _ _ _ h.row]
  congr 2
  apply Array.ext'
  apply List.ext_getElem?
  intro i
  simp only [Array.toList_setIfInBounds, List.getElem?_set, List.getElem?_map, List.length_map, List.length_range]
  by_cases hi : q = i
  · subst hi
    by_cases hq : q < mm
    · simp [hq]
    · simp [hq]
  · have : ¬ i = q := fun h => hi h.symm
    simp only [if_neg hi]
    by_cases hm : i < mm
    · simp [hm, this]
    · simp [hm]
theorem WRow.cell {w wr : World} {mm : Nat} {f : Nat → Int} (h : WRow w wr mm f) (q : Nat) (hq : q < mm) : wr.cell? ⟨w.heap.size, q, none⟩ = some (.int .u8 (f q)) := by
  rw [cell_of_row _ _ _ _ _ _ h.row]
  simp [hq]
theorem WRow.free {w wr : World} {mm : Nat} {f : Nat → Int} (h : WRow w wr mm f) (q : Nat) : wr.frozen? ⟨w.heap.size, q, none⟩ = false := frozen_of_row _ _ _ _ _ h.row
theorem WRow.start (w : World) (mm : Nat) (T : List Bool) : WRow w (w.alloc (.cells (bl (List.replicate mm 0)).toArray 5)) mm (bAt T 0) := by
  refine ⟨?_, (Below.refl _ _).alloc (Nat.le_refl _) _⟩
  rw [heap_alloc_new]
  congr 2
  congr 1
  apply List.ext_getElem?
  intro i
  simp only [bl, List.getElem?_map, List.getElem?_replicate, bAt_zero]
  by_cases hm : i < mm
  · simp [hm, bi]
  · simp [hm]
theorem WRow.own {w wr : World} {mm : Nat} {f : Nat → Int} (h : WRow w wr mm f) (l : List UInt8) (hl : l.length = mm) (hm : mm ≤ 20) (hf : ∀ q, q < mm → f q = bi (l.getD q 0)) : OwnM w.heap.size wr (.slice (some ⟨w.heap.size, 0, none⟩) mm mm) l := by
  refine .inr ⟨w.heap.size, mm, _, (0, 0), by rw [hl], Nat.le_refl _, (h.congr hf).row, .inl rfl, by omega, by unfold maxLen; omega, by simp, ?_⟩
  rw [hl, List.take_of_length_le (by simp)]
  simp only [bl]
  apply List.ext_getElem?
  intro i
  simp only [List.getElem?_map]
  by_cases hi : i < mm
  · have hi2 : i < l.length := by omega
    simp [hi, hi2]
  · have hi2 : ¬ i < l.length := by omega
    simp [hi, hi2]
theorem WRow.bit {w wr : World} {mm : Nat} {T : List Bool} {k : Nat} (h : WRow w wr mm (bAt T k)) (hk : k < T.length) (q : Nat) (h1 : 8 * q ≤ k) (h2 : k < 8 * q + 8) (x : Int) (hx : bAt T k q = x) :
    (T.getD k false = false → WRow w (wr.setCell ⟨w.heap.size, q, none⟩ (.int .u8 (x * 2))) mm (bAt T (k + 1))) ∧
    (T.getD k false = true → WRow w ((wr.setCell ⟨w.heap.size, q, none⟩ (.int .u8 (x * 2))).setCell ⟨w.heap.size, q, none⟩ (.int .u8 (x * 2 + 1))) mm (bAt T (k + 1))) := by
  subst hx
  have e := bAt_here T k q hk h1 h2
  rw [Int.mul_comm 2] at e
  refine ⟨fun hb => (h.set q _).congr fun p _ => ?_, fun hb => ((h.set q _).set q _).congr fun p _ => ?_⟩
  · rw [hb] at e
    by_cases hp : p = q
    · subst hp; simp only [↓reduceIte, e]; simp
    · simp only [if_neg hp]; exact (bAt_else T k p hk (by omega)).symm
  · rw [hb] at e
    by_cases hp : p = q
    · subst hp; simp only [↓reduceIte, e]
    · simp only [if_neg hp]; exact (bAt_else T k p hk (by omega)).symm
def RWideLoop (w : World) (mm : Nat) (T : List Bool) (i : Value) (wr : World) : Prop := ∃ k : Nat, k ≤ 8 * mm ∧ i = .int .i64 k ∧ WRow w wr mm (bAt T k)
set_option maxRecDepth 100000 in
set_option maxHeartbeats 2000000 in
theorem rwide_walk (w : World) (n many : Int) (h1 : -9223372036854775808 ≤ n) (h2 : n < 9223372036854775808) :
    Calls Tryd.prog 13 #[.int .i64 n, .int .i64 many] w (MadePost (Fx.widL n many) (Fx.widE n many) w) := by
  by_cases hlo : many < 2
  · obtain ⟨e1, e2⟩ := wid_arg n many (.inl hlo)
    rw [e1, e2]
    clear e1 e2
    go_enter Tryd.func13, Tryd.ntmps13
    go_wp2_with fail
    go_ret2
    exact made_none w w (Below.refl _ _)
  by_cases hhi : 20 < many
  · obtain ⟨e1, e2⟩ := wid_arg n many (.inr hhi)
    rw [e1, e2]
    clear e1 e2
    go_enter Tryd.func13, Tryd.ntmps13
    go_wp2_with fail
    go_ret2
    exact made_none w w (Below.refl _ _)
  obtain ⟨mm, rfl⟩ : ∃ m : Nat, many = (m : Int) := ⟨many.toNat, by omega⟩
  have hm1 : 2 ≤ (mm : Int) := by omega
  have hm2 : (mm : Int) ≤ 20 := by omega
  clear hlo hhi
  have hlo : decide ((mm : Int) < 2) = false := decide_eq_false (by omega)
  have hhi : decide (20 < (mm : Int)) = false := decide_eq_false (by omega)
  have hmk := made_bytes mm (by omega)
  obtain ⟨M, hM⟩ : ∃ M, 8 * mm - 1 = M := ⟨_, rfl⟩
  have HMM : Hid (8 * mm - 1 = M ∧ 2 ≤ mm ∧ mm ≤ 20) := Lib.hid (by omega)
  have HC : Hid (Calls Tryd.prog 34 #[.int .i64 n, .int .i64 (8 * (mm : Int) - 1)] w (TwosPost mm (8 * mm - 1) n w)) := Lib.hid (by
    have := twos_walk w n h1 h2 mm (8 * mm - 1) (by omega) (by omega) rfl
    rwa [show ((8 * mm - 1 : Nat) : Int) = 8 * (mm : Int) - 1 by omega] at this)
  unfold TwosPost at HC
  have HE := Lib.hid (fun q => bAt_end mm n (by omega) q)
  rw [hM] at HC HE
  clear hM
  have HTL : Hid ((true :: lowBits M n).length = 8 * mm) := Lib.hid (by have := HMM.out; simp; omega)
  obtain ⟨L, hL⟩ : ∃ L, lowBits M n = L := ⟨_, rfl⟩
  rw [hL] at HC HE HTL
  clear hL
  by_cases hf : Fx.fits n mm
  · obtain ⟨e1, e2⟩ := wid_ok n mm (by omega) (by omega) hf
    rw [e1, e2]
    rw [decide_eq_true hf] at HC
    clear e1 e2 hf h1 h2
    go_enter Tryd.func13, Tryd.ntmps13
    go_wp2_with ((with_reducible refine HC.out.mono ?_); rintro e w1 ⟨rfl, hv, hb⟩; have HV := Lib.hid hv; have HB := Lib.hid hb; clear hv hb)
    have HW := Lib.hid (WRow.start w1 mm (true :: L))
    clear HC
    go_loopw [9] (fun i wr => RWideLoop w1 mm (true :: L) i wr) (fun i _ => 8 * mm - (intOf i).toNat)
    case atStart => exact ⟨0, by omega, rfl, HW.out⟩
    case round =>
      clear HW
      obtain ⟨k, hk, rfl, hA⟩ := hrel
      have HA := Lib.hid hA
      clear hA
      by_cases hlt : k < 8 * mm
      · have hkI : (k : Int) < 8 * (mm : Int) := by omega
        obtain ⟨q, hq⟩ : ∃ q : Nat, (k : Int) / 8 = (q : Int) := ⟨k / 8, by omega⟩
        have hqm : (q : Int) < (mm : Int) := by omega
        obtain ⟨x, hx⟩ : ∃ x, bAt (true :: L) k q = x := ⟨_, rfl⟩
        obtain ⟨hx0, hx1⟩ := bAt_lt (true :: L) k q (by omega)
        have hco := HA.out.cell q (by omega)
        have hfo := HA.out.free q
        have hS1 := HA.out.set q (x * 2)
        have hco2 := hS1.cell q (by omega)
        have hfo2 := hS1.free q
        simp only [↓reduceIte] at hco2
        rw [hx] at hco hx0 hx1
        obtain ⟨b1, b2⟩ := HA.out.bit (by have := HTL.out; omega) q (by omega) (by omega) x hx
        have HK : Hid (k < 8 * mm) := Lib.hid hlt
        have HAB := Lib.hid HA.out.below
        clear hx hlt hk hS1
        cases k with
        | zero =>
          have HS := Lib.hid (b2 rfl)
          clear b1 b2
          have hq0 : q = 0 := by omega
          subst hq0
          clear hq
          go_wp2_with fail
          exact ⟨⟨0 + 1, by have := HK.out; omega, by go_num, HS.out⟩, by have := HK.out; simp [intOf]; omega⟩
        | succ k =>
          have hV := HV.out.below HAB.out (Nat.le_refl _)
          have hrow : RowAt wr w.heap.size 0 (bv L) := by
            obtain ⟨g, o, hp, hr⟩ := hV.some (by have := HMM.out; omega)
            have : w.heap.size = g ∧ 0 = o := by simpa using hp
            rw [this.1, this.2]
            exact hr
          have hcb := hrow.bv k (by have h1 := HTL.out; have h2 := HK.out; rw [List.length_cons] at h1; omega)
          rw [Nat.zero_add] at hcb
          have hkM : (k : Int) < (M : Int) := by have := HMM.out; have := HK.out; omega
          have hk0 : ((k : Int) + 1 == 0) = false := by rw [beq_eq_false_iff_ne]; omega
          rw [List.getD_cons_succ] at b1 b2
          have hkI2 : (k : Int) + 1 < 8 * (mm : Int) := by omega
          have hq2 : ((k : Int) + 1) / 8 = (q : Int) := by rw [← hq]; congr 1
          clear hV hrow hkI hq
          cases hc : L.getD k false
          · have HS := Lib.hid (b1 hc)
            rw [hc] at hcb
            clear b1 b2 hc
            go_wp2_with fail
            exact ⟨⟨k + 1 + 1, by have := HK.out; omega, by go_num, HS.out⟩, by have := HK.out; simp [intOf]; omega⟩
          · have HS := Lib.hid (b2 hc)
            rw [hc] at hcb
            clear b1 b2 hc
            go_wp2_with fail
            exact ⟨⟨k + 1 + 1, by have := HK.out; omega, by go_num, HS.out⟩, by have := HK.out; simp [intOf]; omega⟩
      · have hk8 : (k : Int) = 8 * (mm : Int) := by omega
        have HK : Hid (k = 8 * mm) := Lib.hid (by omega)
        have HO := Lib.hid ((HA.out.own (Fx.mark (Fx.wid mm n)) (by simp) HMM.out.2.2 (fun q hq => by rw [HK.out]; exact HE.out q hq)).mono HB.out.size)
        have HBB := Lib.hid (HB.out.trans (HA.out.below.mono HB.out.size))
        have hd8 : decide (8 * (mm : Int) < 8 * (mm : Int)) = false := decide_eq_false (by omega)
        rw [hk8]
        clear hlt hk hk8
        go_wp2_with fail
        go_ret2
        exact ⟨_, rfl, HO.out, HBB.out⟩
  · obtain ⟨e1, e2⟩ := wid_long n mm hm1 hm2 hf
    rw [e1, e2]
    rw [decide_eq_false hf] at HC
    clear e1 e2 hf h1 h2
    go_enter Tryd.func13, Tryd.ntmps13
    go_wp2_with ((with_reducible refine HC.out.mono ?_); rintro e w1 ⟨rfl, hv, hb⟩; have HB := Lib.hid hb; clear hv hb)
    go_ret2
    exact made_none w _ HB.out
end Go.Proofs.YtkkelmlkpehcpaaDoor
