/-
  The contract of sha.ending: 80, noughts, the count of bits; make of bytes.
-/
import Derived.Test.YtdkajbhhmgmohaaDoorTake
namespace Go.Proofs.YtdkajbhhmgmohaaDoor
open Go.RowKit Sha

theorem info5 : (Tryd.prog.info? 5).map (fun i => (i.zero, i.size, i.bytes)) = some (some (.int .u8 0), 1, 1) := by kernel_rfl
theorem made_zero (n : Nat) : (madeCells (Value.int .u8 0).cells (n * 1)).toList = bl (List.replicate n 0) := by
  have e : bi 0 = 0 := rfl
  apply List.ext_getElem
  · simp [bl, size_madeCells]
  · intro i h1 h2
    simp [madeCells, bl, Value.cells, e, Nat.mod_one]
theorem bl_toArray (l : List UInt8) : (bl l).toArray = bcells l := rfl
/-- Block g holds just these bytes (t: the block's type). -/
def RowT (t : TypeId) (w : World) (g : Nat) (l : List UInt8) : Prop := w.heap[g]? = some (.cells (bcells l) t (0, 0))
theorem RowT.cell {t : TypeId} {w : World} {g : Nat} {l : List UInt8} (h : RowT t w g l) (i : Nat) (hi : i < l.length) : w.cell? ⟨g, i, none⟩ = some (.int .u8 (bi (l.getD i 0))) :=
  (cell_of_row _ _ _ _ _ _ h).trans (bcells_at _ _ hi)
theorem RowT.free {t : TypeId} {w : World} {g : Nat} {l : List UInt8} (h : RowT t w g l) (i : Nat) : w.frozen? ⟨g, i, none⟩ = false := frozen_of_row _ _ _ _ _ h
theorem RowT.set {t : TypeId} {w : World} {g : Nat} {l : List UInt8} (h : RowT t w g l) (i : Nat) (x : UInt8) : RowT t (w.setCell ⟨g, i, none⟩ (.int .u8 (bi x))) g (l.set i x) :=
  (heap_setCell_same _ _ _ _ _ _ h).trans (by rw [bcells_set])
theorem RowT.bytes {t : TypeId} {w : World} {g : Nat} {l : List UInt8} (h : RowT t w g l) : BytesAt w g 0 l := fun i hi => by
  rw [Nat.zero_add]; exact h.cell i hi
theorem RowT.lt {t : TypeId} {w : World} {g : Nat} {l : List UInt8} (h : RowT t w g l) : g < w.heap.size := (Array.getElem?_eq_some_iff.1 h).1
theorem RowT.below {t : TypeId} {w w' : World} {g B : Nat} {l : List UInt8} (h : RowT t w g l) (hb : Below B w w') (hg : g < B) : RowT t w' g l := (hb.block g hg).trans h
theorem RowT.only {t : TypeId} {w w' : World} {g gs : Nat} {l : List UInt8} (h : RowT t w g l) (hb : Only gs w w') (hg : g ≠ gs) : RowT t w' g l := (hb.block g h.lt hg).trans h
/-- make([]byte, n). -/
theorem wpList_make_bytes (w : World) {ops : Array Oper} {rest : List Oper} {o : Oper} {a : Act} {Q : Exit → Act → World → Prop}
    (hg : o.guard = none) (l c : Operand) (hop : o.op = Op.makeSlice 22 l c) (L : Int) (n : Nat) (hl : a.eval l = .int .i64 L) (hc : a.eval c = .int .i64 L) (hL : L = (n : Int)) (hn : n ≤ 1099511627776)
    (hK : ∀ w', RowT 5 w' w.heap.size (List.replicate n 0) → Below w.heap.size w w' → w.heap.size < w'.heap.size →
      wpList Tryd.prog ops Q rest (a.put o.dst (.slice (some ⟨w.heap.size, 0, none⟩) n n)) w') :
    wpList Tryd.prog ops Q (o :: rest) a w := by
  obtain ⟨i0, hi, hz0, hz1, hz2⟩ := info_parts info5
  refine wpList_make_full w hg l c 22 hop w.heap.size 5 i0 (.int .u8 0) 1 Tryd.underlying22 hi hz0 hz1 .i64 .i64 L L n hl hc hL hL (by rw [hz2]; omega) (by unfold maxLen; omega) (Nat.le_refl _) ?_
  intro w' hown hgr
  obtain ⟨_, ⟨h, _⟩ | ⟨g, cap, cur, e, hgb, hh, h1, h2, h3, h4⟩⟩ := hown
  · cases h
  · obtain ⟨rfl, rfl⟩ : w.heap.size = g ∧ n = cap := by simpa using e
    have hcur : cur = bcells (List.replicate n 0) := by
      rw [made_zero] at h4
      rw [← bl_toArray, ← h4, List.take_of_length_le (by simp [h3])]
    rw [hcur] at hh
    refine hK w' hh ((Below.refl _ w).grown hgr (Nat.le_refl _) (fun k hk => by cases hk)) ?_
    exact (Array.getElem?_eq_some_iff.1 hh).1

/-- How many bytes follow n bytes, and what they are: 80, noughts, the count of bits. -/
def wholeOf (n : Nat) : Nat := if 0 < (n % 64 + 9) % 64 then 9 + (64 - (n % 64 + 9) % 64) else 9
def endTo (n : Nat) : Nat → List UInt8
  | 0 => (List.replicate (wholeOf n) 0).set 0 128
  | i + 1 => (endTo n i).set (wholeOf n - 1 - i) (UInt8.ofNat (n * 8 / 2 ^ (8 * i)))
theorem endTo_length (n i : Nat) : (endTo n i).length = wholeOf n := by
  induction i with
  | zero => simp [endTo]
  | succ i ih => simp [endTo, ih]
theorem wholeOf_bounds (n : Nat) : 9 ≤ wholeOf n ∧ wholeOf n ≤ 72 := by
  unfold wholeOf; split <;> omega
theorem bi_ofNat (x : Nat) : bi (UInt8.ofNat x) = ((x % 256 : Nat) : Int) := by
  unfold bi; simp

def EndPost (n : Nat) (w : World) (e : Ending) (w' : World) : Prop :=
  e = .returned (.slice (some ⟨w.heap.size, 0, none⟩) (wholeOf n) (wholeOf n)) ∧ RowT 5 w' w.heap.size (endTo n 8) ∧ Below w.heap.size w w'
def EndRel (n : Nat) (w : World) (v : Value) (wr : World) : Prop :=
  ∃ k : Nat, k ≤ 8 ∧ v = .int .i64 k ∧ RowT 5 wr w.heap.size (endTo n k) ∧ Below w.heap.size w wr

set_option maxRecDepth 100000 in
set_option maxHeartbeats 400000 in
theorem ending_walk (n : Nat) (w : World) (hn : n ≤ 1099511627776) : Calls Tryd.prog 35 #[.int .u64 n] w (EndPost n w) := by
  have hb := wholeOf_bounds n
  have hwo : wholeOf n = if 0 < (n % 64 + 9) % 64 then 9 + (64 - (n % 64 + 9) % 64) else 9 := rfl
  by_cases h0 : 0 < (n % 64 + 9) % 64
  · rw [if_pos h0] at hwo
    have hwi : (9 : Int) + (64 - ((n : Int) + 9) % 64) = (wholeOf n : Int) := by omega
    have h0i : (0 : Int) < ((n : Int) + 9) % 64 := by omega
    have HWO := Lib.hid hwo
    clear hwo h0
    generalize hLL : wholeOf n = L at *
    have HLL := Lib.hid hLL
    clear hLL
    have hl72 : L ≤ 1099511627776 := by omega
    go_enter Tryd.func35, Tryd.ntmps35
    go_wp2_with (refine wpList_make_bytes _ rfl _ _ rfl _ L rfl rfl rfl (by omega) ?_; intro w1 hrow hbel hsz; have c0 := hrow.cell 0 (by simp; omega); have f0 := hrow.free 0)
    clear hwi
    go_loopw [26] (fun v wr => EndRel n w v wr) (fun v _ => 8 - (intOf v).toNat)
    case atStart => exact ⟨0, by omega, rfl, by simp only [endTo, HLL.out]; exact hrow.set 0 128, hbel.setCell (Nat.le_refl _) _⟩
    case round =>
      clear c0 f0 hrow hbel
      obtain ⟨k, hk, rfl, hrow, hbel⟩ := hrel
      by_cases hlt : k < 8
      · have c0 := hrow.cell (L - 1 - k) (by rw [endTo_length, HLL.out]; omega)
        have f0 := hrow.free (L - 1 - k)
        have hlt' : (k : Int) < 8 := by omega
        go_wp2_with fail
        refine ⟨⟨k + 1, by omega, by go_num, ?_, hbel.setCell (Nat.le_refl _) _⟩, by simp [intOf]; omega⟩
        have := hrow.set (L - 1 - k) (UInt8.ofNat (n * 8 / 2 ^ (8 * k)))
        rw [bi_ofNat] at this
        simp only [endTo, HLL.out]
        simpa using this
      · have hge : (8 : Int) ≤ (k : Int) := by omega
        go_wp2_with fail
        go_ret
        obtain rfl : k = 8 := by omega
        exact ⟨by rw [HLL.out]; rfl, hrow, hbel⟩
  · rw [if_neg h0] at hwo
    have h0i : ((n : Int) + 9) % 64 ≤ 0 := by omega
    have HLL := Lib.hid hwo
    clear hwo h0 hb
    go_enter Tryd.func35, Tryd.ntmps35
    go_wp2_with (refine wpList_make_bytes _ rfl _ _ rfl _ 9 rfl rfl rfl (by omega) ?_; intro w1 hrow hbel hsz; have c0 := hrow.cell 0 (by simp); have f0 := hrow.free 0)
    go_loopw [26] (fun v wr => EndRel n w v wr) (fun v _ => 8 - (intOf v).toNat)
    case atStart => exact ⟨0, by omega, rfl, by simp only [endTo, HLL.out]; exact hrow.set 0 128, hbel.setCell (Nat.le_refl _) _⟩
    case round =>
      clear c0 f0 hrow hbel
      obtain ⟨k, hk, rfl, hrow, hbel⟩ := hrel
      by_cases hlt : k < 8
      · have c0 := hrow.cell (8 - k) (by rw [endTo_length, HLL.out]; omega)
        have f0 := hrow.free (8 - k)
        have hlt' : (k : Int) < 8 := by omega
        go_wp2_with fail
        refine ⟨⟨k + 1, by omega, by go_num, ?_, hbel.setCell (Nat.le_refl _) _⟩, by simp [intOf]; omega⟩
        have := hrow.set (8 - k) (UInt8.ofNat (n * 8 / 2 ^ (8 * k)))
        rw [bi_ofNat] at this
        simp only [endTo, HLL.out]
        simpa using this
      · have hge : (8 : Int) ≤ (k : Int) := by omega
        go_wp2_with fail
        go_ret
        obtain rfl : k = 8 := by omega
        exact ⟨by rw [HLL.out]; rfl, hrow, hbel⟩
end Go.Proofs.YtdkajbhhmgmohaaDoor
