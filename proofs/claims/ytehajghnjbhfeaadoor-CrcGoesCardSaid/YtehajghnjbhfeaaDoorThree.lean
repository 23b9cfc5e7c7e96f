/-
  The law CrcThree walked.
-/
import Derived.Test.YtehajghnjbhfeaaDoorRun
import Derived.Test.YtehajghnjbhfeaaDoorKinds
import Derived.ChangeKeysEq
import Derived.Lib.MinMax
namespace Go.Proofs.YtehajghnjbhfeaaDoor
open Go.RowKit Crc Inv

theorem info5 : (Tryd.prog.info? 5).map (fun i => (i.zero, i.size, i.bytes)) = some (some (.int .u8 0), 1, 1) := by kernel_rfl
def bl (l : List UInt8) : List Value := l.map fun x => Value.int .u8 (bi x)
theorem made_zero (n : Nat) : (madeCells (Value.int .u8 0).cells (n * 1)).toList = bl (List.replicate n 0) := by
  have e : bi 0 = 0 := rfl
  apply List.ext_getElem
  · simp [bl, size_madeCells]
  · intro i h1 h2
    simp [madeCells, bl, Value.cells, e, Nat.mod_one]
theorem bl_toArray (l : List UInt8) : (bl l).toArray = bcells l := rfl
/-- Block g holds just these bytes (t: the block's type). -/
def RowT (t : TypeId) (w : World) (g : Nat) (l : List UInt8) : Prop := w.heap[g]? = some (.cells (bcells l) t (0, 0))
theorem RowT.cell {t : TypeId} {w : World} {g : Nat} {l : List UInt8} (h : RowT t w g l) (i : Nat) (hi : i < l.length) : w.cell? ⟨g, i, none⟩ = some (.int .u8 (bi (l.getD i 0))) :=
  (cell_of_row _ _ _ _ _ _ h).trans (bcells_at _ _ hi)
theorem RowT.free {t : TypeId} {w : World} {g : Nat} {l : List UInt8} (h : RowT t w g l) (i : Nat) : w.frozen? ⟨g, i, none⟩ = false := frozen_of_row _ _ _ _ _ h
theorem RowT.set {t : TypeId} {w : World} {g : Nat} {l : List UInt8} (h : RowT t w g l) (i : Nat) (x : UInt8) : RowT t (w.setCell ⟨g, i, none⟩ (.int .u8 (bi x))) g (l.set i x) :=
  (heap_setCell_same _ _ _ _ _ _ h).trans (by rw [bcells_set])
theorem RowT.bytes {t : TypeId} {w : World} {g : Nat} {l : List UInt8} (h : RowT t w g l) : BytesAt w g 0 l := fun i hi => by
  rw [Nat.zero_add]; exact h.cell i hi
theorem RowT.lt {t : TypeId} {w : World} {g : Nat} {l : List UInt8} (h : RowT t w g l) : g < w.heap.size := (Array.getElem?_eq_some_iff.1 h).1
theorem RowT.below {t : TypeId} {w w' : World} {g B : Nat} {l : List UInt8} (h : RowT t w g l) (hb : Below B w w') (hg : g < B) : RowT t w' g l := (hb.block g hg).trans h
theorem RowT.only {t : TypeId} {w w' : World} {g gs : Nat} {l : List UInt8} (h : RowT t w g l) (hb : Only gs w w') (hg : g ≠ gs) : RowT t w' g l := (hb.block g h.lt hg).trans h
/-- make([]byte, n). -/
theorem wpList_make_bytes (w : World) {ops : Array Oper} {rest : List Oper} {o : Oper} {a : Act} {Q : Exit → Act → World → Prop}
    (hg : o.guard = none) (l c : Operand) (hop : o.op = Op.makeSlice 27 l c) (L : Int) (n : Nat) (hl : a.eval l = .int .i64 L) (hc : a.eval c = .int .i64 L) (hL : L = (n : Int)) (hn : n ≤ 1099511627776)
    (hK : ∀ w', RowT 5 w' w.heap.size (List.replicate n 0) → Below w.heap.size w w' → w.heap.size < w'.heap.size →
      wpList Tryd.prog ops Q rest (a.put o.dst (.slice (some ⟨w.heap.size, 0, none⟩) n n)) w') :
    wpList Tryd.prog ops Q (o :: rest) a w := by
  obtain ⟨i0, hi, hz0, hz1, hz2⟩ := info_parts info5
  refine wpList_make_full w hg l c 27 hop w.heap.size 5 i0 (.int .u8 0) 1 Tryd.underlying27 hi hz0 hz1 .i64 .i64 L L n hl hc hL hL (by rw [hz2]; omega) (by unfold maxLen; omega) (Nat.le_refl _) ?_
  intro w' hown hgr
  obtain ⟨_, ⟨h, _⟩ | ⟨g, cap, cur, e, hgb, hh, h1, h2, h3, h4⟩⟩ := hown
  · cases h
  · obtain ⟨rfl, rfl⟩ : w.heap.size = g ∧ n = cap := by simpa using e
    have hcur : cur = bcells (List.replicate n 0) := by
      rw [made_zero] at h4
      rw [← bl_toArray, ← h4, List.take_of_length_le (by simp [h3])]
    rw [hcur] at hh
    refine hK w' hh ((Below.refl _ w).grown hgr (Nat.le_refl _) (fun k hk => by cases hk)) ?_
    exact (Array.getElem?_eq_some_iff.1 hh).1
theorem u8_xor_bi (a b : UInt8) : bits .xor .u8 (bi a) (bi b) = bi (a ^^^ b) := by
  unfold bi; rw [u8_xor_nat _ _ a.toNat_lt b.toNat_lt, UInt8.toNat_xor]

/-- The rows' exclusive or, as it is filled. -/
def xorTo (a b c : List UInt8) (n : Nat) : Nat → List UInt8
  | 0 => List.replicate n 0
  | k + 1 => (xorTo a b c n k).set k (a.getD k 0 ^^^ b.getD k 0 ^^^ c.getD k 0)
theorem xorTo_length (a b c : List UInt8) (n k : Nat) : (xorTo a b c n k).length = n := by
  induction k with
  | zero => simp [xorTo]
  | succ k ih => simp [xorTo, ih]
theorem xorTo_at (a b c : List UInt8) (n k : Nat) (hk : k ≤ n) (i : Nat) (hi : i < k) : (xorTo a b c n k).getD i 0 = a.getD i 0 ^^^ b.getD i 0 ^^^ c.getD i 0 := by
  induction k with
  | zero => omega
  | succ k ih =>
    simp only [xorTo]
    by_cases hik : i = k
    · subst hik
      rw [List.getD_eq_getElem?_getD, List.getElem?_set_self (by rw [xorTo_length]; omega)]; rfl
    · rw [List.getD_eq_getElem?_getD, List.getElem?_set_ne (by omega), ← List.getD_eq_getElem?_getD]
      exact ih (by omega) (by omega)
theorem three_sum (a b c : List UInt8) (n : Nat) (ha : n ≤ a.length) (hb : n ≤ b.length) (hc : n ≤ c.length) : crcL (xorTo a b c n n) = crcL (a.take n) ^^^ crcL (b.take n) ^^^ crcL (c.take n) := by
  refine crc_three n _ _ _ _ (by simp; omega) (by simp; omega) (by simp; omega) (xorTo_length _ _ _ _ _) fun i hi => ?_
  rw [xorTo_at _ _ _ _ _ (Nat.le_refl _) _ hi]
  simp [hi]
theorem SlW.shape {w : World} {v : Value} {bs : List UInt8} (h : SlW w v bs) : ∃ p cap, v = .slice p bs.length cap := by
  rcases h with ⟨g, o, cap, h, _⟩ | ⟨p, h, rfl⟩
  · exact ⟨_, _, h⟩
  · exact ⟨_, _, h⟩
theorem SlW.some {w : World} {p : Option Addr} {n cap : Nat} {bs : List UInt8} (h : SlW w (.slice p n cap) bs) (h0 : 0 < n) : ∃ g o, p = some ⟨g, o, none⟩ ∧ BytesAt w g o bs := by
  rcases h with ⟨g, o, cap, h, _, hB⟩ | ⟨p', h, rfl⟩
  · cases h; exact ⟨g, o, rfl, hB⟩
  · cases h; omega
/-- A slice's beginning. -/
theorem SlW.take {w : World} {p : Option Addr} {n cap : Nat} {bs : List UInt8} (h : SlW w (.slice p n cap) bs) (k : Nat) (hk : k ≤ n) : SlW w (.slice p k cap) (bs.take k) := by
  rcases h with ⟨g, o, cap, h, h2, hB⟩ | ⟨p', h, rfl⟩
  · cases h
    exact .inl ⟨g, o, cap, by rw [List.length_take]; congr 1; omega, by simp; omega, hB.take k⟩
  · cases h
    obtain rfl : k = 0 := by omega
    exact .inr ⟨p, rfl, by simp⟩
theorem ite_min (x y : Int) : (if y < x then y else x) = min x y := by
  rw [Int.min_def]; split <;> split <;> omega
theorem run_min4 (w : World) (ts : Array TypeId) (t : TypeId) (x y z u : Int) :
    (Builtin.min_ ts t #[.int .i64 x, .int .i64 y, .int .i64 z, .int .i64 u]).run Tryd.prog w = .ok (.int .i64 (min (min (min x y) z) u)) w := by
  simp [Builtin.min_, Builtin.min2, ite_min]
theorem of_drew {a w : World} (h : Below a.drew.heap.size a.drew w) : Below a.heap.size a w := ⟨h.os, h.tape, h.output, h.size, h.block⟩
theorem below_drew {B : Nat} {a w : World} (h : Below B a w) : Below B a w.drew := ⟨h.os, h.tape, h.output, h.size, h.block⟩
theorem law_end {R : Ending → World → Prop} {a : Act} {w : World} (h6 : a.eval (.tmp 6) = .bool true) (hd : a.defers = []) (h : R (.returned (.bool true)) w) : Code.wp Tryd.prog Code.ret (bodyPost Tryd.prog Tryd.f6 R) a w := by
  refine wp_ret (bodyPost_ret (v := .bool true) ?_ hd h)
  have h6' : a.tmps.getD 6 undef = .bool true := h6
  simp [results, Tryd.results6, go_sem]
  simpa using h6'
def ThreeRel (w : World) (G : Nat) (a b c : List UInt8) (n : Nat) (v : Value) (wr : World) : Prop :=
  ∃ k : Nat, k ≤ n ∧ v = .int .i64 k ∧ RowT 5 wr G (xorTo a b c n k) ∧ Below w.heap.size w wr
set_option maxRecDepth 100000 in
set_option maxHeartbeats 1000000 in
theorem three_walk (w : World) (pa pb pc : Option Addr) (ca cb cc : Nat) (a b c : List UInt8) (ha : SlW w (.slice pa a.length ca) a) (hb : SlW w (.slice pb b.length cb) b) (hc : SlW w (.slice pc c.length cc) c) (hT : TAt w) :
    Calls Tryd.prog 6 #[.slice pa a.length ca, .slice pb b.length cb, .slice pc c.length cc] w (BoolPost true w) := by
  have h0 := hT.lt
  obtain ⟨n, hn⟩ : ∃ n, n = min (min (min a.length b.length) c.length) 1000 := ⟨_, rfl⟩
  have hmi : min (a.length : Int) (min (b.length : Int) (min (c.length : Int) 1000)) = (n : Int) := by omega
  have na : n ≤ a.length := by omega
  have nb : n ≤ b.length := by omega
  have nc : n ≤ c.length := by omega
  have n1 : n ≤ 1000 := by omega
  have HS := Lib.hid (three_sum a b c n na nb nc)
  have HA := Lib.hid ha
  have HB := Lib.hid hb
  have HC := Lib.hid hc
  clear ha hb hc hn
  generalize hla : a.length = la at *
  generalize hlb : b.length = lb at *
  generalize hlc : c.length = lc at *
  have HLA := Lib.hid hla
  have HLB := Lib.hid hlb
  have HLC := Lib.hid hlc
  clear hla hlb hlc
  have hmin := run_min4
  go_enter Tryd.func6, Tryd.ntmps6
  go_wp2_with (refine wpList_make_bytes _ rfl _ _ rfl _ n rfl rfl rfl (by omega) ?_; intro w1 hrow hbel hsz)
  go_loopw [9, 21] (fun _ v wr => ThreeRel w w.heap.size a b c n v wr) (fun _ v _ => n - (intOf v).toNat)
  case atStart => exact ⟨0, by omega, rfl, hrow, hbel⟩
  case round =>
    clear hrow hbel hsz hmi
    obtain ⟨k, hk, rfl, hrow, hbel⟩ := hrel
    by_cases hlt : k < n
    · obtain ⟨ga, oa, rfl, hBa⟩ := HA.out.some (by omega)
      obtain ⟨gb, ob, rfl, hBb⟩ := HB.out.some (by omega)
      obtain ⟨gc, oc, rfl, hBc⟩ := HC.out.some (by omega)
      have xa := hBa.below hbel (hBa.lt (by rw [HLA.out]; omega)) k (by rw [HLA.out]; omega)
      have xb := hBb.below hbel (hBb.lt (by rw [HLB.out]; omega)) k (by rw [HLB.out]; omega)
      have xc := hBc.below hbel (hBc.lt (by rw [HLC.out]; omega)) k (by rw [HLC.out]; omega)
      have xd := hrow.cell k (by rw [xorTo_length]; exact hlt)
      have xf := hrow.free k
      have HX : Hid (xorTo a b c n (k + 1) = (xorTo a b c n k).set k (a.getD k 0 ^^^ b.getD k 0 ^^^ c.getD k 0)) := Lib.hid rfl
      have HR := Lib.hid hrow
      clear hrow hBa hBb hBc HS HA HB HC
      generalize a.getD k 0 = va at *
      generalize b.getD k 0 = vb at *
      generalize c.getD k 0 = vc at *
      have u1 := u8_xor_bi va vb
      have u2 := u8_xor_bi (va ^^^ vb) vc
      have hki : (k : Int) < (n : Int) := by omega
      have hka : (k : Int) < (la : Int) := by omega
      have hkb : (k : Int) < (lb : Int) := by omega
      have hkc : (k : Int) < (lc : Int) := by omega
      go_wp2_with fail
      go_region
      go_wp2_with fail
      refine ⟨⟨k + 1, by omega, by go_num, ?_, ?_⟩, by simp [intOf]; omega⟩
      · rw [HX.out]
        exact HR.out.set k _
      · exact below_drew (hbel.setCell (Nat.le_refl _) _)
    · have hki : (n : Int) ≤ (k : Int) := by omega
      obtain rfl : k = n := by omega
      have hA1 := (HA.out.below hbel (Nat.le_refl _)).take k na
      have hB1 := (HB.out.below hbel (Nat.le_refl _)).take k nb
      have hC1 := (HC.out.below hbel (Nat.le_refl _)).take k nc
      have sA := slice_to pa la ca k a HA.out na
      have sB := slice_to pb lb cb k b HB.out nb
      have sC := slice_to pc lc cc k c HC.out nc
      have hTr := hT.below hbel h0
      have hD1 : SlW wr (.slice (some ⟨w.heap.size, 0, none⟩) k k) (xorTo a b c k k) := .inl ⟨w.heap.size, 0, k, by rw [xorTo_length], by rw [xorTo_length]; exact Nat.le_refl _, hrow.bytes⟩
      have hlX := xorTo_length a b c k k
      have HSA := Lib.hid sA
      have HSB := Lib.hid sB
      have HSC := Lib.hid sC
      have HLX := Lib.hid hlX
      clear hrow sA sB sC hlX
      generalize hXX : xorTo a b c k k = X at *
      clear hXX
      go_wp2_with fail
      obtain ⟨D, hD⟩ : ∃ D, D = Value.slice (some ⟨w.heap.size, 0, none⟩) k k := ⟨_, rfl⟩
      have HQ : Hid (∀ wx, Below wr.heap.size wr wx → BoolPost true w (.returned (.bool true)) wx) := Lib.hid (fun wx h => ⟨rfl, hbel.trans (h.mono hbel.size)⟩)
      rw [← hD] at hD1 ⊢
      have HD := Lib.hid hD
      clear hD
      refine wp_region_inv (by kernel_rfl) (by kernel_rfl) (BaseW wr.drew) StepW (VV [.eq D, .parts [(D, X)], .eq (.int .u32 (iv (crcL (cat [(D, X)])))),
        .eq (.slice pa la ca), .eq (.int .i64 (k : Int)), .eq (.slice pa k ca), .parts [(.slice pa k ca, a.take k)], .eq (.int .u32 (iv (crcL (cat [(.slice pa k ca, a.take k)])))),
        .eq (.slice pb lb cb), .eq (.int .i64 (k : Int)), .eq (.slice pb k cb), .parts [(.slice pb k cb, b.take k)], .eq (.int .u32 (iv (crcL (cat [(.slice pb k cb, b.take k)])))),
        .eq (.int .u32 (iv (crcL (cat [(.slice pa k ca, a.take k)]) ^^^ crcL (cat [(.slice pb k cb, b.take k)])))),
        .eq (.slice pc lc cc), .eq (.int .i64 (k : Int)), .eq (.slice pc k cc), .parts [(.slice pc k cc, c.take k)], .eq (.int .u32 (iv (crcL (cat [(.slice pc k cc, c.take k)])))),
        .eq (.int .u32 (iv (crcL (cat [(.slice pa k ca, a.take k)]) ^^^ crcL (cat [(.slice pb k cb, b.take k)]) ^^^ crcL (cat [(.slice pc k cc, c.take k)])))),
        .eq (.bool true), .eq (.bool true), .eq (.bool true), .eq (.bool true), .eq (.bool true)]) (VV.mono _) (Below.refl _ _) ?_ ?_
      · refine ⟨ok_move (.inl rfl) _ rfl _ rfl rfl fun x y hL _ _ => hL.rest 8 (by kernel_rfl),
          ok_build (.inl rfl) _ [(D, X)] (by simp) (by simp) rfl rfl rfl fun x y hL hB hD => ⟨one_part (hD.1 rfl), one_slw (W0 := wr.drew) hD1 hB⟩,
          ok_of (.inl rfl) _ _ rfl [(D, X)] hTr (by rw [cat_one, HLX.out]; omega) (by simp) rfl rfl fun x y hL hB hD => hD.1 rfl,
          ok_move (.inl rfl) _ rfl _ rfl rfl fun x y hL _ _ => hL.rest 0 (by kernel_rfl),
          ok_move (.inl rfl) _ rfl _ rfl rfl fun x y hL _ _ => hL.rest 7 (by kernel_rfl),
          ok_run (.inl rfl) _ rfl rfl fun x y hL hB hD => run_slice27 (.tmp 45) (.tmp 46) rfl (.slice pa la ca) _ k (hD.1 rfl) (hD.2.1 rfl) (HSA.out y),
          ok_build (.inl rfl) _ [(.slice pa k ca, a.take k)] (by simp) (by simp) rfl rfl rfl fun x y hL hB hD => ⟨one_part (hD.1 rfl), one_slw (W0 := wr.drew) hA1 hB⟩,
          ok_of (.inl rfl) _ _ rfl [(.slice pa k ca, a.take k)] hTr (by rw [cat_one]; simp; omega) (by simp) rfl rfl fun x y hL hB hD => hD.1 rfl,
          ok_move (.inl rfl) _ rfl _ rfl rfl fun x y hL _ _ => hL.rest 1 (by kernel_rfl),
          ok_move (.inl rfl) _ rfl _ rfl rfl fun x y hL _ _ => hL.rest 7 (by kernel_rfl),
          ok_run (.inl rfl) _ rfl rfl fun x y hL hB hD => run_slice27 (.tmp 50) (.tmp 51) rfl (.slice pb lb cb) _ k (hD.1 rfl) (hD.2.1 rfl) (HSB.out y),
          ok_build (.inl rfl) _ [(.slice pb k cb, b.take k)] (by simp) (by simp) rfl rfl rfl fun x y hL hB hD => ⟨one_part (hD.1 rfl), one_slw (W0 := wr.drew) hB1 hB⟩,
          ok_of (.inl rfl) _ _ rfl [(.slice pb k cb, b.take k)] hTr (by rw [cat_one]; simp; omega) (by simp) rfl rfl fun x y hL hB hD => hD.1 rfl,
          ok_run (.inl rfl) _ rfl rfl fun x y hL hB hD => run_xor32 (.tmp 49) (.tmp 54) rfl (crcL (cat [(.slice pa k ca, a.take k)])) (crcL (cat [(.slice pb k cb, b.take k)])) (hD.1 rfl) (hD.2.1 rfl),
          ok_move (.inl rfl) _ rfl _ rfl rfl fun x y hL _ _ => hL.rest 2 (by kernel_rfl),
          ok_move (.inl rfl) _ rfl _ rfl rfl fun x y hL _ _ => hL.rest 7 (by kernel_rfl),
          ok_run (.inl rfl) _ rfl rfl fun x y hL hB hD => run_slice27 (.tmp 56) (.tmp 57) rfl (.slice pc lc cc) _ k (hD.1 rfl) (hD.2.1 rfl) (HSC.out y),
          ok_build (.inl rfl) _ [(.slice pc k cc, c.take k)] (by simp) (by simp) rfl rfl rfl fun x y hL hB hD => ⟨one_part (hD.1 rfl), one_slw (W0 := wr.drew) hC1 hB⟩,
          ok_of (.inl rfl) _ _ rfl [(.slice pc k cc, c.take k)] hTr (by rw [cat_one]; simp; omega) (by simp) rfl rfl fun x y hL hB hD => hD.1 rfl,
          ok_run (.inl rfl) _ rfl rfl fun x y hL hB hD => run_xor32 (.tmp 55) (.tmp 60) rfl ((crcL (cat [(.slice pa k ca, a.take k)])) ^^^ (crcL (cat [(.slice pb k cb, b.take k)]))) (crcL (cat [(.slice pc k cc, c.take k)])) (hD.1 rfl) (hD.2.1 rfl),
          ok_run (.inl rfl) _ rfl rfl fun x y hL hB hD => (run_eql32 (.tmp 44) (.tmp 61) rfl (iv (crcL (cat [(D, X)]))) (iv ((crcL (cat [(.slice pa k ca, a.take k)])) ^^^ (crcL (cat [(.slice pb k cb, b.take k)])) ^^^ (crcL (cat [(.slice pc k cc, c.take k)])))) (hD.1 rfl) (hD.2.1 rfl)).trans (by rw [cat_one, cat_one, cat_one, cat_one, HS.out, beq_self_eq_true]),
          ok_move (.inl rfl) _ rfl _ rfl rfl fun x y hL _ hD => hD.1 rfl,
          ok_tells (.inr ⟨21, true, rfl, fun x y hL _ hD => hD.1 rfl⟩) _ rfl hTr rfl rfl,
          ok_pick (.inl rfl) _ _ _ rfl _ rfl rfl fun x y hL _ hD => ⟨hD.1 rfl, hD.2.1 rfl⟩,
          ok_assign (.inl rfl) _ rfl _ rfl rfl fun x y hL _ hD => hD.1 rfl, trivial⟩
      · intro a' w' hL hB hV
        have h6 : a'.eval (.tmp 6) = .bool true := hV 24 (of_decide_eq_true (by kernel_rfl))
        refine (by assumption : ∀ (a : Act) (wx : World), Code.wp Tryd.prog Code.ret (bodyPost Tryd.prog Tryd.f6 (BoolPost true w)) a wx → _) a' w' ?_
        exact law_end h6 hL.defers (HQ.out w' (of_drew hB))
end Go.Proofs.YtehajghnjbhfeaaDoor
