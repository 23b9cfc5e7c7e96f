/-
  Merged, in the order in which they build: Rep Cat.
-/
import Derived.Shelf.Bits.Mul64
import Derived.Laws.CopyOwn
import Derived.Deep.RegionLaw
import Derived.Lib.AppendZeros
import Derived.Test.YtphdcgioeokfbaaDoorMg8
/-
  slices.Repeat, of one int.
-/
namespace Go.Proofs
open Go.Shelf
def Tryd.laysMul_ren : Go.Shelf.Ren := ⟨fun | 212 => 71 | 263 => 83 | 264 => 84 | n => n, fun | 46 => 39 | 51 => 132 | 53 => 83 | 146 => 149 | 148 => 151 | n => n, fun | n => n⟩
theorem Tryd.laysMul : Go.Proofs.Lays.n212 Tryd.prog Tryd.laysMul_ren := {
  mixed := by kernel_rfl
  f212 := Tryd.func71.trans (congrArg some (by kernel_rfl))
  f263 := Tryd.func83.trans (congrArg some (by kernel_rfl))
  f264 := Tryd.func84.trans (congrArg some (by kernel_rfl))
  t46 := Tryd.underlying39
  a46 := Tryd.isAgg39
  z46 := Tryd.sizeOf39
  v46 := Tryd.zeroValue39
  t51 := Tryd.underlying132
  a51 := Tryd.isAgg132
  z51 := Tryd.sizeOf132
  v51 := Tryd.zeroValue132
  t53 := Tryd.underlying83
  a53 := Tryd.isAgg83
  z53 := Tryd.sizeOf83
  v53 := Tryd.zeroValue83
  t146 := Tryd.underlying149
  a146 := Tryd.isAgg149
  z146 := Tryd.sizeOf149
  v146 := Tryd.zeroValue149
  t148 := Tryd.underlying151
  a148 := Tryd.isAgg151
  z148 := Tryd.sizeOf151
  v148 := Tryd.zeroValue151
}
end Go.Proofs
namespace Go.Proofs.YtphdcgioeokfbaaDoor
open Go.RowKit
theorem mul_one_walk (y : Nat) (hy : y < 18446744073709551616) (w : World) :
    Calls Tryd.prog 71 #[.int .u64 1, .int .u64 (y : Int)] w fun e w' => e = .returned (.tuple #[.int .u64 0, .int .u64 (y : Int)]) ∧ w' = w := by
  have h := Any.bits_Mul Tryd.laysMul 1 y (by decide) hy w
  rw [Nat.one_mul, Nat.div_eq_of_lt hy, Nat.mod_eq_of_lt hy] at h
  exact h
/-- The row that Repeat fills: bp of m numbers. -/
structure RepAt (w wr : World) (m bp : Nat) (z : Int) (cur : List Value) : Prop where
  row : wr.heap[w.heap.size]? = some (.cells cur.toArray 3 (0, 0))
  len : m ≤ cur.length
  take : cur.take bp = ni (List.replicate bp z)
  below : Below w.heap.size w wr
theorem splice_rep (z : Int) (cur : List Value) (bp k : Nat) (h : cur.take bp = ni (List.replicate bp z)) :
    (splice cur bp (ni (List.replicate k z))).take (bp + k) = ni (List.replicate (bp + k) z) := by
  unfold splice
  rw [h, ← List.append_assoc, ← ni_append, List.replicate_append_replicate, List.take_left' (by simp)]
theorem RepAt.cell {w wr : World} {m bp : Nat} {z : Int} {cur : List Value} (h : RepAt w wr m bp z cur) (i : Nat) (hi : i < bp) (hbp : bp ≤ m) : wr.cell? ⟨w.heap.size, i, none⟩ = some (.int .i64 z) := by
  have h1 : i < cur.length := by have := h.len; omega
  rw [cell_of_row _ _ _ _ _ _ h.row]
  have h2 : (cur.take bp)[i]? = some (.int .i64 z) := by
    rw [h.take]; simp [ni, hi]
  rw [List.getElem?_take, if_pos hi] at h2
  simpa using h2
set_option maxRecDepth 100000 in
set_option maxHeartbeats 1000000 in
theorem repeat_walkF (w : World) (v : Value) (z : Int) (m : Nat) (hv : SlV w v (ni [z])) (hm1 : 1 ≤ m) (hm : m ≤ 8192) :
    Calls Tryd.prog 61 #[v, .int .i64 (m : Int)] w fun e w' => ∃ v', e = .returned v' ∧ SlV w' v' (ni (List.replicate m z)) ∧ Below w.heap.size w w' ∧ ∀ a n c, v' = .slice (some a) n c → w.heap.size ≤ a.block := by
  obtain ⟨p, cap, rfl⟩ := hv.shape
  rw [ni_length, List.length_singleton] at *
  obtain ⟨gs, os, rfl, hrs⟩ := hv.some (by omega)
  have hcs : ∀ wx, Below w.heap.size w wx → wx.cell? ⟨gs, os, none⟩ = some (.int .i64 z) := fun wx hx => by
    have h := (hrs.below hx (hrs.lt (by simp))).ni 0 (by simp)
    exact h
  have HCS := Lib.hid hcs
  clear hcs hrs hv
  have hsz3 : (Tryd.prog.info? 3).map (·.size) = some 1 := by kernel_rfl
  have hmul := mul_one_walk m (by omega) w
  have hmw : IntKind.u64.wrap (m : Int) = (m : Int) := by rw [IntKind.wrap_u64]; omega
  have hmw2 : IntKind.i64.wrap (m : Int) = (m : Int) := IntWalk.i64_in _ (by omega)
  have h0m : (0 : Int) ≤ (m : Int) := by omega
  have hm8 : (m : Int) ≤ 8192 := by omega
  have hdd1 : decide ((m : Int) < 0) = false := decide_eq_false (by omega)
  have hdd2 : decide ((9223372036854775807 : Int) < (m : Int)) = false := decide_eq_false (by omega)
  obtain ⟨i0, hi, hz0, hz1, hz2⟩ := info_parts info3
  have hmk := run_makeSlice (P := Tryd.prog) w 91 3 i0 (.int .i64 0) Tryd.underlying91 hi hz0 .i64 .i64 (m : Int) (m : Int) h0m (Int.le_refl _) (by rw [hz1]; simp only [Int.toNat_natCast]; omega) (by rw [hz2]; omega) (by omega)
  simp only [Int.toNat_natCast] at hmk
  obtain ⟨cs, hcs2⟩ : ∃ cs, cs = madeCells (Value.int .i64 0).cells (m * i0.size) := ⟨_, rfl⟩
  rw [← hcs2] at hmk
  have hle : cs.size = m := by rw [hcs2, size_madeCells, hz1, Nat.mul_one]
  clear hcs2 hz0 hz1 hz2 hi
  have HR0 : Hid (RepAt w (w.alloc (.cells cs 3)) m 0 z cs.toList) := Lib.hid ⟨by
      have h := heap_alloc_new w (.cells cs 3)
      exact h, by simp [hle], by simp [ni], (Below.refl w.heap.size w).alloc (Nat.le_refl _) (.cells cs 3)⟩
  have hn1 : (ni [z]).length = Nat.min 1 m := by show 1 = min 1 m; omega
  have HSRC0 : Hid (∀ j y, (ni [z])[j]? = some y → (w.alloc (.cells cs 3)).cell? ((⟨gs, os, none⟩ : Addr).add j) = some y) := Lib.hid (fun j y hj => by
    cases j with
    | zero => simp [ni] at hj; rw [← hj]; exact HCS.out _ HR0.out.below
    | succ j => simp [ni] at hj)
  go_enter Tryd.func61, Tryd.ntmps61
  go_wp2_with (first
    | (go_at_call 71; refine hmul.mono ?_; rintro e w' ⟨rfl, hw⟩; rw [hw])
    | (refine wpList_copy_splice rfl (.tmp 31) (.tmp 32) 91 91 rfl 3 Tryd.underlying91 hsz3 (some ⟨w.heap.size, 0, none⟩) (some ⟨gs, os, none⟩) m m 1 cap rfl rfl w.heap.size 0 cs.toList 3 HR0.out.row (ni [z]) hn1 (fun _ => ⟨rfl, _, rfl, HSRC0.out⟩) (by simp [hle]; omega) (by intro y hy; simp [ni] at hy; rw [hy]; rfl) w.heap.size w HR0.out.below (Nat.le_refl _) ?_; intro w2 hg2 hb2))
  have HR1 : Hid (RepAt w w2 m 1 z (splice cs.toList 0 (ni (List.replicate 1 z)))) := Lib.hid ⟨hg2.out, by rw [length_splice _ _ _ (by simp [hle]; omega)]; simp [hle], splice_rep z cs.toList 0 1 (by simp [ni]), hb2⟩
  clear hg2 hb2 HR0 HSRC0 hmk hmul
  obtain ⟨c1, hc1⟩ : ∃ c1, c1 = splice cs.toList 0 (ni (List.replicate 1 z)) := ⟨_, rfl⟩
  rw [← hc1] at HR1
  clear hc1
  have hone : ∀ k, ∀ y ∈ ni (List.replicate k z), y.oneCell' = true := fun k y hy => by
    obtain ⟨x, -, rfl⟩ := List.mem_map.1 hy; rfl
  have HONE := Lib.hid hone
  clear hone
  go_loopw [8] (fun v8 wr => ∃ (bp : Nat) (cur : List Value), 1 ≤ bp ∧ bp ≤ m ∧ v8 = .int .i64 (bp : Int) ∧ RepAt w wr m bp z cur) (fun v8 _ => m - (intOf v8).toNat)
  case atStart => exact ⟨1, c1, Nat.le_refl _, hm1, rfl, HR1.out⟩
  case round =>
    obtain ⟨bp, cur, hb1, hbm, rfl, hR⟩ := hrel
    have HR := Lib.hid hR
    clear hR HR1
    by_cases hlt : bp < m
    · have hlti : (bp : Int) < (m : Int) := by omega
      have hs1 : ∀ w', (Instr.sliceAt 91 (.slice (some ⟨w.heap.size, 0, none⟩) m m) (some (.int .i64 (bp : Int))) none none).run Tryd.prog w' = .ok (.slice (some ⟨w.heap.size, bp, none⟩) (m - bp) (m - bp)) w' := fun w' => by
        have h1 : (0 : Int) ≤ (bp : Int) := by omega
        have h4 : (bp : Int) ≤ (m : Int) := by omega
        have h5 : ¬ m = bp := by omega
        go_simp
      have hs2 : ∀ w', (Instr.sliceAt 91 (.slice (some ⟨w.heap.size, 0, none⟩) m m) none (some (.int .i64 (bp : Int))) none).run Tryd.prog w' = .ok (.slice (some ⟨w.heap.size, 0, none⟩) bp m) w' := fun w' => by
        have h1 : (0 : Int) ≤ (bp : Int) := by omega
        have h4 : (bp : Int) ≤ (m : Int) := by omega
        go_simp
      obtain ⟨k, hk⟩ : ∃ k, k = min bp (m - bp) := ⟨_, rfl⟩
      have hk1 : 1 ≤ k ∧ k ≤ bp ∧ bp + k ≤ m := by omega
      have hkn : k = Nat.min bp (m - bp) := hk
      have HKN := Lib.hid hkn
      clear hk hkn
      have hwr : IntKind.i64.wrap ((bp : Int) + (k : Int)) = (bp : Int) + (k : Int) := IntWalk.i64_in _ (by omega)
      have HSRC : Hid (∀ j y, (ni (List.replicate k z))[j]? = some y → wr.drew.cell? ((⟨w.heap.size, 0, none⟩ : Addr).add j) = some y) := Lib.hid (fun j y hj => by
        have hjk : j < k := by have := (List.getElem?_eq_some_iff.1 hj).1; simpa using this
        have hy : y = .int .i64 z := by simp [ni, hjk] at hj; exact hj.symm
        have hadd : (⟨w.heap.size, 0, none⟩ : Addr).add j = ⟨w.heap.size, j, none⟩ := by unfold Addr.add; split <;> simp_all
        rw [hadd, hy]
        exact HR.out.cell j (by omega) hbm)
      have HROW : Hid (wr.drew.heap[w.heap.size]? = some (.cells cur.toArray 3 (0, 0))) := Lib.hid HR.out.row
      go_wp2_with fail
      go_region_law (refine step_copy_splice rfl (.tmp 41) (.tmp 44) 91 91 rfl 3 Tryd.underlying91 hsz3 (some ⟨w.heap.size, bp, none⟩) (some ⟨w.heap.size, 0, none⟩) (m - bp) (m - bp) bp m (by go_simp) (by go_simp) w.heap.size bp cur 3 HROW.out (ni (List.replicate k z)) (by rw [ni_length, List.length_replicate]; exact HKN.out) (fun _ => ⟨rfl, _, rfl, HSRC.out⟩) (by have := HR.out.len; simp; omega) (HONE.out k) w.heap.size w (below_drewN HR.out.below 1) (Nat.le_refl _) ?_; intro w4 hg4 hb4)
      have HRN : Hid (RepAt w w4 m (bp + k) z (splice cur bp (ni (List.replicate k z)))) := Lib.hid ⟨hg4.out, by rw [length_splice _ _ _ (by have := HR.out.len; simp; omega)]; exact HR.out.len, splice_rep z cur bp k HR.out.take, hb4⟩
      clear hg4 hb4
      simp only [Act.put, List.getElem_toArray, List.getElem_cons_succ, List.getElem_cons_zero, List.setIfInBounds_toArray, List.set_cons_zero, List.set_cons_succ]
      go_wp2_with fail
      refine ⟨⟨bp + k, _, by omega, by omega, ?_, HRN.out⟩, ?_⟩
      · go_num
      · simp only [intOf]; omega
    · have hlti : (m : Int) ≤ (bp : Int) := by omega
      obtain rfl : bp = m := by omega
      go_wp2_with fail
      go_ret
      refine ⟨_, rfl, .inl ⟨w.heap.size, 0, bp, by simp, by simp, fun i v hi => ?_⟩, HR.out.below, fun a n c e => by cases e; exact Nat.le_refl _⟩
      have hib : i < bp := by have := (List.getElem?_eq_some_iff.1 hi).1; simpa using this
      have hy : v = .int .i64 z := by simp [ni, hib] at hi; exact hi.symm
      rw [Nat.zero_add, hy]
      exact HR.out.cell i hib (Nat.le_refl _)
theorem repeat_walk (w : World) (v : Value) (z : Int) (m : Nat) (hv : SlV w v (ni [z])) (hm1 : 1 ≤ m) (hm : m ≤ 8192) :
    Calls Tryd.prog 61 #[v, .int .i64 (m : Int)] w fun e w' => ∃ v', e = .returned v' ∧ SlV w' v' (ni (List.replicate m z)) ∧ Below w.heap.size w w' :=
  (repeat_walkF w v z m hv hm1 hm).mono fun _ _ ⟨v', h1, h2, h3, _⟩ => ⟨v', h1, h2, h3⟩
end Go.Proofs.YtphdcgioeokfbaaDoor
/-
  slices.Grow of nil, slices.Concat of rows of ints.
-/
namespace Go.Proofs.YtphdcgioeokfbaaDoor
open Go.RowKit
set_option maxRecDepth 100000 in
set_option maxHeartbeats 1000000 in
theorem grow_walk (w : World) (m : Nat) (hm1 : 1 ≤ m) (hm : m ≤ 8192) :
    Calls Tryd.prog 59 #[.slice none 0 0, .int .i64 (m : Int)] w fun e w' => ∃ cap, e = .returned (.slice (some ⟨w.heap.size, 0, none⟩) 0 cap) ∧ w'.ownsRow w.heap.size 3 1 (.slice (some ⟨w.heap.size, 0, none⟩) 0 cap) 0 [] ∧ Below w.heap.size w w' := by
  obtain ⟨i0, hi, hz0, hz1, hz2⟩ := info_parts info3
  have hrun := fun ty => Lib.run_append_nil_zeros (P := Tryd.prog) w 91 3 ty 3 i0 (.int .i64 0) .i64 .i64 Tryd.underlying91 Tryd.underlying3 hi hz0 m (by omega) (by rw [hz1]; decide) (by omega) (by rw [hz2]; omega)
  obtain ⟨C, hC⟩ : ∃ C, C = grownCap w m 0 3 := ⟨_, rfl⟩
  have hge : m ≤ C := by rw [hC]; exact grownCap_ge w m 0 3
  have hle : C ≤ maxLen := by rw [hC]; exact grownCap_le_maxLen w m 0 3 (by simp [maxLen]; omega)
  rw [← hC] at hrun
  obtain ⟨cs, hcs⟩ : ∃ cs, cs = Builtin.zeroCells (Value.int .i64 0).cells m ++ Builtin.zeroCells (Value.int .i64 0).cells (C - m) := ⟨_, rfl⟩
  rw [← hcs] at hrun
  have hsz : cs.size = C * 1 := by
    rw [hcs]
    simp only [Array.size_append, size_zeroCells]
    have : (Value.int .i64 0).cells.size = 1 := rfl
    rw [this]
    omega
  have HRUN := Lib.hid hrun
  have HP : Hid ((w.drew.alloc (.cells cs 3)).ownsRow w.heap.size 3 1 (.slice (some ⟨w.heap.size, 0, none⟩) 0 C) 0 [] ∧ Below w.heap.size w (w.drew.alloc (.cells cs 3))) := Lib.hid ⟨World.ownsRow_made w.drew cs C (Nat.le_refl _) hle hsz, (below_drewN (Below.refl w.heap.size w) 1).alloc (Nat.le_refl _) (.cells cs 3)⟩
  clear hrun hcs hsz hC hz0 hz1 hz2 hi hle
  have hmw2 : IntKind.i64.wrap (m : Int) = (m : Int) := IntWalk.i64_in _ (by omega)
  have h0m : (0 : Int) ≤ (m : Int) := by omega
  have h1m : (0 : Int) < (m : Int) := by omega
  have hm8 : (m : Int) ≤ 8192 := by omega
  have hdd1 : decide ((m : Int) < 0) = false := decide_eq_false (by omega)
  have hdd2 : decide ((0 : Int) < (m : Int)) = true := decide_eq_true (by omega)
  have hC0 : (0 : Int) ≤ (C : Int) := by omega
  have hsn : ∀ w', (Instr.sliceAt 91 (.slice none 0 0) none (some (.int .i64 0)) none).run Tryd.prog w' = .ok (.slice none 0 0) w' := fun w' => by kernel_rfl
  have hsl : ∀ w', (Instr.sliceAt 91 (.slice (some ⟨w.heap.size, 0, none⟩) m C) none (some (.int .i64 0)) none).run Tryd.prog w' = .ok (.slice (some ⟨w.heap.size, 0, none⟩) 0 C) w' := fun w' => by
    have h4 : (0 : Int) ≤ (C : Int) := by omega
    go_simp
  clear hge
  go_enter Tryd.func59, Tryd.ntmps59
  go_wp2_with (refine Lib.wpList_append_run _ rfl (.tmp 20) (.tmp 21) 91 3 rfl (.slice none 0 0) (.int .i64 (m : Int)) rfl rfl _ _ (HRUN.out _) ?_)
  go_ret
  exact ⟨C, rfl, HP.out⟩
/-- The first k of some rows, one behind the other. -/
def catL (ls : Nat → List Int) : Nat → List Int
  | 0 => []
  | k + 1 => catL ls k ++ ls k
theorem catL_le (ls : Nat → List Int) {k n : Nat} (h : k ≤ n) : (catL ls k).length ≤ (catL ls n).length := by
  induction n with
  | zero => obtain rfl : k = 0 := by omega
            exact Nat.le_refl _
  | succ n ih =>
    by_cases hk : k = n + 1
    · rw [hk]; exact Nat.le_refl _
    · rw [catL, List.length_append]
      have := ih (by omega)
      omega
/-- A slice of slices of ints, in memory. -/
structure RowsAt (w : World) (g o n : Nat) (vs : Nat → Value) (ls : Nat → List Int) : Prop where
  cell : ∀ i, i < n → w.cell? ⟨g, o + i, none⟩ = some (vs i)
  slv : ∀ i, i < n → SlV w (vs i) (ni (ls i))
theorem RowsAt.below {w w' : World} {g o n : Nat} {vs : Nat → Value} {ls : Nat → List Int} (h : RowsAt w g o n vs ls) (hb : Below w.heap.size w w') : RowsAt w' g o n vs ls :=
  ⟨fun i hi => (hb.cell (block_lt_of_cell (h.cell i hi))).trans (h.cell i hi), fun i hi => (h.slv i hi).below hb (Nat.le_refl _)⟩
set_option maxRecDepth 100000 in
set_option maxHeartbeats 1000000 in
theorem concat_walkF (w : World) (g o n cap : Nat) (vs : Nat → Value) (ls : Nat → List Int) (h : RowsAt w g o n vs ls) (hnc : n ≤ cap) (hn : n ≤ 64) (h1 : 1 ≤ (catL ls n).length) (h2 : (catL ls n).length ≤ 8192) :
    Calls Tryd.prog 41 #[.slice (some ⟨g, o, none⟩) n cap] w fun e w' => ∃ v', e = .returned v' ∧ SlV w' v' (ni (catL ls n)) ∧ Below w.heap.size w w' ∧ ∀ a m c, v' = .slice (some a) m c → w.heap.size ≤ a.block := by
  obtain ⟨i0, hi, hz0, hz1, hz2⟩ := info_parts info3
  have HI0 := Lib.hid (And.intro hi (And.intro hz0 (And.intro hz1 hz2)))
  have HR := Lib.hid h
  have HLE := Lib.hid (fun k (hk : k ≤ n) => catL_le ls hk)
  have HT := Lib.hid (And.intro h1 h2)
  have HG := Lib.hid (fun W => grow_walk W (catL ls n).length h1 h2)
  have hnci : (n : Int) ≤ (cap : Int) := by omega
  have hn64 : (n : Int) ≤ 64 := by omega
  clear h h1 h2 hi hz0 hz1 hz2
  go_enter Tryd.func41, Tryd.ntmps41
  go_wp2_with fail
  go_loopw [3, 11] (fun v3 v11 wr => ∃ k : Nat, k ≤ n ∧ v3 = .int .i64 ((catL ls k).length : Nat) ∧ v11 = .int .i64 (k : Int) ∧ wr = w) (fun _ v11 _ => n - (intOf v11).toNat)
  case atStart => exact ⟨0, Nat.zero_le _, rfl, rfl, rfl⟩
  case round =>
    obtain ⟨k, hk, rfl, rfl, hww⟩ := hrel
    obtain rfl : w = wr := hww.symm
    by_cases hkn : k < n
    · have hkni : (k : Int) < (n : Int) := by omega
      have h0k : (0 : Int) ≤ (k : Int) := by omega
      have hc := HR.out.cell k hkn
      obtain ⟨p, c, hsh⟩ := (HR.out.slv k hkn).shape
      rw [ni_length] at hsh
      rw [hsh] at hc
      have hle := HLE.out (k + 1) (by omega)
      rw [catL, List.length_append] at hle
      have ht := HT.out.2
      have hlen : (catL ls (k + 1)).length = (catL ls k).length + (ls k).length := by rw [catL, List.length_append]
      have HLEN := Lib.hid hlen
      obtain ⟨a, ha⟩ : ∃ a, a = (catL ls k).length := ⟨_, rfl⟩
      obtain ⟨b, hb⟩ : ∃ b, b = (ls k).length := ⟨_, rfl⟩
      rw [← ha, ← hb] at hle HLEN
      rw [← hb] at hc
      rw [← ha]
      have hab : (a : Int) + (b : Int) ≤ 8192 := by omega
      have ha0 : (0 : Int) ≤ (a : Int) := by omega
      have hb0 : (0 : Int) ≤ (b : Int) := by omega
      have hneg : decide ((a : Int) + (b : Int) < 0) = false := decide_eq_false (by omega)
      clear hsh ht hle hlen ha hb
      go_wp2_with fail
      refine ⟨⟨k + 1, by omega, ?_, by go_num, by first | rfl | trivial⟩, by simp only [intOf]; omega⟩
      rw [HLEN.out]
      go_num
    · have hkni : (n : Int) ≤ (k : Int) := by omega
      obtain rfl : k = n := by omega
      go_wp2_with fail
      refine (HG.out _).mono ?_
      rintro e w1 ⟨cg, rfl, hown, hbel⟩
      have HOWN := Lib.hid hown
      have HBEL := Lib.hid hbel
      clear hown hbel
      go_wp2_with fail
      go_loopw [6, 27] (fun v6 v27 wr => ∃ j : Nat, j ≤ k ∧ wr.ownsRow w.heap.size 3 1 v6 (catL ls j).length (ni (catL ls j)) ∧ v27 = .int .i64 (j : Int) ∧ Below w.heap.size w wr) (fun _ v27 _ => k - (intOf v27).toNat)
      case atStart => exact ⟨0, Nat.zero_le _, HOWN.out, rfl, HBEL.out⟩
      case round =>
        obtain ⟨j, hj, hown, rfl, hbel⟩ := hrel
        have HOW := Lib.hid hown
        have HBL := Lib.hid hbel
        obtain ⟨p6, c6, hsh6⟩ := own_shape hown
        subst hsh6
        clear hown hbel HOWN HBEL
        by_cases hjk : j < k
        · have hjki : (j : Int) < (k : Int) := by omega
          have h0j : (0 : Int) ≤ (j : Int) := by omega
          have hR := HR.out.below HBL.out
          have hc := hR.cell j hjk
          have hs := hR.slv j hjk
          obtain ⟨p, c, hsh⟩ := hs.shape
          rw [ni_length] at hsh
          rw [hsh] at hc hs
          have hsk := hs.toK
          rw [ni_length] at hsk
          have HSK := Lib.hid hsk
          have hle := HLE.out (j + 1) (by omega)
          have ht := HT.out.2
          have hlen : (catL ls (j + 1)).length = (catL ls j).length + (ls j).length := by rw [catL, List.length_append]
          have hlt : (catL ls j).length + (ls j).length ≤ 8192 := by omega
          have HLT := Lib.hid hlt
          have hone : ∀ y ∈ ni (ls j), y.oneCell' = true := fun y hy => by
            obtain ⟨x, -, rfl⟩ := List.mem_map.1 hy; rfl
          have HONE := Lib.hid hone
          clear hsh ht hle hlen hR hs hsk hlt hone
          go_wp2_with (refine wpList_appK 91 3 i0 (.int .i64 0) 1 8 Tryd.underlying91 HI0.out.1 HI0.out.2.1 HI0.out.2.2.1 HI0.out.2.2.2 rfl (by decide) (by decide) rfl (.tmp 31) (.tmp 32) rfl w.heap.size (.slice p6 (catL ls j).length c6) (.slice p (ls j).length c) (catL ls j).length (ls j).length (ni (catL ls j)) (ni (ls j)) rfl rfl HONE.out HOW.out HSK.out HBL.out.size (by have := HLT.out; omega) ?_; intro v' w9 hown hgrow _; obtain ⟨p9, cap9, hv'⟩ := own_shape hown; have HOW9 := Lib.hid hown; have HGR := Lib.hid hgrow; clear hown hgrow; subst hv')
          refine ⟨⟨j + 1, by omega, ?_, by go_num, HBL.out.grown HGR.out HBL.out.size (fun k e => (HOW.out.lt k e).1)⟩, by simp only [intOf]; omega⟩
          have h9 := HOW9.out
          rw [catL, List.length_append, ni_append]
          exact h9
        · have hjki : (k : Int) ≤ (j : Int) := by omega
          obtain rfl : j = k := by omega
          go_wp2_with fail
          go_ret
          exact ⟨_, rfl, own_toV HOW.out, HBL.out, fun a m c e => (own_lt HOW.out a.block (by have e2 : (Value.slice p6 (catL ls j).length c6) = .slice (some a) m c := e; rw [e2]; rfl)).1⟩
theorem concat_walk (w : World) (g o n cap : Nat) (vs : Nat → Value) (ls : Nat → List Int) (h : RowsAt w g o n vs ls) (hnc : n ≤ cap) (hn : n ≤ 64) (h1 : 1 ≤ (catL ls n).length) (h2 : (catL ls n).length ≤ 8192) :
    Calls Tryd.prog 41 #[.slice (some ⟨g, o, none⟩) n cap] w fun e w' => ∃ v', e = .returned v' ∧ SlV w' v' (ni (catL ls n)) ∧ Below w.heap.size w w' :=
  (concat_walkF w g o n cap vs ls h hnc hn h1 h2).mono fun _ _ ⟨v', h1, h2, h3, _⟩ => ⟨v', h1, h2, h3⟩
end Go.Proofs.YtphdcgioeokfbaaDoor
