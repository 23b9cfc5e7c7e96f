/-
  bytes.Repeat, of one byte.
-/
import Derived.Test.YtkkelmlkpehcpaaDoorFw
import Derived.Test.YtkkelmlkpehcpaaDoorFl
import Derived.Lib.MakeNoZero
import Derived.Laws.CopyOwn
import Derived.Deep.RegionLaw
namespace Go.Proofs.YtkkelmlkpehcpaaDoor
open Go.RowKit
/-- The row that Repeat fills: bp bytes of m. -/
structure RepAt (w wr : World) (m bp : Nat) (c : UInt8) (cur : List Value) : Prop where
  row : wr.heap[w.heap.size]? = some (.cells cur.toArray 5 (0, 0))
  len : m ≤ cur.length
  take : cur.take bp = bl (List.replicate bp c)
  below : Below w.heap.size w wr
theorem splice_rep (c : UInt8) (cur : List Value) (bp k : Nat) (h : cur.take bp = bl (List.replicate bp c)) :
    (splice cur bp (bl (List.replicate k c))).take (bp + k) = bl (List.replicate (bp + k) c) := by
  unfold splice
  rw [h, ← List.append_assoc, ← bl_append, List.replicate_append_replicate, List.take_left' (by simp)]
theorem RepAt.cell {w wr : World} {m bp : Nat} {c : UInt8} {cur : List Value} (h : RepAt w wr m bp c cur) (i : Nat) (hi : i < bp) (hbp : bp ≤ m) : wr.cell? ⟨w.heap.size, i, none⟩ = some (.int .u8 (bi c)) := by
  have h1 : i < cur.length := by have := h.len; omega
  rw [cell_of_row _ _ _ _ _ _ h.row]
  have h2 : (cur.take bp)[i]? = some (.int .u8 (bi c)) := by
    rw [h.take]; simp [bl, hi]
  rw [List.getElem?_take, if_pos hi] at h2
  simpa using h2
set_option maxRecDepth 100000 in
set_option maxHeartbeats 1000000 in
theorem repeat_walk (w : World) (v : Value) (c : UInt8) (m : Nat) (hv : SlV w v (bl [c])) (hm1 : 1 ≤ m) (hm : m ≤ 8192) :
    Calls Tryd.prog 37 #[v, .int .i64 (m : Int)] w fun e w' => ∃ v', e = .returned v' ∧ SlV w' v' (bl (List.replicate m c)) ∧ Below w.heap.size w w' := by
  obtain ⟨p, cap, rfl⟩ := hv.shape
  rw [bl_length, List.length_singleton] at *
  obtain ⟨gs, os, rfl, hrs⟩ := hv.some (by omega)
  have hcs : ∀ wx, Below w.heap.size w wx → wx.cell? ⟨gs, os, none⟩ = some (.int .u8 (bi c)) := fun wx hx => by
    have h := (hrs.below hx (hrs.lt (by simp))).bl 0 (by simp)
    exact h
  have HCS := Lib.hid hcs
  clear hcs hrs hv
  have hsz5 : (Tryd.prog.info? 5).map (·.size) = some 1 := by kernel_rfl
  have hmul := mul_one_walk m (by omega) w
  have hmne : ((m : Int) == 0) = false := beq_eq_false_iff_ne.2 (by omega)
  have hmw : IntKind.u64.wrap (m : Int) = (m : Int) := by rw [IntKind.wrap_u64]; omega
  have hmw2 : IntKind.i64.wrap (m : Int) = (m : Int) := IntWalk.i64_in _ (by omega)
  obtain ⟨cs, hrunM, hle, -⟩ := Lib.run_makeNoZero (P := Tryd.prog) w #[3] 22 5 Tryd.underlying22 m (by omega)
  have hcall : (callFunc 52 #[.int .i64 (m : Int)]).run Tryd.prog w = .ok (.value (.slice (some ⟨w.heap.size, 0, none⟩) m cs.size)) (w.drew.drew.alloc (.cells cs 5)) := by
    rw [run_callFunc_extern Tryd.func52 (by kernel_rfl) (by kernel_rfl) (by kernel_rfl) (e := Extern.BytealgMakeNoZero.makeNoZero #[3] #[22]) (by kernel_rfl), hrunM]
    rfl
  clear hrunM
  have HR0 : Hid (RepAt w ((w.alloc (.cells cs 5)).drew.drew) m 0 c cs.toList) := Lib.hid ⟨by
      have h := heap_alloc_new w (.cells cs 5)
      exact h, by simpa using hle, by simp [bl], below_drewN ((Below.refl w.heap.size w).alloc (Nat.le_refl _) (.cells cs 5)) 2⟩
  have hsl0 : ∀ w', (Instr.sliceAt 22 (.slice (some ⟨w.heap.size, 0, none⟩) m cs.size) none (some (.int .i64 (m : Int))) (some (.int .i64 (m : Int)))).run Tryd.prog w' = .ok (.slice (some ⟨w.heap.size, 0, none⟩) m m) w' := fun w' => by
    have h1 : (0 : Int) ≤ (m : Int) := by omega
    have h4 : (m : Int) ≤ (cs.size : Int) := by omega
    go_simp
  have h0m : (0 : Int) ≤ (m : Int) := by omega
  have hmcs : (m : Int) ≤ (cs.size : Int) := by omega
  have hn1 : ([Value.int .u8 (bi c)] : List Value).length = Nat.min 1 m := by show 1 = min 1 m; omega
  have HSRC0 : Hid (∀ j y, ([Value.int .u8 (bi c)] : List Value)[j]? = some y → ((w.alloc (.cells cs 5)).drew.drew).cell? ((⟨gs, os, none⟩ : Addr).add j) = some y) := Lib.hid (fun j y hj => by
    cases j with
    | zero => simp at hj; rw [← hj]; exact HCS.out _ HR0.out.below
    | succ j => simp at hj)
  have hdd1 : decide ((m : Int) < 0) = false := decide_eq_false (by omega)
  have hdd2 : decide ((9223372036854775807 : Int) < (m : Int)) = false := decide_eq_false (by omega)
  have hdd3 : decide ((8192 : Int) < (m : Int)) = false := decide_eq_false (by omega)
  go_enter Tryd.func37, Tryd.ntmps37
  go_wp2_with (first
    | (go_at_call 45; refine hmul.mono ?_; rintro e w' ⟨rfl, hw⟩; rw [hw])
    | (refine wpList_copy_splice rfl (.tmp 58) (.tmp 59) 22 22 rfl 5 Tryd.underlying22 hsz5 (some ⟨w.heap.size, 0, none⟩) (some ⟨gs, os, none⟩) m m 1 cap rfl rfl w.heap.size 0 cs.toList 5 HR0.out.row [.int .u8 (bi c)] hn1 (fun _ => ⟨rfl, _, rfl, HSRC0.out⟩) (by simp; omega) (by intro y hy; simp at hy; rw [hy]; rfl) w.heap.size w HR0.out.below (Nat.le_refl _) ?_; intro w2 hg2 hb2))
  have HR1 : Hid (RepAt w w2 m 1 c (splice cs.toList 0 (bl (List.replicate 1 c)))) := Lib.hid ⟨hg2.out, by rw [length_splice _ _ _ (by simp; omega)]; simpa using hle, splice_rep c cs.toList 0 1 (by simp [bl]), hb2⟩
  clear hg2 hb2 HR0
  obtain ⟨c1, hc1⟩ : ∃ c1, c1 = splice cs.toList 0 (bl (List.replicate 1 c)) := ⟨_, rfl⟩
  rw [← hc1] at HR1
  clear hc1
  go_wp2_with fail
  go_loopw [10, 11] (fun v10 v11 wr => ∃ (bp : Nat) (cur : List Value), 1 ≤ bp ∧ bp ≤ m ∧ v10 = .int .i64 (bp : Int) ∧ RepAt w wr m bp c cur) (fun v10 _ _ => m - (intOf v10).toNat)
  case atStart => exact ⟨1, c1, Nat.le_refl _, hm1, rfl, HR1.out⟩
  case round =>
    obtain ⟨bp, cur, hb1, hbm, rfl, hR⟩ := hrel
    have HR := Lib.hid hR
    clear hR
    by_cases hlt : bp < m
    · have hlti : (bp : Int) < (m : Int) := by omega
      have hmin : min (bp : Int) (m : Int) = (bp : Int) := by omega
      have hs1 : ∀ w', (Instr.sliceAt 22 (.slice (some ⟨w.heap.size, 0, none⟩) m m) (some (.int .i64 (bp : Int))) none none).run Tryd.prog w' = .ok (.slice (some ⟨w.heap.size, bp, none⟩) (m - bp) (m - bp)) w' := fun w' => by
        have h1 : (0 : Int) ≤ (bp : Int) := by omega
        have h4 : (bp : Int) ≤ (m : Int) := by omega
        have h5 : ¬ m = bp := by omega
        go_simp
      have hs2 : ∀ w', (Instr.sliceAt 22 (.slice (some ⟨w.heap.size, 0, none⟩) m m) none (some (.int .i64 (bp : Int))) none).run Tryd.prog w' = .ok (.slice (some ⟨w.heap.size, 0, none⟩) bp m) w' := fun w' => by
        have h1 : (0 : Int) ≤ (bp : Int) := by omega
        have h4 : (bp : Int) ≤ (m : Int) := by omega
        go_simp
      obtain ⟨k, hk⟩ : ∃ k, k = min bp (m - bp) := ⟨_, rfl⟩
      have hk1 : 1 ≤ k ∧ k ≤ bp ∧ bp + k ≤ m := by omega
      have hkn : k = Nat.min bp (m - bp) := hk
      have HKN := Lib.hid hkn
      clear hk hkn
      have hwr : IntKind.i64.wrap ((bp : Int) + (k : Int)) = (bp : Int) + (k : Int) := IntWalk.i64_in _ (by omega)
      have HSRC : Hid (∀ j y, (bl (List.replicate k c))[j]? = some y → wr.drew.cell? ((⟨w.heap.size, 0, none⟩ : Addr).add j) = some y) := Lib.hid (fun j y hj => by
        have hjk : j < k := by have := (List.getElem?_eq_some_iff.1 hj).1; simpa using this
        have hy : y = .int .u8 (bi c) := by simp [bl, hjk] at hj; exact hj.symm
        have hadd : (⟨w.heap.size, 0, none⟩ : Addr).add j = ⟨w.heap.size, j, none⟩ := by unfold Addr.add; split <;> simp_all
        rw [hadd, hy]
        exact HR.out.cell j (by omega) hbm)
      have HROW : Hid (wr.drew.heap[w.heap.size]? = some (.cells cur.toArray 5 (0, 0))) := Lib.hid HR.out.row
      go_wp2_with fail
      go_region_law (refine step_copy_splice rfl (.tmp 70) (.tmp 73) 22 22 rfl 5 Tryd.underlying22 hsz5 (some ⟨w.heap.size, bp, none⟩) (some ⟨w.heap.size, 0, none⟩) (m - bp) (m - bp) bp m (by go_simp) (by go_simp) w.heap.size bp cur 5 HROW.out (bl (List.replicate k c)) (by rw [bl_length, List.length_replicate]; exact HKN.out) (fun _ => ⟨rfl, _, rfl, HSRC.out⟩) (by have := HR.out.len; simp; omega) (bl_one _) w.heap.size w (below_drewN HR.out.below 1) (Nat.le_refl _) ?_; intro w4 hg4 hb4)
      have HRN : Hid (RepAt w w4 m (bp + k) c (splice cur bp (bl (List.replicate k c)))) := Lib.hid ⟨hg4.out, by rw [length_splice _ _ _ (by have := HR.out.len; simp; omega)]; exact HR.out.len, splice_rep c cur bp k HR.out.take, hb4⟩
      clear hg4 hb4
      simp only [Act.put, List.getElem_toArray, List.getElem_cons_succ, List.getElem_cons_zero, List.setIfInBounds_toArray, List.set_cons_zero, List.set_cons_succ]
      go_wp2_with fail
      refine ⟨⟨bp + k, _, by omega, by omega, ?_, HRN.out⟩, ?_⟩
      · go_num
      · simp only [intOf]; omega
    · have hlti : (m : Int) ≤ (bp : Int) := by omega
      obtain rfl : bp = m := by omega
      go_wp2_with fail
      go_ret
      refine ⟨_, rfl, .inl ⟨w.heap.size, 0, bp, by simp, by simp, fun i v hi => ?_⟩, HR.out.below⟩
      have hib : i < bp := by have := (List.getElem?_eq_some_iff.1 hi).1; simpa using this
      have hy : v = .int .u8 (bi c) := by simp [bl, hib] at hi; exact hi.symm
      rw [Nat.zero_add, hy]
      exact HR.out.cell i hib (Nat.le_refl _)
end Go.Proofs.YtkkelmlkpehcpaaDoor
