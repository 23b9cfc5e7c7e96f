/-
  The contract of (*sha.State).digest: the hash as 32 bytes.
-/
import Derived.Test.YtdkajbhhmgmohaaDoorEnding
import Derived.Deep.MidRow
namespace Go.Proofs.YtdkajbhhmgmohaaDoor
open Go.RowKit Sha

/-- The eight words in their order. -/
def hw (s : St) (i : Nat) : W := [s.a, s.b, s.c, s.d, s.e, s.f, s.g, s.h].getD i 0#32
def hcells (s : St) : List Value := [.int .u32 (iv s.a), .int .u32 (iv s.b), .int .u32 (iv s.c), .int .u32 (iv s.d), .int .u32 (iv s.e), .int .u32 (iv s.f), .int .u32 (iv s.g), .int .u32 (iv s.h)]
theorem hindex0 (s : St) (w : World) : (Instr.index 52 (.agg (hcells s).toArray) (.int .i64 0)).run Tryd.prog w = .ok (.int .u32 (iv (hw s 0))) w := by kernel_rfl
theorem hindex1 (s : St) (w : World) : (Instr.index 52 (.agg (hcells s).toArray) (.int .i64 1)).run Tryd.prog w = .ok (.int .u32 (iv (hw s 1))) w := by kernel_rfl
theorem hindex2 (s : St) (w : World) : (Instr.index 52 (.agg (hcells s).toArray) (.int .i64 2)).run Tryd.prog w = .ok (.int .u32 (iv (hw s 2))) w := by kernel_rfl
theorem hindex3 (s : St) (w : World) : (Instr.index 52 (.agg (hcells s).toArray) (.int .i64 3)).run Tryd.prog w = .ok (.int .u32 (iv (hw s 3))) w := by kernel_rfl
theorem hindex4 (s : St) (w : World) : (Instr.index 52 (.agg (hcells s).toArray) (.int .i64 4)).run Tryd.prog w = .ok (.int .u32 (iv (hw s 4))) w := by kernel_rfl
theorem hindex5 (s : St) (w : World) : (Instr.index 52 (.agg (hcells s).toArray) (.int .i64 5)).run Tryd.prog w = .ok (.int .u32 (iv (hw s 5))) w := by kernel_rfl
theorem hindex6 (s : St) (w : World) : (Instr.index 52 (.agg (hcells s).toArray) (.int .i64 6)).run Tryd.prog w = .ok (.int .u32 (iv (hw s 6))) w := by kernel_rfl
theorem hindex7 (s : St) (w : World) : (Instr.index 52 (.agg (hcells s).toArray) (.int .i64 7)).run Tryd.prog w = .ok (.int .u32 (iv (hw s 7))) w := by kernel_rfl
theorem hindex (s : St) (k : Nat) (hk : k < 8) (w : World) : (Instr.index 52 (.agg (hcells s).toArray) (.int .i64 (k : Int))).run Tryd.prog w = .ok (.int .u32 (iv (hw s k))) w := by
  match k, hk with
  | 0, _ => exact hindex0 s w
  | 1, _ => exact hindex1 s w
  | 2, _ => exact hindex2 s w
  | 3, _ => exact hindex3 s w
  | 4, _ => exact hindex4 s w
  | 5, _ => exact hindex5 s w
  | 6, _ => exact hindex6 s w
  | 7, _ => exact hindex7 s w
/-- A digest's bytes, as they are filled in. -/
def digTo (s : St) : Nat → List UInt8
  | 0 => List.replicate 32 0
  | i + 1 => (digTo s i).set i (UInt8.ofNat ((hw s (i / 4)).toNat / 2 ^ (8 * (3 - i % 4))))
theorem digTo_length (s : St) (i : Nat) : (digTo s i).length = 32 := by
  induction i with
  | zero => simp [digTo]
  | succ i ih => simp [digTo, ih]
/-- A digest's 32 bytes. -/
def dig (s : St) : List UInt8 := digTo s 32
theorem dig_length (s : St) : (dig s).length = 32 := digTo_length s 32
theorem size25 : (Tryd.prog.info? 25).map (·.size) = some 32 := by kernel_rfl
theorem size52 : (Tryd.prog.info? 52).map (·.size) = some 8 := by kernel_rfl
theorem zeros32 : bcells (List.replicate 32 0) = #[.int .u8 0, .int .u8 0, .int .u8 0, .int .u8 0, .int .u8 0, .int .u8 0, .int .u8 0, .int .u8 0, .int .u8 0, .int .u8 0, .int .u8 0, .int .u8 0, .int .u8 0, .int .u8 0, .int .u8 0, .int .u8 0, .int .u8 0, .int .u8 0, .int .u8 0, .int .u8 0, .int .u8 0, .int .u8 0, .int .u8 0, .int .u8 0, .int .u8 0, .int .u8 0, .int .u8 0, .int .u8 0, .int .u8 0, .int .u8 0, .int .u8 0, .int .u8 0] := rfl

structure DigRel (w wr : World) (l : List UInt8) : Prop where
  below : Below w.heap.size w wr
  res : RowT 25 wr w.heap.size (List.replicate 32 0)
  row : RowT 25 wr (w.heap.size + 1) l
theorem DigRel.step {w wr : World} {l : List UInt8} (h : DigRel w wr l) (i : Nat) (x : UInt8) : DigRel w (wr.setCell ⟨w.heap.size + 1, i, none⟩ (.int .u8 (bi x))) (l.set i x) :=
  ⟨h.below.setCell (Nat.le_succ _) _, (heap_setCell_other _ _ _ _ (by simp)).trans h.res, h.row.set i x⟩

set_option maxRecDepth 100000 in
set_option maxHeartbeats 600000 in
theorem digest_walk (gs T : Nat) (mk : Bool) (s : St) (rest : List UInt8) (n : Nat) (w : World) (hS : w.heap[gs]? = some (.cells (stc mk s rest n) T (0, 0))) :
    Calls Tryd.prog 36 #[.pointer (some ⟨gs, 0, none⟩)] w fun e w' => e = .returned (.agg (bcells (dig s))) ∧ Below w.heap.size w w' := by
  have hlt := (Array.getElem?_eq_some_iff.1 hS).1
  have hrange : ∀ wx, Below w.heap.size w wx → wx.rangeAt gs 1 (hcells s) := fun wx hb j v hj => by
    rw [hb.cell (p := ⟨gs, 1 + j, none⟩) hlt]
    have hj8 : j < 8 := (List.getElem?_eq_some_iff.1 hj).1
    rw [cell_of_row _ _ _ _ _ _ hS, stc_low _ _ _ _ _ (by omega), ← hj]
    match j, hj8 with
    | 0, _ => rfl
    | 1, _ => rfl
    | 2, _ => rfl
    | 3, _ => rfl
    | 4, _ => rfl
    | 5, _ => rfl
    | 6, _ => rfl
    | 7, _ => rfl
  have HRG := Lib.hid hrange
  clear hrange hS
  go_enter Tryd.func36, Tryd.ntmps36
  go_wp2_with (refine wpList_load_mid rfl 52 _ rfl gs 1 rfl (hcells s) _ (HRG.out _ (((Below.refl _ _).alloc (Nat.le_refl _) _).alloc (by simp) _)) Tryd.underlying52 rfl size52 ?_)
  go_loopw [11] (fun v wr => ∃ k : Nat, k ≤ 8 ∧ v = .int .i64 k ∧ DigRel w wr (digTo s (4 * k))) (fun v _ => 8 - (intOf v).toNat)
  case atStart => exact ⟨0, by omega, rfl, ((Below.refl _ _).alloc (Nat.le_refl _) _).alloc (by simp) _, heap_alloc2_old _ _ _, heap_alloc2_new _ _ _⟩
  case round =>
    obtain ⟨k, hk, rfl, hr⟩ := hrel
    by_cases hk8 : k < 8
    · have hki : (k : Int) < 8 := by omega
      have hix := hindex s k hk8
      go_wp2_with fail
      obtain ⟨wo, rfl⟩ : ∃ wo : World, wo = wr := ⟨_, rfl⟩
      go_loopw [15] (fun v wr => ∃ j : Nat, j ≤ 4 ∧ v = .int .i64 j ∧ DigRel w wr (digTo s (4 * k + j))) (fun v _ => 4 - (intOf v).toNat)
      case atStart => exact ⟨0, by omega, rfl, hr⟩
      case round =>
        clear hr
        obtain ⟨j, hj, rfl, hr⟩ := hrel
        by_cases hj4 : j < 4
        · have hji : (j : Int) < 4 := by omega
          have c0 := hr.row.cell (4 * k + j) (by rw [digTo_length]; omega)
          have f0 := hr.row.free (4 * k + j)
          have hnn := iv_nonneg (hw s k)
          have hnl := iv_lt (hw s k)
          go_wp2_with fail
          refine ⟨⟨j + 1, by omega, by go_num, ?_⟩, by simp [intOf]; omega⟩
          have := hr.step (4 * k + j) (UInt8.ofNat ((hw s k).toNat / 2 ^ (8 * (3 - j))))
          rw [bi_ofNat] at this
          have e1 : (4 * k + j) / 4 = k := by omega
          have e2 : (4 * k + j) % 4 = j := by omega
          rw [← Nat.add_assoc]
          simp only [digTo, e1, e2]
          simpa [iv] using this
        · have hji : (4 : Int) ≤ (j : Int) := by omega
          go_wp2_with fail
          obtain rfl : j = 4 := by omega
          refine ⟨⟨k + 1, by omega, by go_num, hr⟩, by simp [intOf]; omega⟩
    · have hki : (8 : Int) ≤ (k : Int) := by omega
      have HI : Hid ((Tryd.prog.info? 25).map (·.size) = some (bcells (digTo s (4 * k))).size) := Lib.hid (by rw [bcells_size, digTo_length]; exact size25)
      have HO : Hid ((bcells (List.replicate 32 0)).size = (bcells (digTo s (4 * k))).size) := Lib.hid (by rw [bcells_size, bcells_size, digTo_length]; rfl)
      have hone := Lib.hid (bcells_one (digTo s (4 * k)))
      have HR1 : Hid (wr.heap[w.heap.size + 1]? = some (.cells (bcells (digTo s (4 * k))) 25 (0, 0))) := Lib.hid hr.row
      have HR2 : Hid (wr.heap[w.heap.size]? = some (.cells (bcells (List.replicate 32 0)) 25 (0, 0))) := Lib.hid hr.res
      have hbel := hr.below
      clear hr HRG
      go_wp2_with (first | (refine wpList_load_row rfl 25 _ rfl (w.heap.size + 1) rfl 25 (bcells (digTo s (4 * k))) (0, 0) _ HR1.out Tryd.underlying25 rfl HI.out ?_) | (refine wpList_store_row rfl 25 _ _ rfl w.heap.size (bcells (digTo s (4 * k))) rfl rfl 25 _ HR2.out HI.out HO.out hone.out ?_))
      refine bodyPost_ret (v := .agg (bcells (dig s))) ?_ rfl ⟨rfl, below_setRow hbel (Nat.le_refl _) _⟩
      rw [show dig s = digTo s (4 * k) by rw [dig, show 4 * k = 32 by omega]]
      exact results_cell_row (p := 2) (ty := 25) rfl _ _ w.heap.size 25 _ (0, 0) _ rfl (setRow_heap _ _ _ _ _ _ HR2.out) Tryd.underlying25 rfl HI.out
end Go.Proofs.YtdkajbhhmgmohaaDoor
