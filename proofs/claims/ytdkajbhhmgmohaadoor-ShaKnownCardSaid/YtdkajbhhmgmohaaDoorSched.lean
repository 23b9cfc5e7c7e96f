/-
  The contract of sha.schedule: the words W0 to W63 of a block of 64 bytes.
-/
import Derived.Test.YtdkajbhhmgmohaaDoorWords
import Derived.StillTailTactics
import Derived.Laws.CopyOwn
import Derived.Lib.Hide
namespace Go.Proofs.YtdkajbhhmgmohaaDoor
open Go.RowKit Sha

/-- Bytes that stand in memory from an address on. -/
def BytesAt (w : World) (g o : Nat) (bs : List UInt8) : Prop := ∀ i, i < bs.length → w.cell? ⟨g, o + i, none⟩ = some (.int .u8 (bi (bs.getD i 0)))
theorem BytesAt.lt {w : World} {g o : Nat} {bs : List UInt8} (h : BytesAt w g o bs) (h0 : 0 < bs.length) : g < w.heap.size :=
  block_lt_of_cell (h 0 h0)
theorem BytesAt.below {w w' : World} {g o B : Nat} {bs : List UInt8} (h : BytesAt w g o bs) (hb : Below B w w') (hg : g < B) : BytesAt w' g o bs :=
  fun i hi => by rw [hb.cell (p := ⟨g, o + i, none⟩) hg]; exact h i hi
theorem Below.drewN {B : Nat} {a w : World} (h : Below B a w) (n : Nat) : Below B a (w.drewN n) := ⟨h.os, h.tape, h.output, h.size, h.block⟩

theorem sS1_still (X : W) (w : World) : Calls Tryd.prog 81 #[.int .u32 (iv X)] w fun e w' => e = .returned (.int .u32 (iv (sS1 X))) ∧ w' = w := (sS1_iv X w).mono fun _ _ ⟨h, k⟩ => ⟨h, k.symm⟩
theorem sS0_still (X : W) (w : World) : Calls Tryd.prog 82 #[.int .u32 (iv X)] w fun e w' => e = .returned (.int .u32 (iv (sS0 X))) ∧ w' = w := (sS0_iv X w).mono fun _ _ ⟨h, k⟩ => ⟨h, k.symm⟩
structure SchRel (w wr : World) (l : List W) : Prop where
  below : Below w.heap.size w wr
  size : wr.heap.size = w.heap.size + 2
  res : wr.heap[w.heap.size]? = some (.cells (wcells (List.replicate 64 0#32)) 59 (0, 0))
  row : wr.heap[w.heap.size + 1]? = some (.cells (wcells l) 59 (0, 0))
  len : l.length = 64
theorem SchRel.cell {w wr : World} {l : List W} (h : SchRel w wr l) (i : Nat) (hi : i < 64) : wr.cell? ⟨w.heap.size + 1, i, none⟩ = some (.int .u32 (iv (l.getD i 0#32))) := by
  rw [cell_of_row _ _ _ _ _ _ h.row, wcells_at _ _ (by rw [h.len]; exact hi)]
theorem SchRel.free {w wr : World} {l : List W} (h : SchRel w wr l) (i : Nat) : wr.frozen? ⟨w.heap.size + 1, i, none⟩ = false :=
  frozen_of_row _ _ _ _ _ h.row
theorem SchRel.step {w wr : World} {l : List W} (h : SchRel w wr l) (i n : Nat) (x : W) : SchRel w ((wr.setCell ⟨w.heap.size + 1, i, none⟩ (.int .u32 (iv x))).drewN n) (l.set i x) :=
  ⟨Below.drewN (h.below.setCell (Nat.le_succ _) _) _, by show (wr.setCell _ _).heap.size = _; simp [World.setCell, h.size],
   by show (wr.setCell _ _).heap[_]? = _; rw [heap_setCell_other _ _ _ _ (by simp)]; exact h.res,
   by show (wr.setCell _ _).heap[_]? = _; rw [heap_setCell_same _ _ _ _ _ _ h.row, wcells_set], by simp [h.len]⟩

theorem SchRel.drewN {w wr : World} {l : List W} (h : SchRel w wr l) (n : Nat) : SchRel w (wr.drewN n) l := ⟨Below.drewN h.below n, h.size, h.res, h.row, h.len⟩
theorem SchRel.step' {w wr : World} {l : List W} (h : SchRel w wr l) (i n : Nat) (x : W) : SchRel w ((wr.drewN n).setCell ⟨w.heap.size + 1, i, none⟩ (.int .u32 (iv x))) (l.set i x) :=
  (h.drewN n).step i 0 x
set_option maxRecDepth 100000 in
set_option maxHeartbeats 1000000 in
theorem sched_walk (g o cap : Nat) (bs : List UInt8) (w : World) (hb : bs.length = 64) (hc : 64 ≤ cap) (hB : BytesAt w g o bs) :
    Calls Tryd.prog 70 #[.slice (some ⟨g, o, none⟩) 64 cap] w fun e w' => e = .returned (.agg (wcells (sched bs))) ∧ Below w.heap.size w w' := by
  have hg := hB.lt (by omega)
  go_enter Tryd.func70, Tryd.ntmps70
  go_wp2
  go_loopw [6] (fun i wr => ∃ k : Nat, k ≤ 16 ∧ i = .int .i64 k ∧ SchRel w wr (schedL (blockWord bs) k)) (fun i _ => 16 - (intOf i).toNat)
  case atStart => 
    refine ⟨0, by omega, rfl, ⟨((Below.refl _ _).alloc (Nat.le_refl _) _).alloc (by simp) _, by simp, ?_, ?_, schedL_length _ _⟩⟩
    · exact heap_alloc2_old _ _ _
    · exact heap_alloc2_new _ _ _
  case round =>
    obtain ⟨k, hk, rfl, hr⟩ := hrel
    by_cases hlt : k < 16
    · have hBr := hr.below
      have c0 := hB.below hBr hg (4 * k) (by omega)
      have c1 := hB.below hBr hg (4 * k + 1) (by omega)
      have c2 := hB.below hBr hg (4 * k + 2) (by omega)
      have c3 := hB.below hBr hg (4 * k + 3) (by omega)
      have f := hr.free k
      have cc := hr.cell k (by omega)
      have HH := Lib.hid hb
      clear hb
      go_wp2_with fail
      refine (word_iv g (o + 4 * k) _ _ _ _ _ _ _ (by omega) c0 c1 c2 c3).mono ?_
      rintro e w' ⟨rfl, n, rfl⟩
      go_wp2_with fail
      refine ⟨⟨k + 1, by omega, by go_num, ?_⟩, by simp [intOf]; omega⟩
      have := hr.step' k n (blockWord bs k)
      rw [show schedL (blockWord bs) (k + 1) = (schedL (blockWord bs) k).set k (blockWord bs k) by simp [schedL, schedStep, hlt]]
      simpa only [blockWord, List.getD_eq_getElem?_getD] using this
    · have : k = 16 := by omega
      subst this
      go_wp2_with fail
      rw [show ((16 : Nat) : Int) = (16 : Int) from rfl]
      go_loopw [5] (fun i wr => ∃ k : Nat, 16 ≤ k ∧ k ≤ 64 ∧ i = .int .i64 k ∧ SchRel w wr (schedL (blockWord bs) k)) (fun i _ => 64 - (intOf i).toNat)
      case atStart => exact ⟨16, by omega, by omega, rfl, hr⟩
      case round =>
        clear hr
        obtain ⟨k, hk0, hk, rfl, hr⟩ := hrel
        by_cases hlt : k < 64
        · have f := hr.free k
          have cc := hr.cell k (by omega)
          have c2 := hr.cell (k - 2) (by omega)
          have c7 := hr.cell (k - 7) (by omega)
          have c15 := hr.cell (k - 15) (by omega)
          have c16 := hr.cell (k - 16) (by omega)
          go_wp2_with fail
          have s2 : IntKind.i64.wrap ((k : Int) - 2) = (k : Int) - 2 := IntWalk.i64_in _ (by omega)
          have s7 : IntKind.i64.wrap ((k : Int) - 7) = (k : Int) - 7 := IntWalk.i64_in _ (by omega)
          have s15 : IntKind.i64.wrap ((k : Int) - 15) = (k : Int) - 15 := IntWalk.i64_in _ (by omega)
          have s16 : IntKind.i64.wrap ((k : Int) - 16) = (k : Int) - 16 := IntWalk.i64_in _ (by omega)
          have t2 : ((k : Int) - 2).toNat = k - 2 := by omega
          have t7 : ((k : Int) - 7).toNat = k - 7 := by omega
          have t15 : ((k : Int) - 15).toNat = k - 15 := by omega
          have t16 : ((k : Int) - 16).toNat = k - 16 := by omega
          obtain ⟨a2, b2⟩ : 0 ≤ (k : Int) - 2 ∧ (k : Int) - 2 < 64 := by omega
          obtain ⟨a7, b7⟩ : 0 ≤ (k : Int) - 7 ∧ (k : Int) - 7 < 64 := by omega
          obtain ⟨a15, b15⟩ : 0 ≤ (k : Int) - 15 ∧ (k : Int) - 15 < 64 := by omega
          obtain ⟨a16, b16⟩ : 0 ≤ (k : Int) - 16 ∧ (k : Int) - 16 < 64 := by omega
          obtain ⟨d2, d7, d15, d16⟩ : (2 : Int) ≤ (k : Int) ∧ (7 : Int) ≤ (k : Int) ∧ (15 : Int) ≤ (k : Int) ∧ (16 : Int) ≤ (k : Int) := by omega
          refine wp_region_still_tail 22 (by kernel_rfl) (by kernel_rfl) ?_
          simp only [List.take_succ_cons, List.take_zero, List.drop_succ_cons, List.drop_zero]
          change wpStill _ _ wr.drew (fun a' => wpList _ _ _ _ a' wr.drew) _ _
          repeat (first | still_step | still_call (sS1_still _ _) | still_call (sS0_still _ _))
          refine wpStill_nil ?_
          clear s2 s7 s15 s16 t2 t7 t15 t16
          go_wp2_with fail
          go_roundw
          case rel =>
            have := hr.step k 1 (sS1 ((schedL (blockWord bs) k).getD (k - 2) 0#32) + (schedL (blockWord bs) k).getD (k - 7) 0#32 + sS0 ((schedL (blockWord bs) k).getD (k - 15) 0#32) + (schedL (blockWord bs) k).getD (k - 16) 0#32)
            refine ⟨k + 1, by omega, by omega, by go_num, ?_⟩
            rw [show schedL (blockWord bs) (k + 1) = (schedL (blockWord bs) k).set k (sS1 ((schedL (blockWord bs) k).getD (k - 2) 0#32) + (schedL (blockWord bs) k).getD (k - 7) 0#32 + sS0 ((schedL (blockWord bs) k).getD (k - 15) 0#32) + (schedL (blockWord bs) k).getD (k - 16) 0#32) by simp only [schedL, schedStep]; rw [if_neg (by omega)]]
            simp only [List.getD_eq_getElem?_getD] at this ⊢
            exact this
          case measure => simp [intOf]; omega
        · have : k = 64 := by omega
          subst this
          have hs : sched bs = schedL (blockWord bs) 64 := rfl
          have HS := Lib.hid hs
          clear hs
          have hrow := hr.row
          have hres := hr.res
          have hlen := hr.len
          have hbel := hr.below
          generalize schedL (blockWord bs) 64 = l at *
          have hi : (Tryd.prog.info? 59).map (·.size) = some (wcells l).size := by rw [wcells_size, hlen]; kernel_rfl
          have HI := Lib.hid hi
          have HR := Lib.hid hrow
          have HZ := Lib.hid hres
          have HL := Lib.hid hlen
          clear hi hrow hres hlen hr
          have hone := Lib.hid (wcells_one l)
          have hsz : (wcells (List.replicate 64 0#32)).size = (wcells l).size := by rw [wcells_size, wcells_size, HL.out]; rfl
          have HO := Lib.hid hsz
          clear hsz
          go_wp2_with (first | (refine wpList_load_row rfl 59 _ rfl (w.heap.size + 1) rfl 59 (wcells l) (0, 0) _ HR.out Tryd.underlying59 rfl HI.out ?_) | (refine wpList_store_row rfl 59 _ _ rfl w.heap.size (wcells l) rfl rfl 59 _ HZ.out HI.out HO.out hone.out ?_))
          refine bodyPost_ret (v := .agg (wcells (sched bs))) ?_ rfl ⟨rfl, below_setRow hbel (Nat.le_refl _) _⟩
          rw [HS.out]
          exact results_cell_row (p := 2) (ty := 59) rfl _ _ w.heap.size 59 _ (0, 0) _ rfl (setRow_heap _ _ _ _ _ _ HZ.out) Tryd.underlying59 rfl HI.out
end Go.Proofs.YtdkajbhhmgmohaaDoor
