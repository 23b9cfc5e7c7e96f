/-
  A block's sum.
-/
import Derived.Test.YtkkelmlkpehcpaaDoorFq
namespace Go.Proofs.YtkkelmlkpehcpaaDoor
open Go.RowKit

theorem bl_size (l : List UInt8) (hl : l.length = 512) : (Tryd.prog.info? 40).map (·.size) = some (bl l).toArray.size := by
  rw [List.size_toArray, bl_length, hl]; kernel_rfl
theorem bl_all (l : List UInt8) : ((bl l).toArray).all (·.oneCell') = true := by
  rw [Array.all_eq_true']
  intro v hv
  exact bl_one l v (by simpa using hv)
theorem zero512 : Tryd.zeroCells40 = (bl (List.replicate 512 0)).toArray := by kernel_rfl
/-- What a row of bytes adds up to. -/
def sumB : List UInt8 → Nat
  | [] => 0
  | x :: t => x.toNat + sumB t
theorem sumB_append (a b : List UInt8) : sumB (a ++ b) = sumB a + sumB b := by
  induction a with
  | nil => simp [sumB]
  | cons x t ih => simp [sumB, ih]; omega
theorem sumB_le (l : List UInt8) : sumB l ≤ 255 * l.length := by
  induction l with
  | nil => simp [sumB]
  | cons x t ih => have := x.toNat_lt; simp [sumB]; omega
theorem sumB_take (l : List UInt8) (k : Nat) (h : k < l.length) : sumB (l.take (k + 1)) = sumB (l.take k) + (l.getD k 0).toNat := by
  rw [List.take_add_one, sumB_append]
  simp [sumB, h]
def blanks : List UInt8 := [32, 32, 32, 32, 32, 32, 32, 32]
/-- A block's sum. -/
def sumF (l : List UInt8) : Nat := sumB (setF l 148 blanks)
def SumPost (l : List UInt8) (w : World) (e : Ending) (w' : World) : Prop := e = .returned (.int .i64 (sumF l : Nat)) ∧ Below w.heap.size w w'
theorem bindex (l : List UInt8) (hl : l.length = 512) (k : Nat) (hk : k < 512) (w : World) : (Instr.index 40 (.agg (bl l).toArray) (.int .i64 (k : Int))).run Tryd.prog w = .ok (.int .u8 (bi (l.getD k 0))) w := by
  have h5 : (isAgg 5).run Tryd.prog w = .ok false w := by kernel_rfl
  have s5 : (sizeOf 5).run Tryd.prog w = .ok 1 w := by kernel_rfl
  have hn : 0 ≤ (k : Int) ∧ (k : Int) < (512 : Nat) := by omega
  have hat : (bl l).toArray[k]? = some (.int .u8 (bi (l.getD k 0))) := by simp [bl, hl, hk]
  simp only [Instr.index, asIntOf, Sem.run_bind, Sem.run_pure, Result.andThen_ok, run_underlying Tryd.underlying40, s5, part, h5, if_pos hn, Int.toNat_natCast, Nat.mul_one, hat]
  rfl
theorem place_chk : place [99, 104, 107, 115, 117, 109] = some (148, 8) := by decide
theorem blanks_len : blanks.length = 8 := rfl
/-- chksum is set. -/
theorem set_chk (w : World) (g : Nat) (l : List UInt8) (h : BlkAt w g l) (v : Value) (vs : List UInt8) (hv : SlV w v (bl vs)) (hlen : vs.length = 8) :
    Calls Tryd.prog 29 #[.pointer (some ⟨g, 0, none⟩), .string ⟨#[99, 104, 107, 115, 117, 109]⟩, v] w fun e w' => e = .returned (.int .i64 0) ∧ BlkAt w' g (setF l 148 vs) ∧ OnlyS (· = g) w w' := by
  refine (set_walk w g l h ⟨#[99, 104, 107, 115, 117, 109]⟩ (by decide) v vs hv (by unfold maxLen; omega)).mono fun e w' hp => ?_
  unfold SetPost at hp
  rw [show (⟨#[99, 104, 107, 115, 117, 109]⟩ : ByteArray).data.toList = [99, 104, 107, 115, 117, 109] from rfl, place_chk] at hp
  exact (if_pos hlen).mp hp
theorem set_blanks (w : World) (b g : Nat) (l : List UInt8) (h : BlkAt w g l) (hb : w.heap.size = b) :
    Calls Tryd.prog 29 #[.pointer (some ⟨g, 0, none⟩), .string ⟨#[99, 104, 107, 115, 117, 109]⟩, .slice (some ⟨b, 0, none⟩) 8 8] (w.alloc (.cells #[.int .u8 32, .int .u8 32, .int .u8 32, .int .u8 32, .int .u8 32, .int .u8 32, .int .u8 32, .int .u8 32] 5 (8, 9)))
      fun e w' => e = .returned (.int .i64 0) ∧ BlkAt w' g (setF l 148 blanks) ∧ OnlyS (· = g) w w' := by
  subst hb
  have hs := slv_marked w (bl blanks) 5 (8, 9)
  refine (set_chk _ g l (h.below ((Below.refl w.heap.size w).alloc (Nat.le_refl _) _) h.lt) _ blanks hs rfl).mono fun e w' ⟨h1, h2, h3⟩ => ⟨h1, h2, (OnlyS.alloc w _).trans h3⟩
def SumLoop (l : List UInt8) (s i : Value) : Prop := ∃ k : Nat, k ≤ 512 ∧ i = .int .i64 k ∧ s = .int .i64 ((sumB (l.take k) : Nat) : Int)
set_option maxRecDepth 100000 in
set_option maxHeartbeats 1000000 in
theorem sum_walk (w : World) (g : Nat) (l : List UInt8) (h : BlkAt w g l) : Calls Tryd.prog 24 #[.pointer (some ⟨g, 0, none⟩)] w (SumPost l w) := by
  have H := Lib.hid h
  have HI := Lib.hid (bl_size l h.len)
  have H1 := Lib.hid (bl_all l)
  have HA : Hid ((w.alloc (.cells Tryd.zeroCells40 40)).heap[w.heap.size]? = some (.cells Tryd.zeroCells40 40 (0, 0))) := Lib.hid (heap_alloc_new _ _)
  have HAZ : Hid (Tryd.zeroCells40.size = (bl l).toArray.size) := Lib.hid (by rw [zero512]; simp [h.len])
  have hsz : w.heap.size < w.heap.size + 1 := Nat.lt_succ_self _
  have kc := conv_const
  have h0 := h.len
  clear h
  have HW : Hid (BlkAt ((w.alloc (.cells Tryd.zeroCells40 40)).setRow w.heap.size (bl l).toArray) w.heap.size l) := Lib.hid ⟨H.out.len, setRow_heap _ _ _ _ _ _ HA.out⟩
  have HBW : Hid (Below w.heap.size w ((w.alloc (.cells Tryd.zeroCells40 40)).setRow w.heap.size (bl l).toArray)) := Lib.hid (below_setRow ((Below.refl _ _).alloc (Nat.le_refl _) _) (Nat.le_refl _) _)
  have HSZ : Hid (((w.alloc (.cells Tryd.zeroCells40 40)).setRow w.heap.size (bl l).toArray).heap.size = w.heap.size + 1) := Lib.hid (by simp)
  obtain ⟨l', hl'⟩ : ∃ l', l' = setF l 148 blanks := ⟨_, rfl⟩
  have hlen' : l'.length = 512 := by rw [hl', setF_length l 148 blanks (by rw [h0, blanks_len]; omega)]; exact h0
  have HI2 := Lib.hid (bl_size l' hlen')
  have HL' := Lib.hid hl'
  have HLEN := Lib.hid hlen'
  have HIX := Lib.hid (bindex l' hlen')
  clear hl' hlen' h0
  go_enter Tryd.func24, Tryd.ntmps24
  go_wp2_with (first
    | (refine wpList_load_row rfl 40 _ rfl g rfl 40 (bl l).toArray (0, 0) _ H.out.row Tryd.underlying40 rfl HI.out ?_)
    | (refine wpList_store_row rfl 40 _ _ rfl w.heap.size (bl l).toArray rfl rfl 40 _ HA.out HI.out HAZ.out H1.out ?_)
    | ((with_reducible refine (set_blanks _ _ _ _ HW.out HSZ.out).mono ?_); rintro e w1 ⟨rfl, hb1, ho1⟩; have H2 : Hid (BlkAt w1 w.heap.size l') := Lib.hid (by rw [HL'.out]; exact hb1); have HO : Hid (Below w.heap.size w w1) := Lib.hid (HBW.out.trans (ho1.below HBW.out.size (fun k hk => Nat.le_of_eq hk.symm))); clear hb1 ho1)
    | (refine wpList_load_row rfl 40 _ rfl w.heap.size rfl 40 (bl l').toArray (0, 0) _ H2.out.row Tryd.underlying40 rfl HI2.out ?_))
  go_loop [4, 16] (fun s i => SumLoop l' s i) (fun _ i => 512 - (intOf i).toNat)
  case atStart => exact ⟨0, by omega, rfl, by simp [sumB]⟩
  case round =>
    obtain ⟨k, hk, rfl, rfl⟩ := hrel
    by_cases hlt : k < 512
    · have hltI : (k : Int) < 512 := by omega
      have hix := HIX.out k hlt
      have HSN := Lib.hid (sumB_take l' k (by rw [HLEN.out]; exact hlt))
      have hle : sumB (l'.take k) ≤ 130560 := by have := sumB_le (l'.take k); have h2 : (l'.take k).length ≤ k := List.length_take_le _ _; omega
      generalize l'.getD k 0 = a at *
      obtain ⟨q, hq⟩ : ∃ q, sumB (l'.take k) = q := ⟨_, rfl⟩
      rw [hq] at hle HSN ⊢
      clear hq
      have hle2 : (q : Int) ≤ 130560 := by omega
      have ha := bi_lt a
      go_wp2_with fail
      refine ⟨⟨k + 1, by omega, by go_num, ?_⟩, by simp [intOf]; omega⟩
      rw [HSN.out]
      show Value.int .i64 ((q : Int) + (a.toNat : Int)) = _
      congr 1
    · obtain rfl : k = 512 := by omega
      have HE : Hid (sumB (l'.take 512) = sumF l) := Lib.hid (by rw [List.take_of_length_le (by rw [HLEN.out]; omega), HL'.out]; rfl)
      clear hlt
      go_wp2_with fail
      go_ret
      refine ⟨?_, HO.out⟩
      rw [HE.out]
      rfl
end Go.Proofs.YtkkelmlkpehcpaaDoor
