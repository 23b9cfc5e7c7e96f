/-
  How the document's own answer pads, in plain lists; its Sum under way.
-/
import Derived.Test.YtdkajbhhmgmohaaDoorRefA
namespace Go.Proofs.YtdkajbhhmgmohaaDoor
open Go.RowKit Sha

/-! The plain side: how the document's own answer pads. -/
def tailTo (n : Nat) : Nat → List UInt8
  | 0 => List.replicate 8 0
  | j + 1 => (tailTo n j).set (7 - j) (UInt8.ofNat (n * 8 / 256 ^ j))
theorem tailTo_length (n j : Nat) : (tailTo n j).length = 8 := by
  induction j with
  | zero => rfl
  | succ j ih => simp [tailTo, ih]
theorem endTo_tail (n j : Nat) (hj : j ≤ 8) : endTo n j = [128] ++ List.replicate (wholeOf n - 9) 0 ++ tailTo n j := by
  have hw := wholeOf_bounds n
  induction j with
  | zero =>
    simp only [endTo, tailTo]
    obtain ⟨m, hm⟩ : ∃ m, wholeOf n = m + 9 := ⟨wholeOf n - 9, by omega⟩
    rw [hm, Nat.add_sub_cancel, List.append_assoc, List.replicate_append_replicate]
    rfl
  | succ j ih =>
    simp only [endTo, tailTo]
    rw [ih (by omega), List.set_append_right _ _ (by simp; omega)]
    congr 1
    rw [show wholeOf n - 1 - j - ([128] ++ List.replicate (wholeOf n - 9) 0 : List UInt8).length = 7 - j by simp; omega, Nat.pow_mul]
theorem pad_eq (bs : List UInt8) : pad bs = bs ++ [128] ++ List.replicate (wholeOf bs.length - 9) 0 ++ tailTo bs.length 8 := by
  unfold pad; rw [endTo_tail _ _ (Nat.le_refl _)]; simp
theorem whole_stop (n k : Nat) (hk : k ≤ wholeOf n - 9) (h : (n + 1 + k) % 64 = 56) : k = wholeOf n - 9 := by
  revert hk; unfold wholeOf; split <;> omega
theorem whole_go (n k : Nat) (hk : k ≤ wholeOf n - 9) (h : (n + 1 + k) % 64 ≠ 56) : k + 1 ≤ wholeOf n - 9 := by
  revert hk; unfold wholeOf; split <;> omega
theorem pad_length (bs : List UInt8) : (pad bs).length % 64 = 0 := by
  unfold pad; rw [List.length_append, endTo_length]; unfold wholeOf; split <;> omega

theorem slw_one (w : World) (x : UInt8) (t : TypeId) : SlW (w.alloc (.cells #[.int .u8 (bi x)] t)) (.slice (some ⟨w.heap.size, 0, none⟩) 1 1) [x] :=
  .inl ⟨w.heap.size, 0, 1, rfl, Nat.le_refl _, fun i hi => by
    rw [Nat.zero_add, cell_of_row _ _ _ _ _ _ (heap_alloc_new _ _)]
    match i, hi with
    | 0, _ => rfl⟩
theorem OwnB.shape {base : Nat} {w : World} {v : Value} {l : List UInt8} (h : OwnB base w v l) : ∃ p cap, v = .slice p l.length cap := by
  obtain ⟨_, ⟨h1, h2⟩ | ⟨g, cap, cur, h1, h2⟩⟩ := h
  · exact ⟨none, 0, by rw [h1, h2]⟩
  · exact ⟨_, _, h1⟩
/-- The document's Sum under way: its result's block, the bytes so far. -/
structure RS (w wr : World) (v : Value) (l : List UInt8) : Prop where
  below : Below w.heap.size w wr
  res : RowT 24 wr w.heap.size (List.replicate 32 0)
  own : OwnB (w.heap.size + 1) wr v l
theorem RS.size {w wr : World} {v : Value} {l : List UInt8} (h : RS w wr v l) : w.heap.size < wr.heap.size := h.res.lt
theorem RS.alloc {w wr : World} {v : Value} {l : List UInt8} (h : RS w wr v l) (o : Obj) : RS w (wr.alloc o) v l :=
  ⟨h.below.alloc h.below.size _, (Below.heap_alloc _ _ _ h.size).trans h.res, h.own.alloc o⟩
theorem RS.app {w wr w' : World} {v v' : Value} {l l' : List UInt8} (h : RS w wr v l) (ho : OwnB (w.heap.size + 1) w' v' l') (hg : wr.grownBy w' v.ownBlock) : RS w w' v' l' := by
  have hb : Below (w.heap.size + 1) wr w' := grown_below hg h.size (fun k hk => (h.own.lt k hk).1)
  exact ⟨h.below.trans (hb.mono (Nat.le_succ _)), h.res.below hb (Nat.lt_succ_self _), ho⟩
set_option maxRecDepth 10000 in
theorem wpStill_load_row {ops : Array Oper} {rest : List Oper} {o : Oper} {a : Act} {w : World} {Q : Act → Prop} (hgd : o.guard = none) (ty : TypeId) (x : Operand) (ho : o.op = .load ty x)
    (g : Nat) (hx : a.eval x = .pointer (some ⟨g, 0, none⟩)) (t : TypeId) (cs : Array Value) (fr : Nat × Nat) (n : Nat) (e : TypeId) (hg : w.heap[g]? = some (.cells cs t fr))
    (hu : Tryd.prog.underlying ty = some (.array n e)) (hi : (Tryd.prog.info? ty).map (·.size) = some cs.size)
    (h : wpStill Tryd.prog ops w Q rest (a.put o.dst (.agg cs))) : wpStill Tryd.prog ops w Q (o :: rest) a := by
  have hw : Region.wanted o (yielded ops a.tmps) = true := by simp [Region.wanted, hgd]
  unfold wpStill
  rw [if_pos hw]
  unfold Oper.still execOp
  simp only [ho, hx, Instr.loadAt, Instr.sureAddr, Sem.run_bind, Sem.run_pure, Result.andThen_ok, run_loadVar_row w g t ty cs fr _ hg hu rfl hi, Oper.stillUpon]
  exact ⟨trivial, h⟩
end Go.Proofs.YtdkajbhhmgmohaaDoor
