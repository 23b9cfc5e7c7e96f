/-
  Small contracts of the document's own answer (portolanref01): turned, constants; its words and ours are one.
-/
import Derived.Test.YtdkajbhhmgmohaaDoorWakes
namespace Go.Proofs.YtdkajbhhmgmohaaDoor
open Go.RowKit Sha

theorem ch_eq (x y z : W) : (x &&& y) ||| (~~~x &&& z) = (x &&& y) ^^^ (~~~x &&& z) := by
  ext i hi
  simp only [BitVec.getElem_or, BitVec.getElem_and, BitVec.getElem_not, BitVec.getElem_xor]
  cases x[i] <;> cases y[i] <;> cases z[i] <;> rfl
theorem maj_eq (x y z : W) : (x &&& y) ||| (x &&& z) ||| (y &&& z) = (x &&& y) ^^^ (x &&& z) ^^^ (y &&& z) := by
  ext i hi
  simp only [BitVec.getElem_or, BitVec.getElem_and, BitVec.getElem_xor]
  cases x[i] <;> cases y[i] <;> cases z[i] <;> rfl
theorem iv_word4 (a b c d : UInt8) : iv (word4 a b c d) = bi a * 16777216 + bi b * 65536 + bi c * 256 + bi d := by
  unfold iv word4 bi
  have ha := a.toNat_lt
  have hb := b.toNat_lt
  have hc := c.toNat_lt
  have hd := d.toNat_lt
  rw [BitVec.toNat_or, BitVec.toNat_or, BitVec.toNat_or]
  simp only [BitVec.toNat_shiftLeft, BitVec.toNat_ofNat, Nat.shiftLeft_eq]
  rw [show a.toNat % 2 ^ 32 * 2 ^ 24 % 2 ^ 32 = a.toNat * 16777216 by omega, show b.toNat % 2 ^ 32 * 2 ^ 16 % 2 ^ 32 = b.toNat * 65536 by omega, show c.toNat % 2 ^ 32 * 2 ^ 8 % 2 ^ 32 = c.toNat * 256 by omega, show d.toNat % 2 ^ 32 = d.toNat by omega]
  rw [nat_join 24 (a.toNat * 16777216) (b.toNat * 65536) (by omega) (by omega), nat_join 16 (a.toNat * 16777216 + b.toNat * 65536) (c.toNat * 256) (by omega) (by omega), nat_join 8 (a.toNat * 16777216 + b.toNat * 65536 + c.toNat * 256) d.toNat (by omega) (by omega)]
  omega
set_option maxHeartbeats 400000 in
theorem rturned_int (x : Int) (k : Nat) (w : World) (_h0 : 0 ≤ x) (_h1 : x < 4294967296) (hk : 1 ≤ k) (hk' : k ≤ 31) :
    Calls Tryd.prog 50 #[.int .u32 x, .int .i64 k] w fun e w' => e = .returned (.int .u32 (bits .or .u32 (x / 2 ^ k) (x * 2 ^ (32 - k) % 4294967296))) ∧ ∃ n, w' = w.drewN n := by
  go_enter Tryd.func50, Tryd.ntmps50
  go_wp2
  go_quiet (fail)
  go_wp2
  go_ret
  exact ⟨rfl, _, rfl⟩
theorem rturned (X : W) (k : Int) (w : World) (hk : 1 ≤ k) (hk' : k ≤ 31) :
    Calls Tryd.prog 50 #[.int .u32 (iv X), .int .i64 k] w fun e w' => e = .returned (.int .u32 (iv (rotr X k.toNat))) ∧ ∃ n, w' = w.drewN n := by
  obtain ⟨n, rfl⟩ := Int.eq_ofNat_of_zero_le (show 0 ≤ k by omega)
  have h := rturned_int (iv X) n w (iv_nonneg X) (iv_lt X) (by omega) (by omega)
  rw [rotr_iv] at h
  exact h
theorem wpList_buildX {w : World} {ops : Array Oper} {rest : List Oper} {o : Oper} {a : Act} {Q : Exit → Act → World → Prop} (hg : o.guard = none) (t : TypeId) (parts : Array (Nat × Operand)) (ho : o.op = .build t parts)
    (cs : Array Value) (hf : Tryd.prog.built t (parts.map fun (i, x) => (i, a.eval x)).toList = some cs)
    (h : wpList Tryd.prog ops Q rest (a.put o.dst (.agg cs)) w) : wpList Tryd.prog ops Q (o :: rest) a w :=
  wpList_build hg t parts ho (by rw [hf]; rfl) (by rw [hf]; exact h)
theorem kl_length : kl.length = 64 := rfl
theorem size59 : (Tryd.prog.info? 59).map (·.size) = some 64 := by kernel_rfl
theorem i59 (l : List W) (h : l.length = 64) : (Tryd.prog.info? 59).map (·.size) = some (wcells l).size := by rw [wcells_size, h]; exact size59
set_option maxRecDepth 100000 in
set_option maxHeartbeats 400000 in
theorem constants_walk (w : World) : Calls Tryd.prog 29 #[] w fun e w' => e = .returned (.agg (wcells kl)) ∧ Below w.heap.size w w' := by
  have HI := Lib.hid (i59 kl kl_length)
  have HO : Hid ((wcells (List.replicate 64 0#32)).size = (wcells kl).size) := Lib.hid (by rw [wcells_size, wcells_size, kl_length]; rfl)
  go_enter Tryd.func29, Tryd.ntmps29
  go_wp2_with (first | (refine wpList_buildX rfl 59 _ rfl (wcells kl) (by kernel_rfl) ?_) | (refine wpList_store_rowX rfl 59 _ _ rfl w.heap.size (wcells kl) rfl rfl 59 (wcells (List.replicate 64 0#32)) (heap_alloc_new _ _) HI.out HO.out (wcells_one _) ?_; intro w3 hrow3 ho3 hs3))
  refine bodyPost_ret (v := .agg (wcells kl)) ?_ rfl ⟨rfl, ((Below.refl _ _).alloc (Nat.le_refl _) _).trans (Below.of_only ho3 (Nat.le_refl _) (by simp))⟩
  exact results_cell_row (p := 0) (ty := 59) rfl _ _ w.heap.size 59 _ (0, 0) _ rfl hrow3 Tryd.underlying59 rfl HI.out
end Go.Proofs.YtdkajbhhmgmohaaDoor
