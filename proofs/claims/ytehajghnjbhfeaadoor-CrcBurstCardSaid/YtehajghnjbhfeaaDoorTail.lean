/-
  The contracts of crc.stepBack, crc.backFour, crc.Tail.
-/
import Derived.Test.YtehajghnjbhfeaaDoorThree
namespace Go.Proofs.YtehajghnjbhfeaaDoor
open Go.RowKit Crc Inv

theorem back1_pos (x : W) (h : x.getLsbD 31 = true) : back1 x = (x ^^^ poly) <<< (1 : Nat) ||| 1#32 := by unfold back1; rw [h]; rfl
theorem back1_neg (x : W) (h : x.getLsbD 31 = false) : back1 x = x <<< (1 : Nat) := by unfold back1; rw [h]; rfl
theorem or_one (x : W) : bits .or .u32 (iv x) 1 = iv (x ||| 1#32) := u32_or_iv x 1#32
set_option maxHeartbeats 400000 in
theorem back_iv (x : W) (w : World) :
    Calls Tryd.prog 22 #[.int .u32 (iv x)] w fun e w' => e = .returned (.int .u32 (iv (back1 x))) ∧ w = w' := by
  have ht := topbit x
  have h0 := iv_nonneg x
  have h1 := iv_lt x
  have hs := shl1 x
  have hx := xpoly x
  have hs2 := shl1 (x ^^^ poly)
  have ho := or_one ((x ^^^ poly) <<< (1 : Nat))
  have g0 := iv_nonneg (x ^^^ poly)
  have g1 := iv_lt (x ^^^ poly)
  cases hb : x.getLsbD 31 with
  | true =>
    rw [hb] at ht
    have HE := Lib.hid (back1_pos x hb)
    clear hb hs
    simp only [if_true] at ht
    go_enter Tryd.func22, Tryd.ntmps22
    go_wp2
    go_ret
    exact ⟨ret_int (by rw [HE.out]), rfl⟩
  | false =>
    rw [hb] at ht
    have HE := Lib.hid (back1_neg x hb)
    clear hb hs2 hx ho g0 g1
    simp only [Bool.false_eq_true, if_false] at ht
    go_enter Tryd.func22, Tryd.ntmps22
    go_wp2
    go_ret
    exact ⟨ret_int (by rw [HE.out, hs]), rfl⟩
set_option maxRecDepth 100000 in
set_option maxHeartbeats 400000 in
theorem backFour_walk (y : W) (w : World) :
    Calls Tryd.prog 19 #[.int .u32 (iv y)] w fun e w' => e = .returned (.int .u32 (iv (backs 32 y))) ∧ w = w' := by
  go_enter Tryd.func19, Tryd.ntmps19
  go_wp2
  go_loop [0, 3] (fun r i => ∃ k : Nat, k ≤ 32 ∧ i = .int .i64 k ∧ r = .int .u32 (iv (backs k y))) (fun _ i => 32 - (intOf i).toNat)
  case atStart => exact ⟨0, by omega, rfl, rfl⟩
  case round =>
    obtain ⟨k, hk, rfl, rfl⟩ := hrel
    have HE : Hid (backs (k + 1) y = back1 (backs k y)) := Lib.hid rfl
    by_cases hlt : k < 32
    · generalize backs k y = r at *
      have hki : (k : Int) < 32 := by omega
      go_wp2_with (go_at_call 22; refine (back_iv _ _).mono ?_; rintro e w' ⟨rfl, rfl⟩)
      exact ⟨⟨k + 1, by omega, by go_num, by rw [HE.out]⟩, by simp [intOf]; omega⟩
    · have hki : (32 : Int) ≤ (k : Int) := by omega
      obtain rfl : k = 32 := by omega
      clear HE
      generalize hB : backs 32 y = r at *
      have HB := Lib.hid hB
      clear hB
      go_wp2
      go_ret
      exact ⟨ret_int (by rw [HB.out]), rfl⟩
theorem byte_iv (x : W) (k : Nat) : iv x / 2 ^ k % 256 = bi (Crc.byteOf x k) := by
  rw [shr_iv]; unfold Crc.byteOf; rw [bi_ofNat]; unfold iv; omega
theorem byte_0 (x : W) : iv x % 256 = bi (Crc.byteOf x 0) := by rw [← byte_iv]; simp
theorem byte_8 (x : W) : iv x / (256 : Int) % 256 = bi (Crc.byteOf x 8) := byte_iv x 8
theorem byte_16 (x : W) : iv x / (65536 : Int) % 256 = bi (Crc.byteOf x 16) := byte_iv x 16
theorem byte_24 (x : W) : iv x / (16777216 : Int) % 256 = bi (Crc.byteOf x 24) := byte_iv x 24
def TailPost (s t : W) (w : World) (e : Ending) (w' : World) : Prop := e = .returned (.agg (bcells (tailL s t))) ∧ Below w.heap.size w w'
set_option maxRecDepth 100000 in
set_option maxHeartbeats 400000 in
theorem tail_walk (s t : W) (w : World) : Calls Tryd.prog 14 #[.int .u32 (iv s), .int .u32 (iv t)] w (TailPost s t w) := by
  have HE : Hid (tailL s t = [Crc.byteOf (tailW s t) 0, Crc.byteOf (tailW s t) 8, Crc.byteOf (tailW s t) 16, Crc.byteOf (tailW s t) 24]) := Lib.hid rfl
  have HW : Hid (tailW s t = ~~~s ^^^ backs 32 (~~~t)) := Lib.hid rfl
  go_enter Tryd.func14, Tryd.ntmps14
  go_wp2_with fail
  refine (backFour_walk _ _).mono ?_
  rintro e w' ⟨rfl, rfl⟩
  have hx := u32_xor_iv (~~~s) (backs 32 (~~~t))
  rw [← HW.out] at hx
  generalize backs 32 (~~~t) = B at *
  have b0 := byte_0 (tailW s t)
  have b1 := byte_8 (tailW s t)
  have b2 := byte_16 (tailW s t)
  have b3 := byte_24 (tailW s t)
  generalize Crc.byteOf (tailW s t) 0 = c0 at *
  generalize Crc.byteOf (tailW s t) 8 = c1 at *
  generalize Crc.byteOf (tailW s t) 16 = c2 at *
  generalize Crc.byteOf (tailW s t) 24 = c3 at *
  have g0 := iv_nonneg (tailW s t)
  have g1 := iv_lt (tailW s t)
  replace b3 : iv (tailW s t) / 16777216 = bi c3 := by omega
  generalize tailW s t = T at *
  clear HW
  go_wp2_with fail
  refine bodyPost_ret (v := .agg #[.int .u8 (bi c0), .int .u8 (bi c1), .int .u8 (bi c2), .int .u8 (bi c3)]) (by simp [results, Tryd.results14, go_sem]) rfl ⟨?_, (Below.refl _ _).alloc (Nat.le_refl _) _⟩
  rw [HE.out]
  rfl
/-- Two rows of bytes compared. -/
theorem part5 (l : List UInt8) (i : Nat) (hi : i < l.length) (w : World) : (part 5 (bcells l) (i * 1)).run Tryd.prog w = .ok (.int .u8 (bi (l.getD i 0))) w := by
  have h5 : (isAgg 5).run Tryd.prog w = .ok false w := by kernel_rfl
  simp only [part, Sem.run_bind, h5, Result.andThen_ok, Nat.mul_one, bcells_at l i hi]
  rfl
theorem bi_beq (a b : UInt8) : (bi a == bi b) = (a == b) := by
  by_cases h : a = b
  · subst h; simp
  · have : bi a ≠ bi b := fun e => h (bi_inj e)
    rw [beq_eq_false_iff_ne.2 this, beq_eq_false_iff_ne.2 h]
theorem items5 (a b : List UInt8) (w : World) : ∀ (is : List Nat), (∀ i ∈ is, i < a.length ∧ i < b.length) → (Op.eqItems 9999 5 1 (bcells a) (bcells b) is).run Tryd.prog w = .ok (is.all fun i => a.getD i 0 == b.getD i 0) w
  | [], _ => rfl
  | i :: is, h => by
    obtain ⟨hi, hj⟩ := h i (by simp)
    have e : (Op.equalIn 9999 5 (.int .u8 (bi (a.getD i 0))) (.int .u8 (bi (b.getD i 0)))).run Tryd.prog w = .ok (a.getD i 0 == b.getD i 0) w := by
      rw [run_equalIn_int w 9998 5 .u8 .u8 _ _ Tryd.underlying5, bi_beq]
    have ih := items5 a b w is (fun j hj => h j (by simp [hj]))
    simp only [Op.eqItems, Sem.run_bind, part5 a i hi w, part5 b i hj w, e, Result.andThen_ok, List.all_cons]
    cases a.getD i 0 == b.getD i 0 with
    | true => simpa using ih
    | false => rfl
theorem beq_of_items (a b : List UInt8) (n : Nat) (ha : a.length = n) (hb : b.length = n) : ((List.range n).all fun i => a.getD i 0 == b.getD i 0) = (a == b) := by
  rw [Bool.eq_iff_iff, List.all_eq_true, beq_iff_eq]
  constructor
  · intro h
    apply List.ext_getElem (by omega)
    intro i h1 h2
    have := h i (List.mem_range.2 (by omega))
    simpa [h1, h2] using this
  · rintro rfl i _; simp
theorem same37 (a b : List UInt8) (ha : a.length = 4) (hb : b.length = 4) (w : World) : (Op.equalIn 10000 37 (.agg (bcells a)) (.agg (bcells b))).run Tryd.prog w = .ok (a == b) w := by
  obtain ⟨i0, hi, hz0, hz1, hz2⟩ := info_parts info5
  rw [run_equalIn_array w 9999 _ _ Tryd.underlying37 hi]
  have e : Tryd.prog.cellsOf 5 = 1 := by kernel_rfl
  rw [e, items5 a b w _ (fun i hi => by have := List.mem_range.1 hi; omega), beq_of_items a b 4 ha hb]
theorem run_eql37 {o : Oper} {a : Act} {w : World} (x y : Operand) (ho : o.op = .binOp .eql 37 x y 37) (p q : List UInt8) (hp : p.length = 4) (hq : q.length = 4) (hx : a.eval x = .agg (bcells p)) (hy : a.eval y = .agg (bcells q)) : (execOp a.eval o).run Tryd.prog w = .ok (.value (.bool (p == q))) w := by
  have hgd : Tryd.prog.eqGuardType Tryd.prog.depth 37 = false := by kernel_rfl
  have hs := same37 p q hp hq
  unfold execOp; rw [ho]; simp only [hx, hy]
  go_simp
theorem size37 : (Tryd.prog.info? 37).map (·.size) = some 4 := by kernel_rfl
theorem run_load37 {o : Oper} {a : Act} {w : World} (x : Operand) (ho : o.op = .load 37 x) (g : Nat) (t : TypeId) (l : List UInt8) (hl : l.length = 4) (hx : a.eval x = .pointer (some ⟨g, 0, none⟩)) (hr : RowT t w g l) : (execOp a.eval o).run Tryd.prog w = .ok (.value (.agg (bcells l))) w := by
  unfold execOp; rw [ho]
  simp only [hx, Instr.loadAt, Instr.sureAddr, Sem.run_bind, Sem.run_pure, Result.andThen_ok, run_loadVar_row w g t 37 (bcells l) (0, 0) _ hr Tryd.underlying37 rfl (by rw [bcells_size, hl]; exact size37)]
theorem run_slice37 {o : Oper} {a : Act} {w : World} (x : Operand) (ho : o.op = .slice 37 x none none none) (g : Nat) (hx : a.eval x = .pointer (some ⟨g, 0, none⟩)) : (execOp a.eval o).run Tryd.prog w = .ok (.value (.slice (some ⟨g, 0, none⟩) 4 4)) w := by
  unfold execOp; rw [ho]; simp only [hx, Option.map_none]; kernel_rfl
end Go.Proofs.YtehajghnjbhfeaaDoor
