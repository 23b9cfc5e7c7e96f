/-
  Laws: copy into the rest of a State; what a State holds of a message, in plain lists.
-/
import Derived.Test.YtdkajbhhmgmohaaDoorEach
namespace Go.Proofs.YtdkajbhhmgmohaaDoor
open Go.RowKit Sha

def stHead (mk : Bool) (s : St) : List Value := [.bool mk, .int .u32 (iv s.a), .int .u32 (iv s.b), .int .u32 (iv s.c), .int .u32 (iv s.d), .int .u32 (iv s.e), .int .u32 (iv s.f), .int .u32 (iv s.g), .int .u32 (iv s.h)]
def bl (l : List UInt8) : List Value := l.map fun x => Value.int .u8 (bi x)
theorem stc_list (mk : Bool) (s : St) (rest : List UInt8) (n : Nat) : (stc mk s rest n).toList = stHead mk s ++ (bl rest ++ [Value.int .u64 n]) := by
  simp [stc, stHead, bl, bcells]
theorem stc_of_list (mk : Bool) (s : St) (rest : List UInt8) (n : Nat) : stc mk s rest n = (stHead mk s ++ (bl rest ++ [Value.int .u64 n])).toArray := by
  rw [← stc_list]
theorem splice_mid (A B C X : List Value) (off m : Nat) (hm : X.length = m) (hoff : off + m ≤ B.length) :
    (A ++ (B ++ C)).take (A.length + off) ++ X ++ (A ++ (B ++ C)).drop (A.length + off + m) = A ++ ((B.take off ++ X ++ B.drop (off + m)) ++ C) := by
  rw [List.take_append, List.take_of_length_le (show A.length ≤ A.length + off by omega), Nat.add_sub_cancel_left, List.take_append_of_le_length (show off ≤ B.length by omega)]
  rw [Nat.add_assoc, List.drop_append, List.drop_eq_nil_of_le (show A.length ≤ A.length + (off + m) by omega), Nat.add_sub_cancel_left, List.drop_append_of_le_length hoff]
  simp
theorem stc_splice (mk : Bool) (s : St) (rest xs : List UInt8) (n off m : Nat) (hm : xs.length = m) (hoff : off + m ≤ rest.length) :
    ((stc mk s rest n).toList.take (9 + off) ++ bl xs ++ (stc mk s rest n).toList.drop (9 + off + m)).toArray = stc mk s (rest.take off ++ xs ++ rest.drop (off + m)) n := by
  rw [stc_list, stc_of_list]
  have := splice_mid (stHead mk s) (bl rest) [Value.int .u64 n] (bl xs) off m (by simp [bl, hm]) (by simpa [bl] using hoff)
  rw [show (stHead mk s).length = 9 from rfl] at this
  rw [this]
  simp [bl, List.map_take, List.map_drop]
theorem bl_one (l : List UInt8) : ∀ v ∈ bl l, v.oneCell' = true := by
  intro v hv; simp [bl] at hv; obtain ⟨x, _, rfl⟩ := hv; rfl
theorem bl_src {w : World} {g o : Nat} {bs : List UInt8} (h : BytesAt w g o bs) : ∀ j v, (bl bs)[j]? = some v → w.cell? ((⟨g, o, none⟩ : Addr).add j) = some v := by
  intro j v hj
  have hlt : j < bs.length := by
    have := (List.getElem?_eq_some_iff.1 hj).1; simpa [bl] using this
  have := h j hlt
  have hadd : (⟨g, o, none⟩ : Addr).add j = ⟨g, o + j, none⟩ := by unfold Addr.add; split <;> simp_all
  rw [hadd, this, ← hj]
  simp [bl, hlt]

theorem size5 : (Tryd.prog.info? 5).map (·.size) = some 1 := by kernel_rfl
theorem Only.setRow (g : Nat) (w : World) (cs : Array Value) : Only g w (w.setRow g cs) :=
  ⟨rfl, rfl, rfl, by simp, fun k _ hne => setRow_other w g k cs hne⟩

/-- copy into a State's rest. -/
theorem run_copy_rest (w : World) (ty gs off dLen dCap T : Nat) (mk : Bool) (s : St) (rest : List UInt8) (n : Nat) (v : Value) (bs : List UInt8) (hv : SlB gs w v bs)
    (hS : w.heap[gs]? = some (.cells (stc mk s rest n) T (0, 0))) (hr : off + dLen = rest.length) :
    ∃ w1, (Builtin.copy_ #[22, 22] ty #[.slice (some ⟨gs, 9 + off, none⟩) dLen dCap, v]).run Tryd.prog w = .ok (goInt ((min bs.length dLen : Nat) : Int)) w1 ∧ Only gs w w1 ∧
      w1.heap[gs]? = some (.cells (stc mk s (rest.take off ++ bs.take (min bs.length dLen) ++ rest.drop (off + min bs.length dLen)) n) T (0, 0)) := by
  by_cases h0 : min bs.length dLen = 0
  · rcases hv with ⟨g, o, cap, rfl, h2, h3, h4⟩ | ⟨p, rfl, rfl⟩
    · refine ⟨w, ?_, Only.refl _ _, ?_⟩
      · rw [h0]; exact run_copy_none (P := Tryd.prog) w 22 22 ty 5 _ _ dLen dCap _ cap Tryd.underlying22 size5 h0
      · rw [h0]; simpa using hS
    · refine ⟨w, ?_, Only.refl _ _, ?_⟩
      · rw [h0]; exact run_copy_none (P := Tryd.prog) w 22 22 ty 5 _ _ dLen dCap 0 0 Tryd.underlying22 size5 (by simp)
      · rw [h0]; simpa using hS
  · rcases hv with ⟨g, o, cap, rfl, h2, h3, h4⟩ | ⟨p, rfl, rfl⟩
    · generalize hm : min bs.length dLen = m at *
      have hlen : (bs.take m).length = m := by simp; omega
      have := run_copy_row (P := Tryd.prog) w 22 22 ty 5 gs (9 + off) dLen dCap ⟨g, o, none⟩ bs.length cap (stc mk s rest n) T (bl (bs.take m)) Tryd.underlying22 size5 hS ((show (bl (bs.take m)).length = m by simpa [bl] using hlen).trans hm.symm)
        (bl_src (h4.take m)) (by rw [stc_size]; simp [bl]; omega) (bl_one _)
      have e : (bl (bs.take m)).length = m := by simpa [bl] using hlen
      rw [e, stc_splice mk s rest (bs.take m) n off m hlen (by omega)] at this
      exact ⟨_, this, Only.setRow gs w _, setRow_heap _ _ _ _ _ _ hS⟩
    · simp at h0

/-- The law, at the list of a plain region's operations. -/
theorem wpList_copy_rest {w : World} {ops : Array Oper} {rest' : List Oper} {o : Oper} {a : Act} {Q : Exit → Act → World → Prop} (hgd : o.guard = none) (d x : Operand)
    (ho : o.op = .call { callee := .builtin .copy, args := #[d, x], argTypes := #[22, 22] })
    (gs off dLen dCap T : Nat) (mk : Bool) (s : St) (rest : List UInt8) (n : Nat) (v : Value) (bs : List UInt8) (hd : a.eval d = .slice (some ⟨gs, 9 + off, none⟩) dLen dCap) (hx : a.eval x = v)
    (hv : SlB gs w v bs) (hS : w.heap[gs]? = some (.cells (stc mk s rest n) T (0, 0))) (hr : off + dLen = rest.length) (c : Nat) (hc : min bs.length dLen = c)
    (h : ∀ w1, Only gs w w1 → Hid (w1.heap[gs]? = some (.cells (stc mk s (rest.take off ++ bs.take c ++ rest.drop (off + c)) n) T (0, 0))) →
      wpList Tryd.prog ops Q rest' (a.put o.dst (goInt (c : Int))) w1) : wpList Tryd.prog ops Q (o :: rest') a w := by
  subst hc
  refine wpList_plain hgd fun K hK => ?_
  obtain ⟨w1, hrun, ho1, hr1⟩ := run_copy_rest w o.type gs off dLen dCap T mk s rest n v bs hv hS hr
  unfold Oper.wp
  simp only [execOp, ho, resolve, invoke, builtin, hd, hx, hrun, Result.andThen, List.map_toArray, List.map_cons, List.map_nil, Sem.run_bind, Sem.run_pure]
  exact hK _ _ (h w1 ho1 (Lib.hid hr1))
/-- The same, as one step of a region that draws its order. -/
theorem step_copy_rest {w : World} {ops : Array Oper} {o : Oper} {a : Act} {K : Act → World → Prop} {Q : Exit → Act → World → Prop} {E : Prop} (hgd : o.guard = none) (d x : Operand)
    (ho : o.op = .call { callee := .builtin .copy, args := #[d, x], argTypes := #[22, 22] })
    (gs off dLen dCap T : Nat) (mk : Bool) (s : St) (rest : List UInt8) (n : Nat) (v : Value) (bs : List UInt8) (hd : a.eval d = .slice (some ⟨gs, 9 + off, none⟩) dLen dCap) (hx : a.eval x = v)
    (hv : SlB gs w v bs) (hS : w.heap[gs]? = some (.cells (stc mk s rest n) T (0, 0))) (hr : off + dLen = rest.length) (c : Nat) (hc : min bs.length dLen = c)
    (h : ∀ w1, Only gs w w1 → Hid (w1.heap[gs]? = some (.cells (stc mk s (rest.take off ++ bs.take c ++ rest.drop (off + c)) n) T (0, 0))) →
      K (a.put o.dst (goInt (c : Int))) w1) : if Region.wanted o (yielded ops a.tmps) = true then Oper.wp Tryd.prog o a w K Q else E := by
  subst hc
  have hw : Region.wanted o (yielded ops a.tmps) = true := by simp [Region.wanted, hgd]
  rw [if_pos hw]
  obtain ⟨w1, hrun, ho1, hr1⟩ := run_copy_rest w o.type gs off dLen dCap T mk s rest n v bs hv hS hr
  unfold Oper.wp
  simp only [execOp, ho, resolve, invoke, builtin, hd, hx, hrun, Result.andThen, List.map_toArray, List.map_cons, List.map_nil, Sem.run_bind, Sem.run_pure]
  exact h w1 ho1 (Lib.hid hr1)

theorem stc_setc (mk : Bool) (s : St) (rest : List UInt8) (n m : Nat) (hr : rest.length = 64) : (stc mk s rest n).setIfInBounds 73 (.int .u64 (m : Int)) = stc mk s rest m := by
  unfold stc
  rw [Array.setIfInBounds_append_right (by simp [bcells_size, hr])]
  simp [bcells_size, hr]

/-! The plain side. -/
theorem blocksTo_append (s : St) (A B : List UInt8) (k : Nat) (hk : 64 * k ≤ A.length) : blocksTo s (A ++ B) k = blocksTo s A k := by
  induction k with
  | zero => rfl
  | succ k ih =>
    simp only [blocksTo]
    rw [ih (by omega), List.drop_append_of_le_length (by omega), List.take_append_of_le_length (by simp; omega)]
theorem blocksTo_add (s : St) (A B : List UInt8) (a k : Nat) (hA : A.length = 64 * a) : blocksTo s (A ++ B) (a + k) = blocksTo (blocksTo s A a) B k := by
  induction k with
  | zero => simp only [blocksTo, Nat.add_zero]; exact blocksTo_append s A B a (by omega)
  | succ k ih =>
    rw [← Nat.add_assoc]
    simp only [blocksTo]
    rw [ih, List.drop_append, List.drop_eq_nil_of_le (by omega), show 64 * (a + k) - A.length = 64 * k by omega]
    simp

/-- A State's hash and rest are those of a message. -/
structure MsgSt (msg : List UInt8) (s : St) (rest : List UInt8) : Prop where
  len : rest.length = 64
  hash : s = blocksTo h0 msg (msg.length / 64)
  rest : rest.take (msg.length % 64) = msg.drop (64 * (msg.length / 64))
theorem fin_aligned (M bs rest : List UInt8) (q : Nat) (hM : M.length = 64 * q) (hr : rest.length = 64) :
    MsgSt (M ++ bs) (blocksTo (blocksTo h0 M q) bs (bs.length / 64)) (rest.take 0 ++ (bs.drop (64 * (bs.length / 64))).take (min (bs.drop (64 * (bs.length / 64))).length 64) ++ rest.drop (0 + min (bs.drop (64 * (bs.length / 64))).length 64)) := by
  have hd : (M ++ bs).length / 64 = q + bs.length / 64 := by simp [hM]; omega
  have hm : (M ++ bs).length % 64 = bs.length % 64 := by simp [hM]
  have hl : (bs.drop (64 * (bs.length / 64))).length = bs.length % 64 := by simp; omega
  have hdr : (M ++ bs).drop (64 * (q + bs.length / 64)) = bs.drop (64 * (bs.length / 64)) := by
    rw [List.drop_append, List.drop_eq_nil_of_le (by omega), show 64 * (q + bs.length / 64) - M.length = 64 * (bs.length / 64) by omega]; simp
  refine ⟨?_, ?_, ?_⟩
  · simp [hr] <;> omega
  · rw [hd, blocksTo_add _ _ _ _ _ hM]
  · rw [hm, hd, hdr]
    generalize bs.drop (64 * (bs.length / 64)) = r at *
    rw [hl, Nat.min_eq_left (by omega)]
    simp only [List.take_zero, List.nil_append]
    rw [List.take_of_length_le (show r.length ≤ bs.length % 64 by omega), List.take_append_of_le_length (by omega), List.take_of_length_le (by omega)]
theorem fin_short {msg : List UInt8} {s : St} {rest : List UInt8} (h : MsgSt msg s rest) (bs : List UInt8) (hm : msg.length % 64 + min bs.length (64 - msg.length % 64) < 64) :
    MsgSt (msg ++ bs) s (rest.take (msg.length % 64) ++ bs.take (min bs.length (64 - msg.length % 64)) ++ rest.drop (msg.length % 64 + min bs.length (64 - msg.length % 64))) := by
  have hmin : min bs.length (64 - msg.length % 64) = bs.length := by omega
  have hd : (msg ++ bs).length / 64 = msg.length / 64 := by simp; omega
  have hmod : (msg ++ bs).length % 64 = msg.length % 64 + bs.length := by simp; omega
  have hl := h.len
  refine ⟨?_, ?_, ?_⟩
  · rw [hmin]; simp [hl]; omega
  · rw [hd, blocksTo_append _ _ _ _ (by omega)]; exact h.hash
  · rw [hmin, hmod, hd, h.rest, List.take_of_length_le (Nat.le_refl bs.length), List.drop_append_of_le_length (by omega), List.append_assoc]
    have e : (msg.drop (64 * (msg.length / 64))).length = msg.length % 64 := by simp; omega
    rw [List.take_append, e, List.take_of_length_le (by omega), show msg.length % 64 + bs.length - msg.length % 64 = bs.length by omega, List.take_left]
theorem fin_full {msg : List UInt8} {s : St} {rest : List UInt8} (h : MsgSt msg s rest) (bs : List UInt8) (hm : ¬ msg.length % 64 + min bs.length (64 - msg.length % 64) < 64) :
    min bs.length (64 - msg.length % 64) = 64 - msg.length % 64 ∧ (msg ++ bs.take (64 - msg.length % 64)).length = 64 * (msg.length / 64 + 1) ∧
    rest.take (msg.length % 64) ++ bs.take (64 - msg.length % 64) ++ rest.drop (msg.length % 64 + (64 - msg.length % 64)) = msg.drop (64 * (msg.length / 64)) ++ bs.take (64 - msg.length % 64) ∧
    compress s (msg.drop (64 * (msg.length / 64)) ++ bs.take (64 - msg.length % 64)) = blocksTo h0 (msg ++ bs.take (64 - msg.length % 64)) (msg.length / 64 + 1) ∧
    (msg.drop (64 * (msg.length / 64)) ++ bs.take (64 - msg.length % 64)).length = 64 := by
  have h1 : min bs.length (64 - msg.length % 64) = 64 - msg.length % 64 := by omega
  have e : (msg.drop (64 * (msg.length / 64))).length = msg.length % 64 := by simp; omega
  have e2 : (bs.take (64 - msg.length % 64)).length = 64 - msg.length % 64 := by simp; omega
  have hl := h.len
  refine ⟨h1, by rw [List.length_append, e2]; omega, ?_, ?_, by rw [List.length_append, e, e2]; omega⟩
  · rw [h.rest, show rest.drop (msg.length % 64 + (64 - msg.length % 64)) = [] from List.drop_eq_nil_of_le (by omega), List.append_nil]
  · simp only [blocksTo]
    rw [blocksTo_append _ _ _ _ (by omega), ← h.hash, List.drop_append_of_le_length (by omega), show (msg.drop (64 * (msg.length / 64)) ++ bs.take (64 - msg.length % 64)).take 64 = msg.drop (64 * (msg.length / 64)) ++ bs.take (64 - msg.length % 64) from List.take_of_length_le (by rw [List.length_append, e, e2]; omega)]
end Go.Proofs.YtdkajbhhmgmohaaDoor
