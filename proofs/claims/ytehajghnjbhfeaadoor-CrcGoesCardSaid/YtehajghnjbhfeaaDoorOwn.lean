/-
  Slices of bytes of the call's own: append, stores, and their text.
-/
import Derived.Test.YtehajghnjbhfeaaDoorThree
import Derived.Lib.AppendStr
import Derived.Laws.AppendOwnNone
namespace Go.Proofs.YtehajghnjbhfeaaDoor
open Go.RowKit Crc Inv

theorem bl_one (l : List UInt8) : ∀ v ∈ bl l, v.oneCell' = true := by
  intro v hv; simp [bl] at hv; obtain ⟨x, _, rfl⟩ := hv; rfl
theorem bl_src {w : World} {g o : Nat} {bs : List UInt8} (h : BytesAt w g o bs) : ∀ j v, (bl bs)[j]? = some v → w.cell? ((⟨g, o, none⟩ : Addr).add j) = some v := by
  intro j v hj
  have hlt : j < bs.length := by
    have := (List.getElem?_eq_some_iff.1 hj).1; simpa [bl] using this
  have := h j hlt
  have hadd : (⟨g, o, none⟩ : Addr).add j = ⟨g, o + j, none⟩ := by unfold Addr.add; split <;> simp_all
  rw [hadd, this, ← hj]
  simp [bl, hlt]
/-- A slice of bytes of the call's own. -/
def OwnB (base : Nat) (w : World) (v : Value) (l : List UInt8) : Prop := w.ownsRow base 5 1 v l.length (bl l)
theorem OwnB.nil (base : Nat) (w : World) : OwnB base w (.slice none 0 0) [] := ⟨by simp [bl], .inl ⟨rfl, rfl⟩⟩
theorem OwnB.alloc {base : Nat} {w : World} {v : Value} {l : List UInt8} (h : OwnB base w v l) (o : Obj) : OwnB base (w.alloc o) v l := World.ownsRow.alloc h o
theorem OwnB.drew {base : Nat} {w : World} {v : Value} {l : List UInt8} (h : OwnB base w v l) : OwnB base w.drew v l := World.ownsRow.drew h
theorem OwnB.toW {base : Nat} {w : World} {v : Value} {l : List UInt8} (h : OwnB base w v l) : SlW w v l := by
  obtain ⟨_, ⟨h1, h2⟩ | ⟨g, cap, cur, h1, h2, h3, h4, h5, h6, h7⟩⟩ := h
  · exact .inr ⟨none, h1, List.eq_nil_of_length_eq_zero h2⟩
  · refine .inl ⟨g, 0, cap, h1, h4, fun i hi => ?_⟩
    rw [Nat.zero_add, cell_of_row _ _ _ _ _ _ h3]
    have e : cur.toList[i]? = (bl l)[i]? := by
      rw [← h7, List.getElem?_take, if_pos (by omega)]
    rw [← Array.getElem?_toList, e]
    simp [bl, hi]
theorem OwnB.lt {base : Nat} {w : World} {v : Value} {l : List UInt8} (h : OwnB base w v l) : ∀ k, v.ownBlock = some k → base ≤ k ∧ k < w.heap.size := by
  intro k hk
  obtain ⟨_, ⟨h1, h2⟩ | ⟨g, cap, cur, h1, h2, h3, h4, h5, h6, h7⟩⟩ := h
  · rw [h1] at hk; cases hk
  · rw [h1] at hk
    simp [Value.ownBlock] at hk
    subst hk
    exact ⟨h2, (Array.getElem?_eq_some_iff.1 h3).1⟩
theorem OwnB.below {base B : Nat} {w w' : World} {v : Value} {l : List UInt8} (h : OwnB base w v l) (hb : Below B w w') (hB : ∀ k, v.ownBlock = some k → k < B) : OwnB base w' v l := by
  obtain ⟨h0, ⟨h1, h2⟩ | ⟨g, cap, cur, h1, h2, h3, h4⟩⟩ := h
  · exact ⟨h0, .inl ⟨h1, h2⟩⟩
  · exact ⟨h0, .inr ⟨g, cap, cur, h1, h2, (hb.block g (hB g (by rw [h1]; rfl))).trans h3, h4⟩⟩
/-- Where it stands, if it has bytes. -/
theorem OwnB.spot {base : Nat} {w : World} {v : Value} {l : List UInt8} (h : OwnB base w v l) (h0 : 0 < l.length) : ∃ g cap, v = .slice (some ⟨g, 0, none⟩) l.length cap ∧ base ≤ g ∧ g < w.heap.size ∧ l.length ≤ cap ∧ cap ≤ maxLen ∧
    (∀ i, i < l.length → w.cell? ⟨g, i, none⟩ = some (.int .u8 (bi (l.getD i 0)))) ∧ (∀ i, w.frozen? ⟨g, i, none⟩ = false) ∧ ∀ i x, i < l.length → OwnB base (w.setCell ⟨g, i, none⟩ (.int .u8 (bi x))) v (l.set i x) := by
  have hW := h.toW
  obtain ⟨e0, ⟨h1, h2⟩ | ⟨g, cap, cur, rfl, h2, h3, h4, h5, h6, h7⟩⟩ := h
  · omega
  · refine ⟨g, cap, rfl, h2, (Array.getElem?_eq_some_iff.1 h3).1, h4, h5, fun i hi => ?_, fun i => frozen_of_row _ _ _ _ _ h3, fun i x hi => ?_⟩
    · obtain ⟨g', o', cap', he, _, hB⟩ | ⟨p', he, hb0⟩ := hW
      · cases he
        have := hB i hi
        rwa [Nat.zero_add] at this
      · rw [hb0] at hi; simp at hi
    · refine ⟨by simp [bl], .inr ⟨g, cap, cur.setIfInBounds i (.int .u8 (bi x)), by simp, h2, heap_setCell_same _ _ _ _ _ _ h3, by simpa using h4, h5, by simpa using h6, ?_⟩⟩
      rw [Array.toList_setIfInBounds, List.length_set, List.take_set, h7]
      simp [bl, List.map_set]
theorem bl_append (a b : List UInt8) : bl (a ++ b) = bl a ++ bl b := by simp [bl]
theorem run_appB {base : Nat} {w : World} {v src : Value} {l ys : List UInt8} (ty : TypeId) (hown : OwnB base w v l) (hsrc : SlW w src ys) (hbase : base ≤ w.heap.size) (hsz : l.length + ys.length ≤ 1099511627776) :
    ∃ v' w', (Builtin.append_ #[27, 27] ty #[v, src]).run Tryd.prog w = .ok v' w' ∧ OwnB base w' v' (l ++ ys) ∧ w.grownBy w' v.ownBlock := by
  obtain ⟨i0, hi, hz0, hz1, hz2⟩ := info_parts info5
  rcases hsrc with ⟨g, o, cap, rfl, h2, h3⟩ | ⟨p, rfl, rfl⟩
  · obtain ⟨v', w', h, ho, hg, _⟩ := run_append_own (P := Tryd.prog) w base 27 ty 5 i0 (.int .u8 0) 1 1 Tryd.underlying27 hi hz0 hz1 hz2 rfl (by decide) v l.length (bl l) hown ⟨g, o, none⟩ ys.length cap (bl ys) (by simp [bl]) (bl_src h3) (bl_one ys) (by unfold maxLen; omega) (by omega) hbase
    refine ⟨v', w', h, ?_, hg⟩
    unfold OwnB
    rw [List.length_append, bl_append]; exact ho
  · cases p with
    | some a =>
      obtain ⟨v', w', h, ho, hg, _⟩ := run_append_own (P := Tryd.prog) w base 27 ty 5 i0 (.int .u8 0) 1 1 Tryd.underlying27 hi hz0 hz1 hz2 rfl (by decide) v l.length (bl l) hown a 0 0 [] rfl (fun j y hy => by simp at hy) (fun y hy => by cases hy) (by unfold maxLen; simp at hsz; omega) (by simp at hsz; omega) hbase
      refine ⟨v', w', h, ?_, hg⟩
      unfold OwnB
      rw [List.append_nil]
      simpa using ho
    | none => exact ⟨v, w, run_append_owned_none (P := Tryd.prog) (w := w) base 27 ty 5 i0 1 Tryd.underlying27 hi v l.length (bl l) hown, by simpa using hown, ⟨rfl, rfl, rfl, Nat.le_refl _, fun _ _ _ => rfl⟩⟩
theorem wpList_appB {w : World} {ops : Array Oper} {rest : List Oper} {o : Oper} {a : Act} {Q : Exit → Act → World → Prop} (hgd : o.guard = none) (d x : Operand)
    (ho : o.op = .call { callee := .builtin .append, args := #[d, x], argTypes := #[27, 27] }) (base : Nat) (v src : Value) (l ys : List UInt8) (hd : a.eval d = v) (hx : a.eval x = src)
    (hown : OwnB base w v l) (hsrc : SlW w src ys) (hbase : base ≤ w.heap.size) (hsz : l.length + ys.length ≤ 1099511627776)
    (h : ∀ v' w', OwnB base w' v' (l ++ ys) → w.grownBy w' v.ownBlock → wpList Tryd.prog ops Q rest (a.put o.dst v') w') : wpList Tryd.prog ops Q (o :: rest) a w := by
  refine wpList_plain hgd fun K hK => ?_
  obtain ⟨v', w', hrun, h1, h2⟩ := run_appB o.type hown hsrc hbase hsz
  unfold Oper.wp
  simp only [execOp, ho, resolve, invoke, builtin, hd, hx, hrun, Result.andThen, List.map_toArray, List.map_cons, List.map_nil, Sem.run_bind, Sem.run_pure]
  exact hK _ _ (h v' w' h1 h2)
theorem run_toString {w : World} {v : Value} {l : List UInt8} (h : SlW w v l) : (convert 27 9 v).run Tryd.prog w = .ok (.string ⟨l.toArray⟩) w := by
  rcases h with ⟨g, o, cap, rfl, h2, h3⟩ | ⟨p, rfl, rfl⟩
  · have hl := run_loadCells_list (P := Tryd.prog) w ⟨g, o, none⟩ (bl l) (bl_src h3)
    have e : bl l = (l.map bi).map (Value.int .u8) := by simp [bl]
    rw [show (bl l).length = l.length by simp [bl], e] at hl
    rw [run_convert_bytes_string w 27 9 5 _ _ _ Tryd.underlying27 Tryd.underlying5 Tryd.underlying9, run_bytesToString w _ _ _ _ hl]
    congr 2
    have key : ∀ (l : List UInt8) (s : ByteArray), (l.map bi).foldl (fun r n => r.push (UInt8.ofNat n.toNat)) s = ⟨(s.data.toList ++ l).toArray⟩ := by
      intro l
      induction l with
      | nil => intro s; simp
      | cons x t ih =>
        intro s
        simp only [List.map_cons, List.foldl_cons]
        rw [ih]
        congr 1
        have : UInt8.ofNat (bi x).toNat = x := by simp [bi]
        rw [this]
        simp [ByteArray.push]
    rw [key]
    simp
  · cases p with
    | none => kernel_rfl
    | some a => kernel_rfl
theorem grown_below {B : Nat} {w w' : World} {v : Value} (hg : w.grownBy w' v.ownBlock) (hB : B ≤ w.heap.size) (hv : ∀ k, v.ownBlock = some k → B ≤ k) : Below B w w' :=
  (Below.refl _ w).grown hg hB hv
end Go.Proofs.YtehajghnjbhfeaaDoor
