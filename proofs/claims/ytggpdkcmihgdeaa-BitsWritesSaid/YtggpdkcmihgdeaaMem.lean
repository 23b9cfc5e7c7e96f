/-
  Words on memory: slices of bytes that came in or are the call's own; a set of blocks that a call may turn; things with footprints.
-/
import Derived.Test.YtggpdkcmihgdeaaRows
import Derived.Test.YtggpdkcmihgdeaaSpec
import Derived.WalkKit
import Derived.WalkSpells
import Derived.WalkLawsBesides
import Derived.Deep.QuietTactic
import Derived.BigQuiet
import Derived.StillTailTactics
import Derived.Laws.CopyOwn
import Derived.Lib.Hide
import Derived.Outline
import Derived.Lib.AppendStr
import Derived.Laws.AppendOwnNone
import Derived.Maps.AppendAt
import Derived.Lib.MinMax
import Derived.IntWalk
import Derived.Deep.WholeRow
namespace Go.Proofs.Ytggpdkcmihgdeaa
open Go.RowKit Bt

theorem ret_int {k : IntKind} {a b : Int} (h : a = b) : Ending.returned (.int k a) = .returned (.int k b) := by rw [h]
/-- Bytes that stand in memory from an address on. -/
def BytesAt (w : World) (g o : Nat) (bs : List UInt8) : Prop := ∀ i, i < bs.length → w.cell? ⟨g, o + i, none⟩ = some (.int .u8 (bi (bs.getD i 0)))
/-- A slice value reads as these bytes. -/
def SlW (w : World) (v : Value) (bs : List UInt8) : Prop :=
  (∃ g o cap, v = .slice (some ⟨g, o, none⟩) bs.length cap ∧ bs.length ≤ cap ∧ BytesAt w g o bs) ∨ (∃ p, v = .slice p 0 0 ∧ bs = [])
theorem BytesAt.lt {w : World} {g o : Nat} {bs : List UInt8} (h : BytesAt w g o bs) (h0 : 0 < bs.length) : g < w.heap.size :=
  block_lt_of_cell (h 0 h0)
theorem BytesAt.below {w w' : World} {g o B : Nat} {bs : List UInt8} (h : BytesAt w g o bs) (hb : Below B w w') (hg : g < B) : BytesAt w' g o bs :=
  fun i hi => by rw [hb.cell (p := ⟨g, o + i, none⟩) hg]; exact h i hi
theorem BytesAt.drop {w : World} {g o : Nat} {bs : List UInt8} (h : BytesAt w g o bs) (k : Nat) : BytesAt w g (o + k) (bs.drop k) := fun i hi => by
  have := h (k + i) (by simp at hi; omega)
  rw [Nat.add_assoc, this]; simp
theorem BytesAt.take {w : World} {g o : Nat} {bs : List UInt8} (h : BytesAt w g o bs) (k : Nat) : BytesAt w g o (bs.take k) := fun i hi => by
  have := h i (by simp at hi; omega)
  rw [this]; simp at hi; simp [show i < k by omega]
theorem SlW.below {w w' : World} {v : Value} {bs : List UInt8} (h : SlW w v bs) {B : Nat} (hb : Below B w w') (hB : w.heap.size ≤ B) : SlW w' v bs := by
  rcases h with ⟨g, o, cap, h1, h2, h3⟩ | h
  · refine .inl ⟨g, o, cap, h1, h2, ?_⟩
    intro i hi
    have h0 := h3.lt (by omega)
    rw [hb.cell (p := ⟨g, o + i, none⟩) (by show g < B; omega)]; exact h3 i hi
  · exact .inr h
theorem SlW.shape {w : World} {v : Value} {bs : List UInt8} (h : SlW w v bs) : ∃ p cap, v = .slice p bs.length cap := by
  rcases h with ⟨g, o, cap, h, _⟩ | ⟨p, h, rfl⟩
  · exact ⟨_, _, h⟩
  · exact ⟨_, _, h⟩
theorem SlW.some {w : World} {p : Option Addr} {n cap : Nat} {bs : List UInt8} (h : SlW w (.slice p n cap) bs) (h0 : 0 < n) : ∃ g o, p = some ⟨g, o, none⟩ ∧ BytesAt w g o bs := by
  rcases h with ⟨g, o, cap, h, _, hB⟩ | ⟨p', h, rfl⟩
  · cases h; exact ⟨g, o, rfl, hB⟩
  · cases h; omega
theorem SlW.le {w : World} {p : Option Addr} {n cap : Nat} {bs : List UInt8} (h : SlW w (.slice p n cap) bs) : n ≤ cap := by
  rcases h with ⟨g, o, cap', h, h2, _⟩ | ⟨p', h, rfl⟩
  · cases h; exact h2
  · cases h; omega
/-- A slice's beginning. -/
theorem SlW.take {w : World} {p : Option Addr} {n cap : Nat} {bs : List UInt8} (h : SlW w (.slice p n cap) bs) (k : Nat) (hk : k ≤ n) : SlW w (.slice p k cap) (bs.take k) := by
  rcases h with ⟨g, o, cap, h, h2, hB⟩ | ⟨p', h, rfl⟩
  · cases h
    exact .inl ⟨g, o, cap, by rw [List.length_take]; congr 1; omega, by simp; omega, hB.take k⟩
  · cases h
    obtain rfl : k = 0 := by omega
    exact .inr ⟨p, rfl, by simp⟩
def bl (l : List UInt8) : List Value := l.map fun x => Value.int .u8 (bi x)
theorem bl_toArray (l : List UInt8) : (bl l).toArray = bcells l := rfl
theorem bl_one (l : List UInt8) : ∀ v ∈ bl l, v.oneCell' = true := by
  intro v hv; simp [bl] at hv; obtain ⟨x, _, rfl⟩ := hv; rfl
theorem bl_append (a b : List UInt8) : bl (a ++ b) = bl a ++ bl b := by simp [bl]
theorem bl_src {w : World} {g o : Nat} {bs : List UInt8} (h : BytesAt w g o bs) : ∀ j v, (bl bs)[j]? = some v → w.cell? ((⟨g, o, none⟩ : Addr).add j) = some v := by
  intro j v hj
  have hlt : j < bs.length := by
    have := (List.getElem?_eq_some_iff.1 hj).1; simpa [bl] using this
  have := h j hlt
  have hadd : (⟨g, o, none⟩ : Addr).add j = ⟨g, o + j, none⟩ := by unfold Addr.add; split <;> simp_all
  rw [hadd, this, ← hj]
  simp [bl, hlt]
theorem info5 : (Try.prog.info? 5).map (fun i => (i.zero, i.size, i.bytes)) = some (some (.int .u8 0), 1, 1) := by kernel_rfl
/-- A slice of bytes of the call's own. -/
def OwnB (base : Nat) (w : World) (v : Value) (l : List UInt8) : Prop := w.ownsRow base 5 1 v l.length (bl l)
theorem OwnB.nil (base : Nat) (w : World) : OwnB base w (.slice none 0 0) [] := ⟨by simp [bl], .inl ⟨rfl, rfl⟩⟩
theorem OwnB.alloc {base : Nat} {w : World} {v : Value} {l : List UInt8} (h : OwnB base w v l) (o : Obj) : OwnB base (w.alloc o) v l := World.ownsRow.alloc h o
theorem OwnB.drew {base : Nat} {w : World} {v : Value} {l : List UInt8} (h : OwnB base w v l) : OwnB base w.drew v l := World.ownsRow.drew h
theorem OwnB.le {base B : Nat} {w : World} {v : Value} {l : List UInt8} (h : OwnB base w v l) (hB : ∀ k, v.ownBlock = some k → B ≤ k) : OwnB B w v l := by
  obtain ⟨h0, ⟨h1, h2⟩ | ⟨g, cap, cur, h1, h2, h3⟩⟩ := h
  · exact ⟨h0, .inl ⟨h1, h2⟩⟩
  · exact ⟨h0, .inr ⟨g, cap, cur, h1, hB g (by rw [h1]; rfl), h3⟩⟩
theorem OwnB.toW {base : Nat} {w : World} {v : Value} {l : List UInt8} (h : OwnB base w v l) : SlW w v l := by
  obtain ⟨_, ⟨h1, h2⟩ | ⟨g, cap, cur, h1, h2, h3, h4, h5, h6, h7⟩⟩ := h
  · exact .inr ⟨none, h1, List.eq_nil_of_length_eq_zero h2⟩
  · refine .inl ⟨g, 0, cap, h1, h4, fun i hi => ?_⟩
    rw [Nat.zero_add, cell_of_row _ _ _ _ _ _ h3]
    have e : cur.toList[i]? = (bl l)[i]? := by
      rw [← h7, List.getElem?_take, if_pos (by omega)]
    rw [← Array.getElem?_toList, e]
    simp [bl, hi]
theorem OwnB.lt {base : Nat} {w : World} {v : Value} {l : List UInt8} (h : OwnB base w v l) : ∀ k, v.ownBlock = some k → base ≤ k ∧ k < w.heap.size := by
  intro k hk
  obtain ⟨_, ⟨h1, h2⟩ | ⟨g, cap, cur, h1, h2, h3, h4, h5, h6, h7⟩⟩ := h
  · rw [h1] at hk; cases hk
  · rw [h1] at hk
    simp [Value.ownBlock] at hk
    subst hk
    exact ⟨h2, (Array.getElem?_eq_some_iff.1 h3).1⟩
theorem OwnB.stays {base : Nat} {w w' : World} {v : Value} {l : List UInt8} (h : OwnB base w v l) (hb : ∀ k, v.ownBlock = some k → w'.heap[k]? = w.heap[k]?) : OwnB base w' v l := by
  obtain ⟨h0, ⟨h1, h2⟩ | ⟨g, cap, cur, h1, h2, h3, h4⟩⟩ := h
  · exact ⟨h0, .inl ⟨h1, h2⟩⟩
  · exact ⟨h0, .inr ⟨g, cap, cur, h1, h2, (hb g (by rw [h1]; rfl)).trans h3, h4⟩⟩
/-- Where it stands, if it has bytes. -/
theorem OwnB.spot {base : Nat} {w : World} {v : Value} {l : List UInt8} (h : OwnB base w v l) (h0 : 0 < l.length) : ∃ g cap, v = .slice (some ⟨g, 0, none⟩) l.length cap ∧ base ≤ g ∧ g < w.heap.size ∧ l.length ≤ cap ∧ cap ≤ maxLen ∧
    (∀ i, i < l.length → w.cell? ⟨g, i, none⟩ = some (.int .u8 (bi (l.getD i 0)))) ∧ (∀ i, w.frozen? ⟨g, i, none⟩ = false) ∧ ∀ i x, i < l.length → OwnB base (w.setCell ⟨g, i, none⟩ (.int .u8 (bi x))) v (l.set i x) := by
  have hW := h.toW
  obtain ⟨e0, ⟨h1, h2⟩ | ⟨g, cap, cur, rfl, h2, h3, h4, h5, h6, h7⟩⟩ := h
  · omega
  · refine ⟨g, cap, rfl, h2, (Array.getElem?_eq_some_iff.1 h3).1, h4, h5, fun i hi => ?_, fun i => frozen_of_row _ _ _ _ _ h3, fun i x hi => ?_⟩
    · obtain ⟨g', o', cap', he, _, hB⟩ | ⟨p', he, hb0⟩ := hW
      · cases he
        have := hB i hi
        rwa [Nat.zero_add] at this
      · rw [hb0] at hi; simp at hi
    · refine ⟨by simp [bl], .inr ⟨g, cap, cur.setIfInBounds i (.int .u8 (bi x)), by simp, h2, heap_setCell_same _ _ _ _ _ _ h3, by simpa using h4, h5, by simpa using h6, ?_⟩⟩
      rw [Array.toList_setIfInBounds, List.length_set, List.take_set, h7]
      simp [bl, List.map_set]
theorem run_appB {base : Nat} {w : World} {v src : Value} {l ys : List UInt8} (ty : TypeId) (hown : OwnB base w v l) (hsrc : SlW w src ys) (hbase : base ≤ w.heap.size) (hsz : l.length + ys.length ≤ 1099511627776) :
    ∃ v' w', (Builtin.append_ #[30, 30] ty #[v, src]).run Try.prog w = .ok v' w' ∧ OwnB base w' v' (l ++ ys) ∧ w.grownBy w' v.ownBlock ∧ (v'.ownBlock = v.ownBlock ∨ v'.ownBlock = some w.heap.size) := by
  obtain ⟨i0, hi, hz0, hz1, hz2⟩ := info_parts info5
  rcases hsrc with ⟨g, o, cap, rfl, h2, h3⟩ | ⟨p, rfl, rfl⟩
  · obtain ⟨v', w', h, ho, hg, _, hat⟩ := run_append_own_at (P := Try.prog) w base 30 ty 5 i0 (.int .u8 0) 1 1 Try.underlying30 hi hz0 hz1 hz2 rfl (by decide) v l.length (bl l) hown ⟨g, o, none⟩ ys.length cap (bl ys) (by simp [bl]) (bl_src h3) (bl_one ys) (by unfold maxLen; omega) (by omega) hbase
    refine ⟨v', w', h, ?_, hg, hat⟩
    unfold OwnB
    rw [List.length_append, bl_append]; exact ho
  · cases p with
    | some a =>
      obtain ⟨v', w', h, ho, hg, _, hat⟩ := run_append_own_at (P := Try.prog) w base 30 ty 5 i0 (.int .u8 0) 1 1 Try.underlying30 hi hz0 hz1 hz2 rfl (by decide) v l.length (bl l) hown a 0 0 [] rfl (fun j y hy => by simp at hy) (fun y hy => by cases hy) (by unfold maxLen; simp at hsz; omega) (by simp at hsz; omega) hbase
      refine ⟨v', w', h, ?_, hg, hat⟩
      unfold OwnB
      rw [List.append_nil]
      simpa using ho
    | none => exact ⟨v, w, run_append_owned_none (P := Try.prog) (w := w) base 30 ty 5 i0 1 Try.underlying30 hi v l.length (bl l) hown, by simpa using hown, ⟨rfl, rfl, rfl, Nat.le_refl _, fun _ _ _ => rfl⟩, .inl rfl⟩
theorem wpList_appB {w : World} {ops : Array Oper} {rest : List Oper} {o : Oper} {a : Act} {Q : Exit → Act → World → Prop} (hgd : o.guard = none) (d x : Operand)
    (ho : o.op = .call { callee := .builtin .append, args := #[d, x], argTypes := #[30, 30] }) (base : Nat) (v src : Value) (l ys : List UInt8) (hd : a.eval d = v) (hx : a.eval x = src)
    (hown : OwnB base w v l) (hsrc : SlW w src ys) (hbase : base ≤ w.heap.size) (hsz : l.length + ys.length ≤ 1099511627776)
    (h : ∀ v' w', OwnB base w' v' (l ++ ys) → w.grownBy w' v.ownBlock → (v'.ownBlock = v.ownBlock ∨ v'.ownBlock = some w.heap.size) → wpList Try.prog ops Q rest (a.put o.dst v') w') : wpList Try.prog ops Q (o :: rest) a w := by
  refine wpList_plain hgd fun K hK => ?_
  obtain ⟨v', w', hrun, h1, h2, h3⟩ := run_appB o.type hown hsrc hbase hsz
  unfold Oper.wp
  simp only [execOp, ho, resolve, invoke, builtin, hd, hx, hrun, Result.andThen, List.map_toArray, List.map_cons, List.map_nil, Sem.run_bind, Sem.run_pure]
  exact hK _ _ (h v' w' h1 h2 h3)
theorem run_toString {w : World} {v : Value} {l : List UInt8} (h : SlW w v l) : (convert 30 9 v).run Try.prog w = .ok (.string ⟨l.toArray⟩) w := by
  rcases h with ⟨g, o, cap, rfl, h2, h3⟩ | ⟨p, rfl, rfl⟩
  · have hl := run_loadCells_list (P := Try.prog) w ⟨g, o, none⟩ (bl l) (bl_src h3)
    have e : bl l = (l.map bi).map (Value.int .u8) := by simp [bl]
    rw [show (bl l).length = l.length by simp [bl], e] at hl
    rw [run_convert_bytes_string w 30 9 5 _ _ _ Try.underlying30 Try.underlying5 Try.underlying9, run_bytesToString w _ _ _ _ hl]
    congr 2
    have key : ∀ (l : List UInt8) (s : ByteArray), (l.map bi).foldl (fun r n => r.push (UInt8.ofNat n.toNat)) s = ⟨(s.data.toList ++ l).toArray⟩ := by
      intro l
      induction l with
      | nil => intro s; simp
      | cons x t ih =>
        intro s
        simp only [List.map_cons, List.foldl_cons]
        rw [ih]
        congr 1
        have : UInt8.ofNat (bi x).toNat = x := by simp [bi]
        rw [this]
        simp [ByteArray.push]
    rw [key]
    simp
  · cases p with
    | none => kernel_rfl
    | some a => kernel_rfl
theorem SlB_from {w : World} {p : Option Addr} {n cap : Nat} {bs : List UInt8} (h : SlW w (.slice p n cap) bs) (k m : Nat) (hk : k ≤ m) (hm : m ≤ n) :
    ∃ v', (∀ w', (Instr.sliceAt 30 (.slice p n cap) (some (.int .i64 (k : Int))) (some (.int .i64 (m : Int))) none).run Try.prog w' = .ok v' w') ∧ SlW w v' ((bs.drop k).take (m - k)) := by
  have h0 := h.le
  rcases h with ⟨g, o, cap, h, h2, hB⟩ | ⟨p', h, rfl⟩
  · cases h
    have h1 : (0 : Int) ≤ (k : Int) := by omega
    have h1' : (k : Int) ≤ (m : Int) := by omega
    have h1'' : (m : Int) ≤ (cap : Int) := by omega
    have hl : ((bs.drop k).take (m - k)).length = m - k := by simp; omega
    by_cases hc : cap = k
    · have hn : m = k := by omega
      subst hn
      refine ⟨.slice (some ⟨g, o, none⟩) 0 0, fun w' => ?_, .inr ⟨_, rfl, by simp⟩⟩
      subst hc
      go_simp
    · refine ⟨.slice (some ⟨g, o + k, none⟩) (m - k) (cap - k), fun w' => ?_, .inl ⟨g, o + k, cap - k, by rw [hl], by rw [hl]; omega, (hB.drop k).take _⟩⟩
      go_simp
  · cases h
    obtain rfl : m = 0 := by omega
    obtain rfl : k = 0 := by omega
    refine ⟨.slice p 0 0, fun w' => ?_, .inr ⟨p, rfl, by simp⟩⟩
    show (Instr.sliceAt 30 (.slice p 0 0) (some (.int .i64 0)) (some (.int .i64 0)) none).run Try.prog w' = .ok (.slice p 0 0) w'
    cases p with
    | none => kernel_rfl
    | some a => kernel_rfl
theorem slice_to {w : World} (p : Option Addr) (n cap k : Nat) (bs : List UInt8) (hs : SlW w (.slice p n cap) bs) (hk : k ≤ n) : ∀ w', (Instr.sliceAt 30 (.slice p n cap) none (some (.int .i64 (k : Int))) none).run Try.prog w' = .ok (.slice p k cap) w' := by
  intro w'
  have hc := hs.le
  have h1 : (0 : Int) ≤ (k : Int) := by omega
  have h2 : (k : Int) ≤ (cap : Int) := by omega
  rcases hs with ⟨g, o, cap', h, _, _⟩ | ⟨p', h, rfl⟩
  · cases h
    go_simp
  · cases h
    obtain rfl : k = 0 := by omega
    show (Instr.sliceAt 30 (.slice p 0 0) none (some (.int .i64 0)) none).run Try.prog w' = .ok (.slice p 0 0) w'
    cases p with
    | none => kernel_rfl
    | some a => kernel_rfl

/-- Nothing but the blocks of S has turned. -/
structure OnlyS (S : Nat → Prop) (w w' : World) : Prop where
  os : w'.os = w.os
  tape : w'.tape = w.tape
  output : w'.output = w.output
  size : w.heap.size ≤ w'.heap.size
  block : ∀ k, k < w.heap.size → ¬ S k → w'.heap[k]? = w.heap[k]?
namespace OnlyS
theorem refl (S : Nat → Prop) (w : World) : OnlyS S w w := ⟨rfl, rfl, rfl, Nat.le_refl _, fun _ _ _ => rfl⟩
theorem trans {S : Nat → Prop} {a b c : World} (h : OnlyS S a b) (k : OnlyS S b c) : OnlyS S a c :=
  ⟨k.os.trans h.os, k.tape.trans h.tape, k.output.trans h.output, Nat.le_trans h.size k.size, fun i hi hn => (k.block i (Nat.lt_of_lt_of_le hi h.size) hn).trans (h.block i hi hn)⟩
/-- The second step may turn what the first has made. -/
theorem trans' {S T : Nat → Prop} {a b c : World} (h : OnlyS S a b) (k : OnlyS T b c) (hT : ∀ i, T i → S i ∨ a.heap.size ≤ i) : OnlyS S a c :=
  ⟨k.os.trans h.os, k.tape.trans h.tape, k.output.trans h.output, Nat.le_trans h.size k.size, fun i hi hn => (k.block i (Nat.lt_of_lt_of_le hi h.size) (fun ht => by
    rcases hT i ht with h' | h'
    · exact hn h'
    · omega)).trans (h.block i hi hn)⟩
theorem mono {S T : Nat → Prop} {a b : World} (h : OnlyS S a b) (hT : ∀ i, i < a.heap.size → S i → T i) : OnlyS T a b :=
  ⟨h.os, h.tape, h.output, h.size, fun i hi hn => h.block i hi (fun hs => hn (hT i hi hs))⟩
theorem of_below {S : Nat → Prop} {a b : World} (h : Below a.heap.size a b) : OnlyS S a b := ⟨h.os, h.tape, h.output, h.size, fun i hi _ => h.block i hi⟩
theorem setCell {S : Nat → Prop} (w : World) (g o : Nat) (v : Value) (hg : S g) : OnlyS S w (w.setCell ⟨g, o, none⟩ v) :=
  ⟨rfl, rfl, rfl, by simp [World.setCell], fun k _ hne => heap_setCell_other _ _ _ _ (fun e => hne (by simpa [e] using hg))⟩
theorem alloc {S : Nat → Prop} (w : World) (o : Obj) : OnlyS S w (w.alloc o) := of_below ((Below.refl _ _).alloc (Nat.le_refl _) _)
theorem drew {S : Nat → Prop} (w : World) : OnlyS S w w.drew := ⟨rfl, rfl, rfl, Nat.le_refl _, fun _ _ _ => rfl⟩
theorem grown {S : Nat → Prop} {w w' : World} {r : Option Nat} (h : w.grownBy w' r) (hr : ∀ k, r = some k → S k) : OnlyS S w w' :=
  ⟨h.os, h.tape, h.output, h.size, fun k hk hne => h.block k hk (fun e => hne (hr k e.symm))⟩
theorem below {S : Nat → Prop} {w w' : World} {B : Nat} (h : OnlyS S w w') (hB : B ≤ w.heap.size) (hS : ∀ k, S k → B ≤ k) : Below B w w' :=
  ⟨h.os, h.tape, h.output, h.size, fun k hk => h.block k (by omega) (fun hs => by have := hS k hs; omega)⟩
theorem cell {S : Nat → Prop} {w w' : World} (h : OnlyS S w w') {a : Addr} {v : Value} (hc : w.cell? a = some v) (hne : ¬ S a.block) : w'.cell? a = some v := by
  rw [World.cell?_of_block (w := w) (h.block a.block (block_lt_of_cell hc) hne)]; exact hc
end OnlyS
theorem BytesAt.only {S : Nat → Prop} {w w' : World} {g o : Nat} {bs : List UInt8} (h : BytesAt w g o bs) (ho : OnlyS S w w') (hg : ¬ S g) : BytesAt w' g o bs := fun i hi => ho.cell (h i hi) hg
end Go.Proofs.Ytggpdkcmihgdeaa
