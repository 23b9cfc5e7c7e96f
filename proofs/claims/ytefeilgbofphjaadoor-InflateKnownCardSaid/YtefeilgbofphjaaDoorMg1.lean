/-
  Merged, in the order in which they build: Mem Spec Inf Byt Rdr.
-/
import Derived.Test.YtefeilgbofphjaaDoorRows
import Derived.WalkKit
import Derived.WalkSpells
import Derived.WalkLawsBesides
import Derived.Deep.QuietTactic
import Derived.BigQuiet
import Derived.StillTailTactics
import Derived.Laws.CopyOwn
import Derived.Lib.Hide
import Derived.Outline
import Derived.Lib.AppendStr
import Derived.Laws.AppendOwnNone
import Derived.Maps.AppendAt
import Derived.Lib.MinMax
import Derived.IntWalk
import Derived.Deep.WholeRow
import Derived.Attr
import Derived.Lib.SlBytesConst
import Derived.Maps.OwnSet
import Derived.Laws.BitsAllLaws
/-
  Words on memory: slices whose elements take one cell; slices of the call's own; a set of blocks that a call may turn.
-/
namespace Go.Proofs.YtefeilgbofphjaaDoor
open Go.RowKit

theorem ret_int {k : IntKind} {a b : Int} (h : a = b) : Ending.returned (.int k a) = .returned (.int k b) := by rw [h]
/-- Cells that stand in memory from an address on. -/
def RowAt (w : World) (g o : Nat) (vs : List Value) : Prop := ∀ i v, vs[i]? = some v → w.cell? ⟨g, o + i, none⟩ = some v
/-- A slice value (elements of one cell) reads as these. -/
def SlV (w : World) (v : Value) (vs : List Value) : Prop :=
  (∃ g o cap, v = .slice (some ⟨g, o, none⟩) vs.length cap ∧ vs.length ≤ cap ∧ RowAt w g o vs) ∨ (∃ p, v = .slice p 0 0 ∧ vs = [])
theorem RowAt.at {w : World} {g o : Nat} {vs : List Value} (h : RowAt w g o vs) (i : Nat) (hi : i < vs.length) : w.cell? ⟨g, o + i, none⟩ = some vs[i] := h i _ (List.getElem?_eq_getElem hi)
theorem RowAt.lt {w : World} {g o : Nat} {vs : List Value} (h : RowAt w g o vs) (h0 : 0 < vs.length) : g < w.heap.size :=
  block_lt_of_cell (h.at 0 h0)
theorem RowAt.below {w w' : World} {g o B : Nat} {vs : List Value} (h : RowAt w g o vs) (hb : Below B w w') (hg : g < B) : RowAt w' g o vs :=
  fun i v hi => by rw [hb.cell (p := ⟨g, o + i, none⟩) hg]; exact h i v hi
theorem RowAt.drop {w : World} {g o : Nat} {vs : List Value} (h : RowAt w g o vs) (k : Nat) : RowAt w g (o + k) (vs.drop k) := fun i v hi => by
  rw [List.getElem?_drop] at hi
  rw [Nat.add_assoc]; exact h _ _ hi
theorem RowAt.take {w : World} {g o : Nat} {vs : List Value} (h : RowAt w g o vs) (k : Nat) : RowAt w g o (vs.take k) := fun i v hi => by
  rw [List.getElem?_take] at hi
  split at hi
  · exact h _ _ hi
  · cases hi
theorem SlV.below {w w' : World} {v : Value} {vs : List Value} (h : SlV w v vs) {B : Nat} (hb : Below B w w') (hB : w.heap.size ≤ B) : SlV w' v vs := by
  rcases h with ⟨g, o, cap, h1, h2, h3⟩ | h
  · refine .inl ⟨g, o, cap, h1, h2, ?_⟩
    intro i u hi
    have h0 := h3.lt (by have := (List.getElem?_eq_some_iff.1 hi).1; omega)
    rw [hb.cell (p := ⟨g, o + i, none⟩) (by show g < B; omega)]; exact h3 i u hi
  · exact .inr h
theorem SlV.shape {w : World} {v : Value} {vs : List Value} (h : SlV w v vs) : ∃ p cap, v = .slice p vs.length cap := by
  rcases h with ⟨g, o, cap, h, _⟩ | ⟨p, h, rfl⟩
  · exact ⟨_, _, h⟩
  · exact ⟨_, _, h⟩
theorem SlV.some {w : World} {p : Option Addr} {n cap : Nat} {vs : List Value} (h : SlV w (.slice p n cap) vs) (h0 : 0 < n) : ∃ g o, p = some ⟨g, o, none⟩ ∧ RowAt w g o vs := by
  rcases h with ⟨g, o, cap, h, _, hB⟩ | ⟨p', h, rfl⟩
  · cases h; exact ⟨g, o, rfl, hB⟩
  · cases h; omega
theorem SlV.le {w : World} {p : Option Addr} {n cap : Nat} {vs : List Value} (h : SlV w (.slice p n cap) vs) : n ≤ cap := by
  rcases h with ⟨g, o, cap', h, h2, _⟩ | ⟨p', h, rfl⟩
  · cases h; exact h2
  · cases h; omega
theorem SlV.len {w : World} {p : Option Addr} {n cap : Nat} {vs : List Value} (h : SlV w (.slice p n cap) vs) : vs.length = n := by
  rcases h with ⟨g, o, cap', h, h2, _⟩ | ⟨p', h, rfl⟩
  · cases h; rfl
  · cases h; rfl
theorem SlV.nil (w : World) (p : Option Addr) : SlV w (.slice p 0 0) [] := .inr ⟨p, rfl, rfl⟩
/-- A slice's beginning. -/
theorem SlV.take {w : World} {p : Option Addr} {n cap : Nat} {vs : List Value} (h : SlV w (.slice p n cap) vs) (k : Nat) (hk : k ≤ n) : SlV w (.slice p k cap) (vs.take k) := by
  rcases h with ⟨g, o, cap, h, h2, hB⟩ | ⟨p', h, rfl⟩
  · cases h
    exact .inl ⟨g, o, cap, by rw [List.length_take]; congr 1; omega, by simp; omega, hB.take k⟩
  · cases h
    obtain rfl : k = 0 := by omega
    exact .inr ⟨p, rfl, by simp⟩
/-- Rows of numbers, of bools. -/
def ni (zs : List Int) : List Value := zs.map (Value.int .i64)
def nu (zs : List Nat) : List Value := zs.map fun (z : Nat) => Value.int .u32 (z : Int)
def nb (bs : List Bool) : List Value := bs.map Value.bool
@[simp] theorem ni_length (zs : List Int) : (ni zs).length = zs.length := by simp [ni]
@[simp] theorem nu_length (zs : List Nat) : (nu zs).length = zs.length := by simp [nu]
@[simp] theorem nb_length (zs : List Bool) : (nb zs).length = zs.length := by simp [nb]
theorem ni_take (zs : List Int) (k : Nat) : (ni zs).take k = ni (zs.take k) := by simp [ni, List.map_take]
theorem ni_drop (zs : List Int) (k : Nat) : (ni zs).drop k = ni (zs.drop k) := by simp [ni, List.map_drop]
theorem nb_take (zs : List Bool) (k : Nat) : (nb zs).take k = nb (zs.take k) := by simp [nb, List.map_take]
theorem nb_drop (zs : List Bool) (k : Nat) : (nb zs).drop k = nb (zs.drop k) := by simp [nb, List.map_drop]
theorem ni_append (a b : List Int) : ni (a ++ b) = ni a ++ ni b := by simp [ni]
theorem nu_append (a b : List Nat) : nu (a ++ b) = nu a ++ nu b := by simp [nu]
theorem nb_append (a b : List Bool) : nb (a ++ b) = nb a ++ nb b := by simp [nb]
theorem ni_one (zs : List Int) : ∀ v ∈ ni zs, v.oneCell' = true := by
  intro v hv; simp [ni] at hv; obtain ⟨x, _, rfl⟩ := hv; rfl
theorem nu_one (zs : List Nat) : ∀ v ∈ nu zs, v.oneCell' = true := by
  intro v hv; simp [nu] at hv; obtain ⟨x, _, rfl⟩ := hv; rfl
theorem nb_one (zs : List Bool) : ∀ v ∈ nb zs, v.oneCell' = true := by
  intro v hv; simp [nb] at hv; rcases hv with ⟨_, rfl⟩ | ⟨_, rfl⟩ <;> rfl
theorem RowAt.ni {w : World} {g o : Nat} {zs : List Int} (h : RowAt w g o (ni zs)) (i : Nat) (hi : i < zs.length) : w.cell? ⟨g, o + i, none⟩ = some (.int .i64 (zs.getD i 0)) := by
  refine h i _ ?_
  simp [YtefeilgbofphjaaDoor.ni, hi]
theorem RowAt.nu {w : World} {g o : Nat} {zs : List Nat} (h : RowAt w g o (nu zs)) (i : Nat) (hi : i < zs.length) : w.cell? ⟨g, o + i, none⟩ = some (.int .u32 ((zs.getD i 0 : Nat) : Int)) := by
  refine h i _ ?_
  simp [YtefeilgbofphjaaDoor.nu, hi]
theorem RowAt.nb {w : World} {g o : Nat} {zs : List Bool} (h : RowAt w g o (nb zs)) (i : Nat) (hi : i < zs.length) : w.cell? ⟨g, o + i, none⟩ = some (.bool (zs.getD i false)) := by
  refine h i _ ?_
  simp [YtefeilgbofphjaaDoor.nb, hi]
theorem RowAt.src {w : World} {g o : Nat} {vs : List Value} (h : RowAt w g o vs) : ∀ j v, vs[j]? = some v → w.cell? ((⟨g, o, none⟩ : Addr).add j) = some v := by
  intro j v hj
  have hadd : (⟨g, o, none⟩ : Addr).add j = ⟨g, o + j, none⟩ := by unfold Addr.add; split <;> simp_all
  rw [hadd]; exact h j v hj

theorem info3 : (Tryd.prog.info? 3).map (fun i => (i.zero, i.size, i.bytes)) = some (some (.int .i64 0), 1, 8) := by kernel_rfl
theorem info4 : (Tryd.prog.info? 4).map (fun i => (i.zero, i.size, i.bytes)) = some (some (.bool false), 1, 1) := by kernel_rfl
theorem info49 : (Tryd.prog.info? 49).map (fun i => (i.zero, i.size, i.bytes)) = some (some (.int .u32 0), 1, 4) := by kernel_rfl
theorem own_lt {base : Nat} {e : TypeId} {w : World} {v : Value} {n : Nat} {l : List Value} (h : w.ownsRow base e 1 v n l) : ∀ k, v.ownBlock = some k → base ≤ k ∧ k < w.heap.size := World.ownsRow.lt h
theorem own_le {base B : Nat} {e : TypeId} {w : World} {v : Value} {n : Nat} {l : List Value} (h : w.ownsRow base e 1 v n l) (hB : ∀ k, v.ownBlock = some k → B ≤ k) : w.ownsRow B e 1 v n l := by
  obtain ⟨h0, ⟨h1, h2⟩ | ⟨g, cap, cur, h1, h2, h3⟩⟩ := h
  · exact ⟨h0, .inl ⟨h1, h2⟩⟩
  · exact ⟨h0, .inr ⟨g, cap, cur, h1, hB g (by rw [h1]; rfl), h3⟩⟩
theorem own_toV {base : Nat} {e : TypeId} {w : World} {v : Value} {n : Nat} {l : List Value} (h : w.ownsRow base e 1 v n l) : SlV w v l := by
  obtain ⟨h0, ⟨h1, h2⟩ | ⟨g, cap, cur, h1, h2, h3, h4, h5, h6, h7⟩⟩ := h
  · subst h2
    exact .inr ⟨none, h1, List.eq_nil_of_length_eq_zero (by omega)⟩
  · have hn : l.length = n := by omega
    refine .inl ⟨g, 0, cap, by rw [hn]; exact h1, by omega, fun i u hi => ?_⟩
    rw [Nat.zero_add, cell_of_row _ _ _ _ _ _ h3]
    have hi' := (List.getElem?_eq_some_iff.1 hi).1
    have e : cur.toList[i]? = l[i]? := by
      rw [← h7, List.getElem?_take, if_pos (by omega)]
    rw [← Array.getElem?_toList, e, hi]
theorem own_stays {base : Nat} {e : TypeId} {w w' : World} {v : Value} {n : Nat} {l : List Value} (h : w.ownsRow base e 1 v n l) (hb : ∀ k, v.ownBlock = some k → w'.heap[k]? = w.heap[k]?) : w'.ownsRow base e 1 v n l := by
  obtain ⟨h0, ⟨h1, h2⟩ | ⟨g, cap, cur, h1, h2, h3, h4⟩⟩ := h
  · exact ⟨h0, .inl ⟨h1, h2⟩⟩
  · exact ⟨h0, .inr ⟨g, cap, cur, h1, h2, (hb g (by rw [h1]; rfl)).trans h3, h4⟩⟩
/-- Where it stands, if it has elements. -/
theorem own_spot {base : Nat} {e : TypeId} {w : World} {v : Value} {n : Nat} {l : List Value} (h : w.ownsRow base e 1 v n l) (h0 : 0 < n) : ∃ g cap, v = .slice (some ⟨g, 0, none⟩) n cap ∧ base ≤ g ∧ g < w.heap.size ∧ n ≤ cap ∧ cap ≤ maxLen ∧
    (∀ i u, l[i]? = some u → w.cell? ⟨g, i, none⟩ = some u) ∧ (∀ i, w.frozen? ⟨g, i, none⟩ = false) ∧ ∀ i x, i < n → (w.setCell ⟨g, i, none⟩ x).ownsRow base e 1 v n (l.set i x) := by
  have hW := own_toV h
  obtain ⟨e0, ⟨h1, h2⟩ | ⟨g, cap, cur, rfl, h2, h3, h4, h5, h6, h7⟩⟩ := h
  · omega
  · refine ⟨g, cap, rfl, h2, (Array.getElem?_eq_some_iff.1 h3).1, h4, h5, fun i u hi => ?_, fun i => frozen_of_row _ _ _ _ _ h3, fun i x hi => ?_⟩
    · obtain ⟨g', o', cap', he, _, hB⟩ | ⟨p', he, hb0⟩ := hW
      · cases he
        have := hB i u hi
        rwa [Nat.zero_add] at this
      · rw [hb0] at hi; simp at hi
    · refine ⟨by simpa using e0, .inr ⟨g, cap, cur.setIfInBounds i x, by simp, h2, heap_setCell_same _ _ _ _ _ _ h3, by simpa using h4, h5, by simpa using h6, ?_⟩⟩
      rw [Array.toList_setIfInBounds, List.take_set, h7]

/-- A slice value reads as these cells, m elements of k cells. -/
def SlK (k : Nat) (w : World) (v : Value) (m : Nat) (vs : List Value) : Prop :=
  vs.length = m * k ∧ ((∃ g o cap, v = .slice (some ⟨g, o, none⟩) m cap ∧ m ≤ cap ∧ RowAt w g o vs) ∨ (∃ p, v = .slice p 0 0 ∧ m = 0))
theorem SlV.toK {w : World} {v : Value} {vs : List Value} (h : SlV w v vs) : SlK 1 w v vs.length vs := by
  refine ⟨by omega, ?_⟩
  rcases h with ⟨g, o, cap, h1, h2, h3⟩ | ⟨p, h, rfl⟩
  · exact .inl ⟨g, o, cap, h1, h2, h3⟩
  · exact .inr ⟨p, h, rfl⟩
/-- append of one row of elements to one's own. -/
theorem run_appK (t e : TypeId) (i0 : TypeInfo) (z : Value) (k by0 : Nat) (hu : Tryd.prog.underlying t = some (.slice e)) (hi : Tryd.prog.info? e = some i0) (hz0 : i0.zero = some z) (hz1 : i0.size = k) (hz2 : i0.bytes = by0) (hzc : z.cells.size = k) (hk : 0 < k) (hby : by0 ≤ 64)
    {base : Nat} {w : World} {v src : Value} {l ys : List Value} {n m : Nat} (ty : TypeId) (h1 : ∀ y ∈ ys, y.oneCell' = true) (hown : w.ownsRow base e k v n l) (hsrc : SlK k w src m ys) (hbase : base ≤ w.heap.size) (hsz : n + m ≤ 1099511627776) :
    ∃ v' w', (Builtin.append_ #[t, t] ty #[v, src]).run Tryd.prog w = .ok v' w' ∧ w'.ownsRow base e k v' (n + m) (l ++ ys) ∧ w.grownBy w' v.ownBlock ∧ (v'.ownBlock = v.ownBlock ∨ v'.ownBlock = some w.heap.size) := by
  have hb : (n + m) * by0 ≤ 140737488355328 := by
    have : (n + m) * by0 ≤ 1099511627776 * 64 := Nat.mul_le_mul hsz hby
    omega
  obtain ⟨hl, ⟨g, o, cap, rfl, h2, h3⟩ | ⟨p, rfl, rfl⟩⟩ := hsrc
  · obtain ⟨v', w', h, ho, hg, _, hat⟩ := run_append_own_at (P := Tryd.prog) w base t ty e i0 z k by0 hu hi hz0 hz1 hz2 hzc hk v n l hown ⟨g, o, none⟩ m cap ys hl h3.src h1 (by unfold maxLen; omega) hb hbase
    exact ⟨v', w', h, ho, hg, hat⟩
  · obtain rfl : ys = [] := List.eq_nil_of_length_eq_zero (by omega)
    cases p with
    | some a =>
      obtain ⟨v', w', h, ho, hg, _, hat⟩ := run_append_own_at (P := Tryd.prog) w base t ty e i0 z k by0 hu hi hz0 hz1 hz2 hzc hk v n l hown a 0 0 [] (by simp) (fun j y hy => by simp at hy) (fun y hy => by cases hy) (by unfold maxLen; omega) hb hbase
      exact ⟨v', w', h, ho, hg, hat⟩
    | none => exact ⟨v, w, run_append_owned_none (P := Tryd.prog) (w := w) base t ty e i0 k hu hi v n l hown, by simpa using hown, ⟨rfl, rfl, rfl, Nat.le_refl _, fun _ _ _ => rfl⟩, .inl rfl⟩
theorem wpList_appK (t e : TypeId) (i0 : TypeInfo) (z : Value) (k by0 : Nat) (hu : Tryd.prog.underlying t = some (.slice e)) (hi : Tryd.prog.info? e = some i0) (hz0 : i0.zero = some z) (hz1 : i0.size = k) (hz2 : i0.bytes = by0) (hzc : z.cells.size = k) (hk : 0 < k) (hby : by0 ≤ 64)
    {w : World} {ops : Array Oper} {rest : List Oper} {o : Oper} {a : Act} {Q : Exit → Act → World → Prop} (hgd : o.guard = none) (d x : Operand)
    (ho : o.op = .call { callee := .builtin .append, args := #[d, x], argTypes := #[t, t] }) (base : Nat) (v src : Value) (n m : Nat) (l ys : List Value) (hd : a.eval d = v) (hx : a.eval x = src)
    (h1 : ∀ y ∈ ys, y.oneCell' = true) (hown : w.ownsRow base e k v n l) (hsrc : SlK k w src m ys) (hbase : base ≤ w.heap.size) (hsz : n + m ≤ 1099511627776)
    (h : ∀ v' w', w'.ownsRow base e k v' (n + m) (l ++ ys) → w.grownBy w' v.ownBlock → (v'.ownBlock = v.ownBlock ∨ v'.ownBlock = some w.heap.size) → wpList Tryd.prog ops Q rest (a.put o.dst v') w') : wpList Tryd.prog ops Q (o :: rest) a w := by
  refine wpList_plain hgd fun K hK => ?_
  obtain ⟨v', w', hrun, h1, h2, h3⟩ := run_appK t e i0 z k by0 hu hi hz0 hz1 hz2 hzc hk hby o.type h1 hown hsrc hbase hsz
  unfold Oper.wp
  simp only [execOp, ho, resolve, invoke, builtin, hd, hx, hrun, Result.andThen, List.map_toArray, List.map_cons, List.map_nil, Sem.run_bind, Sem.run_pure]
  exact hK _ _ (h v' w' h1 h2 h3)
/-- A slice of a literal of numbers that was laid just now. -/
theorem slv_lit (w : World) (vs : List Value) (e : TypeId) : SlV (w.alloc (.cells vs.toArray e)) (.slice (some ⟨w.heap.size, 0, none⟩) vs.length vs.length) vs :=
  .inl ⟨w.heap.size, 0, _, rfl, Nat.le_refl _, fun i v hi => by
    rw [Nat.zero_add]
    exact (cell_of_row _ _ _ _ _ _ (heap_alloc_new _ _)).trans (by simpa using hi)⟩

/-- Nothing but the blocks of S has turned. -/
structure OnlyS (S : Nat → Prop) (w w' : World) : Prop where
  os : w'.os = w.os
  tape : w'.tape = w.tape
  output : w'.output = w.output
  size : w.heap.size ≤ w'.heap.size
  block : ∀ k, k < w.heap.size → ¬ S k → w'.heap[k]? = w.heap[k]?
namespace OnlyS
theorem refl (S : Nat → Prop) (w : World) : OnlyS S w w := ⟨rfl, rfl, rfl, Nat.le_refl _, fun _ _ _ => rfl⟩
theorem trans {S : Nat → Prop} {a b c : World} (h : OnlyS S a b) (k : OnlyS S b c) : OnlyS S a c :=
  ⟨k.os.trans h.os, k.tape.trans h.tape, k.output.trans h.output, Nat.le_trans h.size k.size, fun i hi hn => (k.block i (Nat.lt_of_lt_of_le hi h.size) hn).trans (h.block i hi hn)⟩
/-- The second step may turn what the first has made. -/
theorem trans' {S T : Nat → Prop} {a b c : World} (h : OnlyS S a b) (k : OnlyS T b c) (hT : ∀ i, T i → S i ∨ a.heap.size ≤ i) : OnlyS S a c :=
  ⟨k.os.trans h.os, k.tape.trans h.tape, k.output.trans h.output, Nat.le_trans h.size k.size, fun i hi hn => (k.block i (Nat.lt_of_lt_of_le hi h.size) (fun ht => by
    rcases hT i ht with h' | h'
    · exact hn h'
    · omega)).trans (h.block i hi hn)⟩
theorem mono {S T : Nat → Prop} {a b : World} (h : OnlyS S a b) (hT : ∀ i, i < a.heap.size → S i → T i) : OnlyS T a b :=
  ⟨h.os, h.tape, h.output, h.size, fun i hi hn => h.block i hi (fun hs => hn (hT i hi hs))⟩
theorem of_below {S : Nat → Prop} {a b : World} (h : Below a.heap.size a b) : OnlyS S a b := ⟨h.os, h.tape, h.output, h.size, fun i hi _ => h.block i hi⟩
theorem setCell {S : Nat → Prop} (w : World) (g o : Nat) (v : Value) (hg : S g) : OnlyS S w (w.setCell ⟨g, o, none⟩ v) :=
  ⟨rfl, rfl, rfl, by simp [World.setCell], fun k _ hne => heap_setCell_other _ _ _ _ (fun e => hne (by simpa [e] using hg))⟩
theorem alloc {S : Nat → Prop} (w : World) (o : Obj) : OnlyS S w (w.alloc o) := of_below ((Below.refl _ _).alloc (Nat.le_refl _) _)
theorem drew {S : Nat → Prop} (w : World) : OnlyS S w w.drew := ⟨rfl, rfl, rfl, Nat.le_refl _, fun _ _ _ => rfl⟩
theorem grown {S : Nat → Prop} {w w' : World} {r : Option Nat} (h : w.grownBy w' r) (hr : ∀ k, r = some k → S k) : OnlyS S w w' :=
  ⟨h.os, h.tape, h.output, h.size, fun k hk hne => h.block k hk (fun e => hne (hr k e.symm))⟩
theorem below {S : Nat → Prop} {w w' : World} {B : Nat} (h : OnlyS S w w') (hB : B ≤ w.heap.size) (hS : ∀ k, S k → B ≤ k) : Below B w w' :=
  ⟨h.os, h.tape, h.output, h.size, fun k hk => h.block k (by omega) (fun hs => by have := hS k hs; omega)⟩
theorem cell {S : Nat → Prop} {w w' : World} (h : OnlyS S w w') {a : Addr} {v : Value} (hc : w.cell? a = some v) (hne : ¬ S a.block) : w'.cell? a = some v := by
  rw [World.cell?_of_block (w := w) (h.block a.block (block_lt_of_cell hc) hne)]; exact hc
end OnlyS
theorem RowAt.only {S : Nat → Prop} {w w' : World} {g o : Nat} {vs : List Value} (h : RowAt w g o vs) (ho : OnlyS S w w') (hg : ¬ S g) : RowAt w' g o vs := fun i v hi => ho.cell (h i v hi) hg
end Go.Proofs.YtefeilgbofphjaaDoor
/-
  The plain mathematics of canonical codes: how lengths are, first codes, what is read.
-/
namespace Hf

/-- How many of length n (0: none counted). -/
def ct (zs : List Int) (n : Nat) : Nat := if n = 0 then 0 else zs.count (n : Int)
/-- The first code of a length. -/
def F (zs : List Int) : Nat → Nat
  | 0 => 0
  | n + 1 => 2 * (F zs n + ct zs n)
/-- What comes behind the last code of a length. -/
def K (zs : List Int) (n : Nat) : Nat := F zs n + ct zs n
theorem F_succ (zs : List Int) (n : Nat) : F zs (n + 1) = 2 * K zs n := rfl
theorem F_zero (zs : List Int) : F zs 0 = 0 := rfl
theorem K_zero (zs : List Int) : K zs 0 = 0 := rfl
theorem F_one (zs : List Int) : F zs 1 = 0 := rfl
theorem ct_le (zs : List Int) (n : Nat) : ct zs n ≤ zs.length := by
  unfold ct; split
  · omega
  · exact List.count_le_length
theorem K_le (zs : List Int) (n : Nat) : K zs n + zs.length ≤ 2 ^ n * zs.length := by
  induction n with
  | zero => simp [K_zero]
  | succ n ih =>
    have := ct_le zs (n + 1)
    have e : 2 ^ (n + 1) * zs.length = 2 * (2 ^ n * zs.length) := by rw [Nat.pow_succ]; simp [Nat.mul_comm, Nat.mul_left_comm]
    unfold K; rw [F_succ]; omega
theorem K_lt (zs : List Int) (n : Nat) (hn : n ≤ 15) (hl : zs.length ≤ 1024) : K zs n ≤ 33554432 := by
  have h := K_le zs n
  have h2 : 2 ^ n * zs.length ≤ 2 ^ 15 * 1024 := Nat.mul_le_mul (Nat.pow_le_pow_right (by decide) hn) hl
  have : (2 : Nat) ^ 15 * 1024 = 33554432 := by decide
  omega
/-- All that have a code, in parts of 2 to -15. -/
def kr (zs : List Int) : Nat := K zs 15
def st (zs : List Int) : Int := if kr zs < 32768 then -1 else if 32768 < kr zs then 1 else 0
/-- Lengths that may be. -/
def good (zs : List Int) : Prop := zs.length ≤ 1024 ∧ ∀ z ∈ zs, 0 ≤ z ∧ z ≤ 15
instance (zs : List Int) : Decidable (good zs) := by unfold good; infer_instance

/-- A symbol's code. -/
def code (zs : List Int) (i : Nat) : Nat := if 0 < zs.getD i 0 then F zs (zs.getD i 0).toNat + ct (zs.take i) (zs.getD i 0).toNat else 0
def codes (zs : List Int) : List Nat := (List.range zs.length).map (code zs)
theorem codes_length (zs : List Int) : (codes zs).length = zs.length := by simp [codes]
theorem codes_getD (zs : List Int) (i : Nat) (hi : i < zs.length) : (codes zs).getD i 0 = code zs i := by simp [codes, hi]

/-- The symbols of a length, in their order. -/
def places (zs : List Int) (n : Nat) : List Nat := (List.range zs.length).filter fun i => zs.getD i 0 == (n : Int)
theorem count_take_succ (zs : List Int) (i : Nat) (hi : i < zs.length) (z : Int) : (zs.take (i + 1)).count z = (zs.take i).count z + (if zs.getD i 0 == z then 1 else 0) := by
  have e : zs.getD i 0 = zs[i] := by simp [hi]
  rw [List.take_add_one, List.getElem?_eq_getElem hi, List.count_append, e, Option.toList_some, List.count_singleton]
theorem ct_take_succ (zs : List Int) (i : Nat) (hi : i < zs.length) (n : Nat) (hn : 0 < n) : ct (zs.take (i + 1)) n = ct (zs.take i) n + (if zs.getD i 0 = (n : Int) then 1 else 0) := by
  unfold ct
  rw [if_neg (by omega), if_neg (by omega), count_take_succ zs i hi]
  simp
/-- The symbols of a length among the first k. -/
def placesTo (zs : List Int) (n k : Nat) : List Nat := (List.range k).filter fun i => zs.getD i 0 == (n : Int)
theorem placesTo_all (zs : List Int) (n : Nat) : placesTo zs n zs.length = places zs n := rfl
theorem placesTo_succ (zs : List Int) (n k : Nat) : placesTo zs n (k + 1) = placesTo zs n k ++ (if zs.getD k 0 = (n : Int) then [k] else []) := by
  unfold placesTo
  rw [List.range_succ, List.filter_append]
  by_cases h : zs.getD k 0 = (n : Int) <;> simp_all
theorem placesTo_length (zs : List Int) (n k : Nat) (hn : 0 < n) (hk : k ≤ zs.length) : (placesTo zs n k).length = ct (zs.take k) n := by
  induction k with
  | zero => simp [placesTo, ct]
  | succ k ih =>
    rw [placesTo_succ, List.length_append, ih (by omega), ct_take_succ zs k (by omega) n hn]
    split <;> rfl
theorem places_length (zs : List Int) (n : Nat) (hn : 0 < n) : (places zs n).length = ct zs n := by
  rw [← placesTo_all, placesTo_length zs n _ hn (Nat.le_refl _), List.take_length]
/-- The symbol at a place among those of its length. -/
theorem placesTo_at (zs : List Int) (n k s : Nat) (hn : 0 < n) (hk : k ≤ zs.length) (j : Nat) (h : (placesTo zs n k)[j]? = some s) : s < k ∧ zs.getD s 0 = (n : Int) ∧ ct (zs.take s) n = j := by
  induction k with
  | zero => simp [placesTo] at h
  | succ k ih =>
    rw [placesTo_succ] at h
    have hl := placesTo_length zs n k hn (by omega)
    rcases Nat.lt_or_ge j (placesTo zs n k).length with hj | hj
    · rw [List.getElem?_append_left hj] at h
      have := ih (by omega) h
      exact ⟨by omega, this.2⟩
    · rw [List.getElem?_append_right hj] at h
      split at h
      · rename_i he
        rcases Nat.lt_or_ge (j - (placesTo zs n k).length) 1 with h1 | h1
        · have e0 : j - (placesTo zs n k).length = 0 := by omega
          rw [e0] at h
          simp at h
          subst h
          exact ⟨by omega, he, by omega⟩
        · rw [List.getElem?_eq_none (by simpa using h1)] at h; cases h
      · simp at h
theorem placesTo_of (zs : List Int) (n k s : Nat) (hn : 0 < n) (hk : k ≤ zs.length) (hs : s < k) (he : zs.getD s 0 = (n : Int)) : (placesTo zs n k)[ct (zs.take s) n]? = some s := by
  induction k with
  | zero => omega
  | succ k ih =>
    rw [placesTo_succ]
    rcases Nat.lt_or_ge s k with h | h
    · have := ih (by omega) h
      have hj := (List.getElem?_eq_some_iff.1 this).1
      rw [List.getElem?_append_left hj]; exact this
    · obtain rfl : s = k := by omega
      rw [List.getElem?_append_right (by rw [placesTo_length zs n s hn (by omega)]; omega), if_pos he, placesTo_length zs n s hn (by omega)]
      simp
/-- The symbol of a length whose code it is. -/
def sym (zs : List Int) (n c : Nat) : Option Nat := if F zs n ≤ c then (places zs n)[c - F zs n]? else none
theorem sym_some (zs : List Int) (n c s : Nat) (hn : 0 < n) : sym zs n c = some s ↔ s < zs.length ∧ zs.getD s 0 = (n : Int) ∧ code zs s = c := by
  unfold sym
  constructor
  · intro h
    split at h
    · rename_i hle
      have := placesTo_at zs n zs.length s hn (Nat.le_refl _) _ h
      refine ⟨this.1, this.2.1, ?_⟩
      unfold code
      rw [this.2.1, if_pos (by omega), Int.toNat_natCast, this.2.2]; omega
    · cases h
  · rintro ⟨h1, h2, h3⟩
    unfold code at h3
    rw [h2, if_pos (by omega), Int.toNat_natCast] at h3
    rw [if_pos (by omega)]
    have := placesTo_of zs n zs.length s hn (Nat.le_refl _) h1 h2
    rw [placesTo_all] at this
    rw [show c - F zs n = ct (zs.take s) n by omega]; exact this
theorem sym_none (zs : List Int) (n c : Nat) (hn : 0 < n) (h : F zs n ≤ c) : sym zs n c = none ↔ K zs n ≤ c := by
  unfold sym K
  rw [if_pos h, List.getElem?_eq_none_iff, places_length zs n hn]; omega
/-- A code is read, bit by bit, of so many bits at most. -/
def rd (zs : List Int) : Nat → Nat → Nat → List Bool → Nat × Int × Nat
  | 0, n, _, _ => (0, 20, n)
  | _ + 1, n, _, [] => (0, 4, n)
  | fuel + 1, n, c, b :: bs =>
    match sym zs (n + 1) (2 * c + b.toNat) with
    | some s => (s, 0, n + 1)
    | none => rd zs fuel (n + 1) (2 * c + b.toNat) bs
/-- The most bits that a book takes. -/
def deep (zs : List Int) : Nat := (zs.foldl max 1).toNat
/-- Are there no symbols, or just one, of length 1? -/
def lone (zs : List Int) : Bool := decide (zs.length - zs.count 0 ≤ 1) && decide (zs.length - zs.count 0 = zs.count 1)
def may (zs : List Int) : Int := if good zs then (if st zs = 0 ∨ lone zs = true then 0 else 20) else 1
end Hf
/-
  The plain mathematics of expanding: streams of blocks, as the program reads them.
-/
namespace Inf
open Hf

/-- The number of a row of bits, the lowest first. -/
def val : List Bool → Nat
  | [] => 0
  | b :: t => b.toNat + 2 * val t
theorem val_lt : ∀ r : List Bool, val r < 2 ^ r.length
  | [] => by simp [val]
  | b :: t => by
    have := val_lt t
    have hb : b.toNat < 2 := by cases b <;> decide
    rw [val, List.length_cons, Nat.pow_succ]; omega
theorem val_snoc (r : List Bool) (b : Bool) : val (r ++ [b]) = val r + b.toNat * 2 ^ r.length := by
  induction r with
  | nil => simp [val]
  | cons a t ih =>
    rw [List.cons_append, val, ih, val, List.length_cons, Nat.pow_succ, Nat.mul_add, Nat.mul_left_comm 2 b.toNat, Nat.mul_comm 2 (2 ^ t.length)]
    omega
/-- What goes wrong, or what is read and what is left. -/
abbrev Res (α : Type) := Except Int (α × List Bool)
def numb (n : Nat) (r : List Bool) : Res Nat := if n ≤ r.length then .ok (val (r.take n), r.drop n) else .error 4
def symb (zs : List Int) (r : List Bool) : Res Nat :=
  if (rd zs (deep zs) 0 0 r).2.1 = 0 then .ok ((rd zs (deep zs) 0 0 r).1, r.drop (rd zs (deep zs) 0 0 r).2.2) else .error (rd zs (deep zs) 0 0 r).2.1
def scal (g s : Nat) (r : List Bool) : Res Nat :=
  if s < g then .ok (s, r) else
  match numb (s / g - 1) r with
  | .ok (x, r) => .ok ((g + s % g) * 2 ^ (s / g - 1) + x, r)
  | .error e => .error e
def long (s : Nat) (r : List Bool) : Res Nat :=
  if 285 < s then .error 20 else if s = 285 then .ok (258, r) else
  match scal 4 (s - 257) r with
  | .ok (x, r) => .ok (3 + x, r)
  | .error e => .error e
def far (ds : List Int) (r : List Bool) : Res Nat :=
  match symb ds r with
  | .ok (s, r) => if 29 < s then .error 20 else
    match scal 2 s r with
    | .ok (x, r) => .ok (1 + x, r)
    | .error e => .error e
  | .error e => .error e
/-- Copied byte by byte. -/
def copy (out : List UInt8) (d : Nat) : Nat → List UInt8
  | 0 => out
  | n + 1 => copy (out ++ [out.getD (out.length - d) 0]) d n
theorem copy_length (d : Nat) : ∀ n (out : List UInt8), (copy out d n).length = out.length + n
  | 0, out => rfl
  | n + 1, out => by rw [copy, copy_length d n]; simp; omega
theorem copy_last (d : Nat) : ∀ n (out : List UInt8), copy out d (n + 1) = copy out d n ++ [(copy out d n).getD ((copy out d n).length - d) 0]
  | 0, out => rfl
  | n + 1, out => by rw [copy, copy_last d n]; rfl
def back (ds : List Int) (most n : Nat) (out : List UInt8) (r : List Bool) : Res (List UInt8) :=
  match far ds r with
  | .ok (d, r) => if out.length < d then .error 20 else if most - out.length < n then .error 22 else .ok (copy out d n, r)
  | .error e => .error e
/-- What stands in a block that has codes. -/
def body (zs ds : List Int) (most : Nat) : Nat → List UInt8 → List Bool → Res (List UInt8)
  | 0, _, _ => .error 0
  | f + 1, out, r =>
    match symb zs r with
    | .ok (s, r) =>
      if s < 256 then (if most - out.length < 1 then .error 22 else body zs ds most f (out ++ [UInt8.ofNat s]) r)
      else if s = 256 then .ok (out, r) else
      match long s r with
      | .ok (n, r) =>
        match back ds most n out r with
        | .ok (out, r) => body zs ds most f out r
        | .error e => .error e
      | .error e => .error e
    | .error e => .error e
/-- Bytes out of bits. -/
def byts : Nat → List Bool → List UInt8
  | 0, _ => []
  | n + 1, r => UInt8.ofNat (val (r.take 8)) :: byts n (r.drop 8)
theorem byts_length : ∀ n r, (byts n r).length = n
  | 0, _ => rfl
  | n + 1, r => by rw [byts, List.length_cons, byts_length]
theorem byts_add : ∀ m n r, byts (m + n) r = byts m r ++ byts n (r.drop (8 * m))
  | 0, n, r => by simp [byts]
  | m + 1, n, r => by
    rw [show m + 1 + n = (m + n) + 1 by omega, byts, byts, byts_add m n, List.drop_drop, List.cons_append, show 8 + 8 * m = 8 * (m + 1) by omega]
def take (most n : Nat) (out : List UInt8) (r : List Bool) : Res (List UInt8) :=
  if most - out.length < min n (r.length / 8) then .error 22 else if r.length / 8 < n then .error 4 else .ok (out ++ byts n r, r.drop (8 * n))
def stored (most : Nat) (out : List UInt8) (r : List Bool) : Res (List UInt8) :=
  match numb 16 (r.drop (r.length % 8)) with
  | .ok (n, r) =>
    match numb 16 r with
    | .ok (m, r) => if m ≠ 65535 - n then .error 20 else take most n out r
    | .error e => .error e
  | .error e => .error e
/-- A book: what huff.New tells of lengths. -/
def book (zs : List Int) : Except Int Unit := if may zs = 0 then .ok () else .error (may zs)
def fixS : List Int := List.replicate 144 8 ++ List.replicate 112 9 ++ List.replicate 24 7 ++ List.replicate 8 8
def fixD : List Int := List.replicate 32 5
def order : List Nat := [16, 17, 18, 0, 8, 7, 9, 6, 10, 5, 11, 4, 12, 3, 13, 2, 14, 1, 15]
/-- The lengths of the signs' own codes: so many of them stand here, the first k are read. -/
def teller : Nat → List Int → Nat → List Bool → Res (List Int)
  | 0, lens, _, r => .ok (lens, r)
  | n + 1, lens, k, r =>
    match numb 3 r with
    | .ok (x, r) => teller n (lens.set (order.getD k 0) (x : Int)) (k + 1) r
    | .error e => .error e
/-- The next length, and how often it stands. -/
def run (zs : List Int) (ahead : List Int) (r : List Bool) : Res (Int × Nat) :=
  match symb zs r with
  | .ok (s, r) =>
    if s = 16 then
      match numb 2 r with
      | .ok (x, r) => if ahead.length = 0 then .error 20 else .ok ((ahead.getD (ahead.length - 1) 0, 3 + x), r)
      | .error e => .error e
    else if s = 17 then
      match numb 3 r with
      | .ok (x, r) => .ok ((0, 3 + x), r)
      | .error e => .error e
    else if s = 18 then
      match numb 7 r with
      | .ok (x, r) => .ok ((0, 11 + x), r)
      | .error e => .error e
    else .ok (((s : Int), 1), r)
  | .error e => .error e
/-- So many lengths. -/
def lens (zs : List Int) (many : Nat) : Nat → List Int → List Bool → Res (List Int)
  | 0, _, _ => .error 0
  | f + 1, ahead, r =>
    if ahead.length < many then
      match run zs ahead r with
      | .ok ((z, t), r) => lens zs many f (ahead ++ List.replicate t z) r
      | .error e => .error e
    else if many < ahead.length then .error 20 else .ok (ahead, r)
/-- The books of a dynamic block. -/
def heads (r : List Bool) : Res (List Int × List Int) :=
  match numb 5 r with
  | .ok (l, r) =>
    match numb 5 r with
    | .ok (d, r) =>
      match numb 4 r with
      | .ok (c, r) =>
        if 286 < 257 + l ∨ 30 < 1 + d then .error 20 else
        match teller (4 + c) (List.replicate 19 0) 0 r with
        | .ok (zs, r) =>
          match book zs with
          | .ok _ =>
            match lens zs (257 + l + (1 + d)) (257 + l + (1 + d) + 1) [] r with
            | .ok (all, r) =>
              if all.getD 256 0 = 0 then .error 20 else
              match book (all.take (257 + l)) with
              | .ok _ =>
                match book (all.drop (257 + l)) with
                | .ok _ => .ok ((all.take (257 + l), all.drop (257 + l)), r)
                | .error e => .error e
              | .error e => .error e
            | .error e => .error e
          | .error e => .error e
        | .error e => .error e
      | .error e => .error e
    | .error e => .error e
  | .error e => .error e
structure Blk where
  kind : Nat
  last : Bool
  from_ : Nat
  to : Nat
deriving DecidableEq
/-- A block. -/
def block (most : Nat) (out : List UInt8) (r : List Bool) : Res (Blk × List UInt8) :=
  match numb 1 r with
  | .ok (l, r) =>
    match numb 2 r with
    | .ok (k, r) =>
      match (if k = 0 then stored most out r else if k = 1 then body fixS fixD most (r.length + 1) out r else if k = 2 then
          (match heads r with
          | .ok ((zs, ds), r) => body zs ds most (r.length + 1) out r
          | .error e => .error e)
        else (.error 20 : Res (List UInt8))) with
      | .ok (out2, r) => .ok (({ kind := k, last := decide (l = 1), from_ := out.length, to := out2.length }, out2), r)
      | .error e => .error e
    | .error e => .error e
  | .error e => .error e
def blocks (most : Nat) : Nat → List Blk → List UInt8 → List Bool → Res (List Blk × List UInt8)
  | 0, _, _, _ => .error 0
  | f + 1, ks, out, r =>
    match block most out r with
    | .ok ((k, out), r) => if k.last then .ok ((ks ++ [k], out), r) else blocks most f (ks ++ [k]) out r
    | .error e => .error e
/-- The bits of bytes. -/
def bit8 (x : UInt8) : List Bool := (List.range 8).map fun k => x.toNat.testBit k
def bits (b : List UInt8) : List Bool := b.flatMap bit8
def all (b : List UInt8) (most : Nat) : Res (List Blk × List UInt8) := blocks most (8 * b.length + 1) [] [] (bits b)
end Inf
/-
  Bytes in memory; bytes.Clone; must, refuse.
-/
namespace Go.Proofs.YtefeilgbofphjaaDoor
open Go.RowKit Go.Maps

/-- Bytes, as cells. -/
def bi (b : UInt8) : Int := (b.toNat : Int)
def bl (l : List UInt8) : List Value := l.map fun x => Value.int .u8 (bi x)
@[simp] theorem bl_length (l : List UInt8) : (bl l).length = l.length := by simp [bl]
theorem bl_take (l : List UInt8) (k : Nat) : (bl l).take k = bl (l.take k) := by simp [bl, List.map_take]
theorem bl_drop (l : List UInt8) (k : Nat) : (bl l).drop k = bl (l.drop k) := by simp [bl, List.map_drop]
theorem bl_append (a b : List UInt8) : bl (a ++ b) = bl a ++ bl b := by simp [bl]
theorem bl_one (l : List UInt8) : ∀ v ∈ bl l, v.oneCell' = true := by
  intro v hv; simp [bl] at hv; obtain ⟨x, _, rfl⟩ := hv; rfl
theorem RowAt.bl {w : World} {g o : Nat} {l : List UInt8} (h : RowAt w g o (bl l)) (i : Nat) (hi : i < l.length) : w.cell? ⟨g, o + i, none⟩ = some (.int .u8 (bi (l.getD i 0))) := by
  refine h i _ ?_
  simp [YtefeilgbofphjaaDoor.bl, hi]
theorem bi_lt (b : UInt8) : 0 ≤ bi b ∧ bi b < 256 := by
  have := b.toNat_lt
  unfold bi; omega
theorem bi_inj {a b : UInt8} : bi a = bi b ↔ a = b := by
  unfold bi
  constructor
  · intro h; exact UInt8.toNat_inj.1 (by omega)
  · intro h; rw [h]
theorem info5 : (Tryd.prog.info? 5).map (fun i => (i.zero, i.size, i.bytes)) = some (some (.int .u8 0), 1, 1) := by kernel_rfl
def ClonePost (bs : List UInt8) (w : World) (e : Ending) (w' : World) : Prop := ∃ v', e = .returned v' ∧ w'.ownsRow w.heap.size 5 1 v' bs.length (bl bs) ∧ Below w.heap.size w w'
set_option maxRecDepth 100000 in
set_option maxHeartbeats 400000 in
/-- bytes.Clone, not of nil. -/
theorem clone_some (w : World) (a : Addr) (n cap : Nat) (bs : List UInt8) (hs : SlV w (.slice (some a) n cap) (bl bs)) (hlen : bs.length ≤ 1099511627776) :
    Calls Tryd.prog 75 #[.slice (some a) n cap] w (ClonePost bs w) := by
  have q22 : ∀ (w : World) (a : Option Addr) (n c n' c' : Nat), (binOp .eql 23 (.slice a n c) (.slice none n' c')).run Tryd.prog w = .ok (.bool a.isNone) w := fun w a n c n' c' => Lib.run_eql_slice_nil w _ _ a n c n' c' Tryd.underlying23
  have u22 : ∀ w, Sem.run Tryd.prog (underlying 23) w = .ok (TypeDesc.slice 5) w := run_underlying Tryd.underlying23
  obtain ⟨i0, hi, hz0, hz1, hz2⟩ := info_parts info5
  have z5 : ∀ w, Sem.run Tryd.prog (Go.sizeOf 5) w = .ok 1 w := fun w => by simp [Go.sizeOf, typeInfo, hi, hz1]
  have HI0 := Lib.hid (And.intro hi (And.intro hz0 (And.intro hz1 hz2)))
  have HS : Hid (SlK 1 (w.alloc (.cells #[] 5)) (.slice (some a) n cap) bs.length (bl bs)) := Lib.hid (by
    have h := (hs.below ((Below.refl w.heap.size w).alloc (Nat.le_refl _) (.cells #[] 5)) (Nat.le_refl _)).toK
    rw [bl_length] at h
    exact h)
  have HL := Lib.hid hlen
  have HO : Hid ((w.alloc (.cells #[] 5)).ownsRow w.heap.size 5 1 (.slice (some ⟨w.heap.size, 0, none⟩) 0 0) 0 []) := Lib.hid (World.ownsRow_made w #[] 0 (Nat.le_refl _) (Nat.zero_le _) rfl)
  clear hs hlen hi hz0 hz1 hz2
  go_enter Tryd.func75, Tryd.ntmps75
  go_wp2_with (refine wpList_appK 23 5 i0 (.int .u8 0) 1 1 Tryd.underlying23 HI0.out.1 HI0.out.2.1 HI0.out.2.2.1 HI0.out.2.2.2 rfl (by decide) (by decide) rfl (.tmp 5) (.tmp 6) rfl w.heap.size (.slice (some ⟨w.heap.size, 0, none⟩) 0 0) (.slice (some a) n cap) 0 bs.length [] (bl bs) rfl rfl (bl_one bs) HO.out HS.out (by simp) (by have := HL.out; omega) ?_; intro v' w1 hown hgrow _)
  go_ret
  rw [Nat.zero_add, List.nil_append] at hown
  exact ⟨v', rfl, hown, ((Below.refl _ w).alloc (Nat.le_refl _) _).grown hgrow (by simp) (by intro k hk; simp [Value.ownBlock] at hk; omega)⟩
set_option maxHeartbeats 400000 in
theorem clone_nil (w : World) (n cap : Nat) :
    Calls Tryd.prog 75 #[.slice none n cap] w fun e w' => e = .returned (.slice none 0 0) ∧ w = w' := by
  have q22 : ∀ (w : World) (a : Option Addr) (n c n' c' : Nat), (binOp .eql 23 (.slice a n c) (.slice none n' c')).run Tryd.prog w = .ok (.bool a.isNone) w := fun w a n c n' c' => Lib.run_eql_slice_nil w _ _ a n c n' c' Tryd.underlying23
  go_enter Tryd.func75, Tryd.ntmps75
  go_wp2_with fail
  go_ret
  exact ⟨rfl, rfl⟩
theorem clone_walk (w : World) (v : Value) (bs : List UInt8) (hs : SlV w v (bl bs)) (hlen : bs.length ≤ 1099511627776) : Calls Tryd.prog 75 #[v] w (ClonePost bs w) := by
  have hs0 := hs
  rcases hs with ⟨g, o, cap, rfl, h2, hB⟩ | ⟨p, rfl, h0⟩
  · exact clone_some w _ _ _ bs hs0 hlen
  · obtain rfl : bs = [] := by cases bs with | nil => rfl | cons _ _ => simp [bl] at h0
    cases p with
    | some a => exact clone_some w _ _ _ [] hs0 hlen
    | none => exact (clone_nil w 0 0).mono fun e w' ⟨he, hw⟩ => hw ▸ ⟨_, he, World.ownsRow_nil _ _ _ _, Below.refl _ _⟩
/-- Given up for an error. -/
abbrev pan (er : Int) : Ending := .panicked [{ v := .iface 26 (.int .i64 er), recovered := false }]
set_option maxHeartbeats 400000 in
theorem must_ok (w : World) : Calls Tryd.prog 59 #[.int .i64 0] w fun e w' => e = .returned (.tuple #[]) ∧ w' = w := by
  go_enter Tryd.func59, Tryd.ntmps59
  go_wp2_with fail
  go_end0
  exact ⟨rfl, rfl⟩
set_option maxHeartbeats 400000 in
theorem must_no (w : World) (er : Int) (h : er ≠ 0) : Calls Tryd.prog 59 #[.int .i64 er] w fun e w' => e = pan er ∧ w' = w := by
  have h1 : (er != 0) = true := by simpa using h
  go_enter Tryd.func59, Tryd.ntmps59
  go_wp2_with fail
  exact ⟨rfl, rfl, rfl⟩
set_option maxHeartbeats 400000 in
theorem refuse_no (w : World) (er : Int) : Calls Tryd.prog 61 #[.bool false, .int .i64 er] w fun e w' => e = .returned (.tuple #[]) ∧ w' = w := by
  go_enter Tryd.func61, Tryd.ntmps61
  go_wp2_with fail
  go_end0
  exact ⟨rfl, rfl⟩
set_option maxHeartbeats 400000 in
theorem refuse_yes (w : World) (er : Int) : Calls Tryd.prog 61 #[.bool true, .int .i64 er] w fun e w' => e = pan er ∧ w' = w := by
  go_enter Tryd.func61, Tryd.ntmps61
  go_wp2_with fail
  exact ⟨rfl, rfl, rfl⟩
end Go.Proofs.YtefeilgbofphjaaDoor
/-
  Contracts of bits.Reader's calls.
-/
namespace Go.Proofs.YtefeilgbofphjaaDoor
open Go.RowKit
/-- A part of a slice. -/
theorem cut23 {w : World} {p : Option Addr} {n cap : Nat} {vs : List Value} (h : SlV w (.slice p n cap) vs) (i j : Nat) (hij : i ≤ j) (hj : j ≤ n) :
    ∃ p', (∀ w', (Instr.sliceAt 23 (.slice p n cap) (some (.int .i64 (i : Int))) (some (.int .i64 (j : Int))) none).run Tryd.prog w' = .ok (.slice p' (j - i) (cap - i)) w') ∧ SlV w (.slice p' (j - i) (cap - i)) ((vs.drop i).take (j - i)) ∧ ∀ b, p' = some b → ∃ a, p = some a ∧ a.block = b.block := by
  rcases h with ⟨g, o, cap', h, h2, hB⟩ | ⟨p', h, rfl⟩
  · cases h
    have hl : ((vs.drop i).take (j - i)).length = j - i := by simp; omega
    have h1 : (0 : Int) ≤ (i : Int) := by omega
    have h3 : (i : Int) ≤ (j : Int) := by omega
    have h4 : (j : Int) ≤ (cap : Int) := by omega
    by_cases hck : cap = i
    · have hji : j = i := by omega
      subst hck
      subst hji
      refine ⟨some ⟨g, o, none⟩, fun w' => ?_, .inr ⟨some ⟨g, o, none⟩, by simp, by simp⟩, fun b hb => ⟨_, rfl, by cases hb; rfl⟩⟩
      go_simp
    · refine ⟨some ⟨g, o + i, none⟩, fun w' => ?_, .inl ⟨g, o + i, cap - i, by rw [hl], by rw [hl]; omega, (hB.drop i).take _⟩, fun b hb => ⟨_, rfl, by cases hb; rfl⟩⟩
      go_simp
  · have h0 : n = 0 ∧ cap = 0 ∧ p' = p := by cases h; exact ⟨rfl, rfl, rfl⟩
    obtain ⟨rfl, rfl, rfl⟩ := h0
    obtain rfl : j = 0 := by omega
    obtain rfl : i = 0 := by omega
    refine ⟨p', fun w' => ?_, .inr ⟨p', rfl, by simp⟩, fun b hb => ⟨b, hb, rfl⟩⟩
    show (Instr.sliceAt 23 (.slice p' 0 0) (some (.int .i64 0)) (some (.int .i64 0)) none).run Tryd.prog w' = .ok (.slice p' 0 0) w'
    cases p' with
    | none => kernel_rfl
    | some a => kernel_rfl
theorem from23 {w : World} {p : Option Addr} {n cap : Nat} {vs : List Value} (h : SlV w (.slice p n cap) vs) (i : Nat) (hj : i ≤ n) :
    ∃ p', (∀ w', (Instr.sliceAt 23 (.slice p n cap) (some (.int .i64 (i : Int))) none none).run Tryd.prog w' = .ok (.slice p' (n - i) (cap - i)) w') ∧ SlV w (.slice p' (n - i) (cap - i)) (vs.drop i) ∧ ∀ b, p' = some b → ∃ a, p = some a ∧ a.block = b.block := by
  rcases h with ⟨g, o, cap', h, h2, hB⟩ | ⟨p', h, rfl⟩
  · cases h
    have hl : (vs.drop i).length = vs.length - i := by simp
    have h1 : (0 : Int) ≤ (i : Int) := by omega
    have h3 : (i : Int) ≤ (vs.length : Int) := by omega
    have h4 : (vs.length : Int) ≤ (cap : Int) := by omega
    by_cases hck : cap = i
    · have hji : vs.length = i := by omega
      have hz : vs.length - i = 0 := by omega
      have hd : vs.drop i = [] := List.drop_eq_nil_of_le (by omega)
      have hc : cap - i = 0 := by omega
      rw [hz, hd, hc]
      refine ⟨some ⟨g, o, none⟩, fun w' => ?_, .inr ⟨some ⟨g, o, none⟩, rfl, rfl⟩, fun b hb => ⟨_, rfl, by cases hb; rfl⟩⟩
      subst hck
      rw [hji]
      go_simp
    · refine ⟨some ⟨g, o + i, none⟩, fun w' => ?_, .inl ⟨g, o + i, cap - i, by rw [hl], by rw [hl]; omega, hB.drop i⟩, fun b hb => ⟨_, rfl, by cases hb; rfl⟩⟩
      go_simp
  · have h0 : n = 0 ∧ cap = 0 ∧ p' = p := by cases h; exact ⟨rfl, rfl, rfl⟩
    obtain ⟨rfl, rfl, rfl⟩ := h0
    obtain rfl : i = 0 := by omega
    refine ⟨p', fun w' => ?_, .inr ⟨p', rfl, by simp⟩, fun b hb => ⟨b, hb, rfl⟩⟩
    show (Instr.sliceAt 23 (.slice p' 0 0) (some (.int .i64 0)) none none).run Tryd.prog w' = .ok (.slice p' 0 0) w'
    cases p' with
    | none => kernel_rfl
    | some a => kernel_rfl
theorem to23 {w : World} {p : Option Addr} {n cap : Nat} {vs : List Value} (h : SlV w (.slice p n cap) vs) (k : Nat) (hk : k ≤ n) : ∀ w', (Instr.sliceAt 23 (.slice p n cap) none (some (.int .i64 (k : Int))) none).run Tryd.prog w' = .ok (.slice p k cap) w' := by
  intro w'
  have hc := h.le
  rcases h with ⟨g, o, cap', h, _, _⟩ | ⟨p', h, _⟩
  · have hp : p = some ⟨g, o, none⟩ := by cases h; rfl
    subst hp
    clear h
    have h1 : (0 : Int) ≤ (k : Int) := by omega
    have h2 : (k : Int) ≤ (cap : Int) := by omega
    go_simp
  · have hc : cap = 0 ∧ p = p' ∧ n = 0 := by cases h; exact ⟨rfl, rfl, rfl⟩
    obtain ⟨rfl, rfl, rfl⟩ := hc
    obtain rfl : k = 0 := by omega
    show (Instr.sliceAt 23 (.slice p 0 0) none (some (.int .i64 0)) none).run Tryd.prog w' = .ok (.slice p 0 0) w'
    cases p with
    | none => kernel_rfl
    | some a => kernel_rfl

/-- The world is the same, but for draws. -/
def Same (w w' : World) : Prop := ∃ nq, w' = w.drewN nq
theorem Same.refl (w : World) : Same w w := ⟨0, rfl⟩
theorem Same.below {w w' : World} (h : Same w w') (B : Nat) : Below B w w' := by
  obtain ⟨nq, rfl⟩ := h; exact ⟨rfl, rfl, rfl, Nat.le_refl _, fun _ _ => rfl⟩
theorem Same.heap {w w' : World} (h : Same w w') : w'.heap = w.heap := by obtain ⟨nq, rfl⟩ := h; rfl
theorem Same.only {S : Nat → Prop} {a b : World} (h : Same a b) : OnlyS S a b := OnlyS.of_below (h.below _)
theorem Same.before {S : Nat → Prop} {a b c : World} (h : Same a b) (k : OnlyS S b c) : OnlyS S a c := (h.only).trans k
def QPost (v : Value) (w : World) (e : Ending) (w' : World) : Prop := e = .returned v ∧ Same w w'
theorem slv_heap {w w' : World} {v : Value} {vs : List Value} (h : SlV w v vs) (k : OnlyS (fun _ => False) w w') : SlV w' v vs := by
  rcases h with ⟨g, o, cap, h1, h2, h3⟩ | h
  · exact .inl ⟨g, o, cap, h1, h2, fun i u hi => k.cell (h3 i u hi) (fun h => h)⟩
  · exact .inr h
theorem SlV.only {S : Nat → Prop} {w w' : World} {v : Value} {vs : List Value} (h : SlV w v vs) (ho : OnlyS S w w') (ha : ∀ p n cap, v = .slice (Option.some p) n cap → 0 < n → ¬ S p.block) : SlV w' v vs := by
  rcases h with ⟨g, o, cap, h1, h2, h3⟩ | h
  · refine .inl ⟨g, o, cap, h1, h2, ?_⟩
    intro i u hi
    have h0 : 0 < vs.length := by have := (List.getElem?_eq_some_iff.1 hi).1; omega
    exact ho.cell (h3 i u hi) (ha ⟨g, o, none⟩ _ _ h1 h0)
  · exact .inr h
/-- A reader: its bytes, and how many bits were taken. -/
structure RdAt (w : World) (g : Nat) (v : Value) (bs : List UInt8) (n : Nat) : Prop where
  row : w.heap[g]? = some (.cells #[.bool true, v, .int .i64 (n : Int)] 98 (0, 0))
  sl : SlV w v (bl bs)
  le : n ≤ 8 * bs.length
  small : bs.length ≤ 1099511627776
  apart : ∀ p m cap, v = .slice (some p) m cap → 0 < m → p.block ≠ g
namespace RdAt
variable {w w' : World} {g n : Nat} {v : Value} {bs : List UInt8}
theorem c0 (h : RdAt w g v bs n) : w.cell? ⟨g, 0, none⟩ = some (.bool true) := cell_of_row _ _ _ _ _ _ h.row
theorem c1 (h : RdAt w g v bs n) : w.cell? ⟨g, 1, none⟩ = some v := cell_of_row _ _ _ _ _ _ h.row
theorem c2 (h : RdAt w g v bs n) : w.cell? ⟨g, 2, none⟩ = some (.int .i64 (n : Int)) := cell_of_row _ _ _ _ _ _ h.row
theorem free (h : RdAt w g v bs n) (o : Nat) : w.frozen? ⟨g, o, none⟩ = false := frozen_of_row _ _ _ _ _ h.row
theorem lt (h : RdAt w g v bs n) : g < w.heap.size := (Array.getElem?_eq_some_iff.1 h.row).1
theorem only {S : Nat → Prop} (h : RdAt w g v bs n) (ho : OnlyS S w w') (hg : ¬ S g) (ha : ∀ p n cap, v = .slice (some p) n cap → 0 < n → ¬ S p.block) : RdAt w' g v bs n :=
  ⟨(ho.block g h.lt hg).trans h.row, h.sl.only ho ha, h.le, h.small, h.apart⟩
theorem same (h : RdAt w g v bs n) (hs : Same w w') : RdAt w' g v bs n := h.only (S := fun _ => False) hs.only (fun h => h) (fun _ _ _ _ _ h => h)
theorem set (h : RdAt w g v bs n) (m : Nat) (hm : m ≤ 8 * bs.length) : RdAt (w.setCell ⟨g, 2, none⟩ (.int .i64 (m : Int))) g v bs m :=
  ⟨(heap_setCell_same _ _ _ _ _ _ h.row).trans rfl, h.sl.only (S := (· = g)) (OnlyS.setCell _ _ _ _ rfl) h.apart, hm, h.small, h.apart⟩
end RdAt
set_option maxHeartbeats 400000 in
theorem rusable (w : World) (g : Nat) (b : Bool) (c0 : w.cell? ⟨g, 0, none⟩ = some (.bool b)) :
    Calls Tryd.prog 45 #[.pointer (some ⟨g, 0, none⟩)] w fun e w' => e = .returned (.bool b) ∧ w = w' := by
  go_enter Tryd.func45, Tryd.ntmps45
  go_wp2_with fail
  go_ret
  exact ⟨rfl, rfl⟩
set_option maxRecDepth 100000 in
set_option maxHeartbeats 400000 in
theorem rleft (w : World) (g n : Nat) (v : Value) (bs : List UInt8) (h : RdAt w g v bs n) :
    Calls Tryd.prog 32 #[.pointer (some ⟨g, 0, none⟩)] w (QPost (.int .i64 ((8 * bs.length - n : Nat) : Int)) w) := by
  have HU := Lib.hid (rusable w g true h.c0)
  have c2 := h.c2
  have c1 := h.c1
  have hlen := h.small
  have hn := h.le
  obtain ⟨p, cap, rfl⟩ := h.sl.shape
  rw [bl_length] at *
  have HE : Hid ((bs.length : Int) * 8 - (n : Int) = ((8 * bs.length - n : Nat) : Int)) := Lib.hid (by omega)
  have hi : (n : Int) ≤ 8 * (bs.length : Int) := by omega
  clear h hn
  generalize bs.length = l at *
  go_enter Tryd.func32, Tryd.ntmps32
  go_wp2_with fail
  refine HU.out.mono ?_
  rintro e w' ⟨rfl, rfl⟩
  go_wp2_with fail
  go_quiet (fail)
  go_wp2_with fail
  go_ret
  exact ⟨ret_int HE.out, _, rfl⟩
/-- The bit at a place. -/
def bitAt (bs : List UInt8) (k : Nat) : Bool := (bs.getD (k / 8) 0).toNat.testBit (k % 8)
theorem bit_at (n k : Nat) : n / 2 ^ k % 2 = (n.testBit k).toNat := by
  rw [Nat.testBit_eq_decide_div_mod_eq]
  have : n / 2 ^ k % 2 < 2 := Nat.mod_lt _ (by decide)
  rcases Nat.lt_or_ge (n / 2 ^ k % 2) 1 with h | h
  · rw [show n / 2 ^ k % 2 = 0 by omega]; rfl
  · rw [show n / 2 ^ k % 2 = 1 by omega]; rfl
theorem byte_bit (x : UInt8) (p : Nat) : bits .and .u8 (bi x / 2 ^ p) 1 = (((x.toNat.testBit p).toNat : Nat) : Int) := by
  have e : bi x / 2 ^ p = ((x.toNat / 2 ^ p : Nat) : Int) := by unfold bi; norm_cast
  have h : x.toNat / 2 ^ p < 256 := Nat.lt_of_le_of_lt (Nat.div_le_self _ _) x.toNat_lt
  rw [e, show (1 : Int) = ((1 : Nat) : Int) from rfl, u8_and_nat _ _ h (by decide), Nat.and_one_is_mod, bit_at]
theorem wrap_bit (b : Bool) : IntKind.u64.wrap ((b.toNat : Nat) : Int) = ((b.toNat : Nat) : Int) := by cases b <;> rfl
set_option maxRecDepth 100000 in
set_option maxHeartbeats 400000 in
theorem rbit (w : World) (g n : Nat) (v : Value) (bs : List UInt8) (h : RdAt w g v bs n) (hk : n < 8 * bs.length) :
    Calls Tryd.prog 78 #[.pointer (some ⟨g, 0, none⟩), .int .i64 0] w fun e w' => e = .returned (.int .u64 ((bitAt bs n).toNat : Nat)) ∧ w = w' := by
  have c2 := h.c2
  have c1 := h.c1
  have hlen := h.small
  obtain ⟨p, cap, rfl⟩ := h.sl.shape
  have hcap := h.sl.le
  obtain ⟨b, o, rfl, hrow⟩ := h.sl.some (by rw [bl_length]; omega)
  have hq : n / 8 < bs.length := by omega
  have c3 := hrow.bl _ hq
  rw [bl_length] at *
  have HB := Lib.hid (byte_bit (bs.getD (n / 8) 0) (n % 8))
  have HE : Hid (bitAt bs n = (bs.getD (n / 8) 0).toNat.testBit (n % 8)) := Lib.hid rfl
  have hi1 : (n : Int) / 8 < (bs.length : Int) := by omega
  clear h hrow
  generalize bs.getD (n / 8) 0 = x at *
  generalize bs.length = l at *
  go_enter Tryd.func78, Tryd.ntmps78
  go_wp2_with fail
  go_ret
  exact ⟨ret_int (by rw [HE.out, HB.out, wrap_bit]), rfl⟩
theorem or_zero (b : Bool) : bits .or .u64 0 (IntKind.u64.wrap ((b.toNat : Nat) : Int)) = ((b.toNat : Nat) : Int) := by cases b <;> rfl
set_option maxRecDepth 100000 in
set_option maxHeartbeats 400000 in
theorem rnumber (w : World) (g n : Nat) (v : Value) (bs : List UInt8) (h : RdAt w g v bs n) (hk : n < 8 * bs.length) :
    Calls Tryd.prog 77 #[.int .i64 1, .func (.func 78) #[.pointer (some ⟨g, 0, none⟩)] #[]] w fun e w' => e = .returned (.int .u64 ((bitAt bs n).toNat : Nat)) ∧ w = w' := by
  have HB := Lib.hid (rbit w g n v bs h hk)
  have HO := Lib.hid (or_zero (bitAt bs n))
  clear h hk
  generalize bitAt bs n = b at *
  go_enter Tryd.func77, Tryd.ntmps77
  go_wp2_with fail
  go_loop [5, 6, 8] (fun vn _ v => (v = .int .i64 0 ∧ vn = .int .u64 0) ∨ (v = .int .i64 1 ∧ vn = .int .u64 (b.toNat : Nat))) (fun _ _ v => 1 - (intOf v).toNat)
  case atStart => exact .inl ⟨rfl, rfl⟩
  case round =>
    rcases hrel with ⟨rfl, rfl⟩ | ⟨rfl, rfl⟩
    · go_wp2_with fail
      refine HB.out.mono ?_
      rintro e w' ⟨rfl, rfl⟩
      go_wp2_with fail
      exact ⟨.inr ⟨rfl, by rw [HO.out]⟩, by simp [intOf]⟩
    · go_wp2_with fail
      go_ret
      exact ⟨rfl, rfl⟩
end Go.Proofs.YtefeilgbofphjaaDoor
