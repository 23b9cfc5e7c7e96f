/-
  Merged, in the order in which they build: Mem.
-/
import Derived.Test.YtphdcgioeokfbaaDoorRows
import Derived.WalkKit
import Derived.WalkSpells
import Derived.WalkLawsBesides
import Derived.Deep.QuietTactic
import Derived.BigQuiet
import Derived.StillTailTactics
import Derived.Laws.CopyOwn
import Derived.Lib.Hide
import Derived.Outline
import Derived.Lib.AppendStr
import Derived.Laws.AppendOwnNone
import Derived.Maps.AppendAt
import Derived.Lib.MinMax
import Derived.IntWalk
import Derived.Deep.WholeRow
/-
  Words on memory: slices whose elements take one cell; slices of the call's own; a set of blocks that a call may turn.
-/
namespace Go.Proofs.YtphdcgioeokfbaaDoor
open Go.RowKit

theorem ret_int {k : IntKind} {a b : Int} (h : a = b) : Ending.returned (.int k a) = .returned (.int k b) := by rw [h]
/-- Cells that stand in memory from an address on. -/
def RowAt (w : World) (g o : Nat) (vs : List Value) : Prop := ∀ i v, vs[i]? = some v → w.cell? ⟨g, o + i, none⟩ = some v
/-- A slice value (elements of one cell) reads as these. -/
def SlV (w : World) (v : Value) (vs : List Value) : Prop :=
  (∃ g o cap, v = .slice (some ⟨g, o, none⟩) vs.length cap ∧ vs.length ≤ cap ∧ RowAt w g o vs) ∨ (∃ p, v = .slice p 0 0 ∧ vs = [])
theorem RowAt.at {w : World} {g o : Nat} {vs : List Value} (h : RowAt w g o vs) (i : Nat) (hi : i < vs.length) : w.cell? ⟨g, o + i, none⟩ = some vs[i] := h i _ (List.getElem?_eq_getElem hi)
theorem RowAt.lt {w : World} {g o : Nat} {vs : List Value} (h : RowAt w g o vs) (h0 : 0 < vs.length) : g < w.heap.size :=
  block_lt_of_cell (h.at 0 h0)
theorem RowAt.below {w w' : World} {g o B : Nat} {vs : List Value} (h : RowAt w g o vs) (hb : Below B w w') (hg : g < B) : RowAt w' g o vs :=
  fun i v hi => by rw [hb.cell (p := ⟨g, o + i, none⟩) hg]; exact h i v hi
theorem RowAt.drop {w : World} {g o : Nat} {vs : List Value} (h : RowAt w g o vs) (k : Nat) : RowAt w g (o + k) (vs.drop k) := fun i v hi => by
  rw [List.getElem?_drop] at hi
  rw [Nat.add_assoc]; exact h _ _ hi
theorem RowAt.take {w : World} {g o : Nat} {vs : List Value} (h : RowAt w g o vs) (k : Nat) : RowAt w g o (vs.take k) := fun i v hi => by
  rw [List.getElem?_take] at hi
  split at hi
  · exact h _ _ hi
  · cases hi
theorem SlV.below {w w' : World} {v : Value} {vs : List Value} (h : SlV w v vs) {B : Nat} (hb : Below B w w') (hB : w.heap.size ≤ B) : SlV w' v vs := by
  rcases h with ⟨g, o, cap, h1, h2, h3⟩ | h
  · refine .inl ⟨g, o, cap, h1, h2, ?_⟩
    intro i u hi
    have h0 := h3.lt (by have := (List.getElem?_eq_some_iff.1 hi).1; omega)
    rw [hb.cell (p := ⟨g, o + i, none⟩) (by show g < B; omega)]; exact h3 i u hi
  · exact .inr h
theorem SlV.shape {w : World} {v : Value} {vs : List Value} (h : SlV w v vs) : ∃ p cap, v = .slice p vs.length cap := by
  rcases h with ⟨g, o, cap, h, _⟩ | ⟨p, h, rfl⟩
  · exact ⟨_, _, h⟩
  · exact ⟨_, _, h⟩
theorem SlV.some {w : World} {p : Option Addr} {n cap : Nat} {vs : List Value} (h : SlV w (.slice p n cap) vs) (h0 : 0 < n) : ∃ g o, p = some ⟨g, o, none⟩ ∧ RowAt w g o vs := by
  rcases h with ⟨g, o, cap, h, _, hB⟩ | ⟨p', h, rfl⟩
  · cases h; exact ⟨g, o, rfl, hB⟩
  · cases h; omega
theorem SlV.le {w : World} {p : Option Addr} {n cap : Nat} {vs : List Value} (h : SlV w (.slice p n cap) vs) : n ≤ cap := by
  rcases h with ⟨g, o, cap', h, h2, _⟩ | ⟨p', h, rfl⟩
  · cases h; exact h2
  · cases h; omega
theorem SlV.len {w : World} {p : Option Addr} {n cap : Nat} {vs : List Value} (h : SlV w (.slice p n cap) vs) : vs.length = n := by
  rcases h with ⟨g, o, cap', h, h2, _⟩ | ⟨p', h, rfl⟩
  · cases h; rfl
  · cases h; rfl
theorem SlV.nil (w : World) (p : Option Addr) : SlV w (.slice p 0 0) [] := .inr ⟨p, rfl, rfl⟩
/-- A slice's beginning. -/
theorem SlV.take {w : World} {p : Option Addr} {n cap : Nat} {vs : List Value} (h : SlV w (.slice p n cap) vs) (k : Nat) (hk : k ≤ n) : SlV w (.slice p k cap) (vs.take k) := by
  rcases h with ⟨g, o, cap, h, h2, hB⟩ | ⟨p', h, rfl⟩
  · cases h
    exact .inl ⟨g, o, cap, by rw [List.length_take]; congr 1; omega, by simp; omega, hB.take k⟩
  · cases h
    obtain rfl : k = 0 := by omega
    exact .inr ⟨p, rfl, by simp⟩
/-- Rows of numbers, of bools. -/
def ni (zs : List Int) : List Value := zs.map (Value.int .i64)
def nu (zs : List Nat) : List Value := zs.map fun (z : Nat) => Value.int .u32 (z : Int)
def nb (bs : List Bool) : List Value := bs.map Value.bool
@[simp] theorem ni_length (zs : List Int) : (ni zs).length = zs.length := by simp [ni]
@[simp] theorem nu_length (zs : List Nat) : (nu zs).length = zs.length := by simp [nu]
@[simp] theorem nb_length (zs : List Bool) : (nb zs).length = zs.length := by simp [nb]
theorem ni_take (zs : List Int) (k : Nat) : (ni zs).take k = ni (zs.take k) := by simp [ni, List.map_take]
theorem ni_drop (zs : List Int) (k : Nat) : (ni zs).drop k = ni (zs.drop k) := by simp [ni, List.map_drop]
theorem nb_take (zs : List Bool) (k : Nat) : (nb zs).take k = nb (zs.take k) := by simp [nb, List.map_take]
theorem nb_drop (zs : List Bool) (k : Nat) : (nb zs).drop k = nb (zs.drop k) := by simp [nb, List.map_drop]
theorem ni_append (a b : List Int) : ni (a ++ b) = ni a ++ ni b := by simp [ni]
theorem nu_append (a b : List Nat) : nu (a ++ b) = nu a ++ nu b := by simp [nu]
theorem nb_append (a b : List Bool) : nb (a ++ b) = nb a ++ nb b := by simp [nb]
theorem ni_one (zs : List Int) : ∀ v ∈ ni zs, v.oneCell' = true := by
  intro v hv; simp [ni] at hv; obtain ⟨x, _, rfl⟩ := hv; rfl
theorem nu_one (zs : List Nat) : ∀ v ∈ nu zs, v.oneCell' = true := by
  intro v hv; simp [nu] at hv; obtain ⟨x, _, rfl⟩ := hv; rfl
theorem nb_one (zs : List Bool) : ∀ v ∈ nb zs, v.oneCell' = true := by
  intro v hv; simp [nb] at hv; rcases hv with ⟨_, rfl⟩ | ⟨_, rfl⟩ <;> rfl
theorem RowAt.ni {w : World} {g o : Nat} {zs : List Int} (h : RowAt w g o (ni zs)) (i : Nat) (hi : i < zs.length) : w.cell? ⟨g, o + i, none⟩ = some (.int .i64 (zs.getD i 0)) := by
  refine h i _ ?_
  simp [YtphdcgioeokfbaaDoor.ni, hi]
theorem RowAt.nu {w : World} {g o : Nat} {zs : List Nat} (h : RowAt w g o (nu zs)) (i : Nat) (hi : i < zs.length) : w.cell? ⟨g, o + i, none⟩ = some (.int .u32 ((zs.getD i 0 : Nat) : Int)) := by
  refine h i _ ?_
  simp [YtphdcgioeokfbaaDoor.nu, hi]
theorem RowAt.nb {w : World} {g o : Nat} {zs : List Bool} (h : RowAt w g o (nb zs)) (i : Nat) (hi : i < zs.length) : w.cell? ⟨g, o + i, none⟩ = some (.bool (zs.getD i false)) := by
  refine h i _ ?_
  simp [YtphdcgioeokfbaaDoor.nb, hi]
theorem RowAt.src {w : World} {g o : Nat} {vs : List Value} (h : RowAt w g o vs) : ∀ j v, vs[j]? = some v → w.cell? ((⟨g, o, none⟩ : Addr).add j) = some v := by
  intro j v hj
  have hadd : (⟨g, o, none⟩ : Addr).add j = ⟨g, o + j, none⟩ := by unfold Addr.add; split <;> simp_all
  rw [hadd]; exact h j v hj

theorem info3 : (Tryd.prog.info? 3).map (fun i => (i.zero, i.size, i.bytes)) = some (some (.int .i64 0), 1, 8) := by kernel_rfl
theorem info4 : (Tryd.prog.info? 4).map (fun i => (i.zero, i.size, i.bytes)) = some (some (.bool false), 1, 1) := by kernel_rfl
theorem info132 : (Tryd.prog.info? 132).map (fun i => (i.zero, i.size, i.bytes)) = some (some (.int .u32 0), 1, 4) := by kernel_rfl
theorem own_lt {base : Nat} {e : TypeId} {w : World} {v : Value} {n : Nat} {l : List Value} (h : w.ownsRow base e 1 v n l) : ∀ k, v.ownBlock = some k → base ≤ k ∧ k < w.heap.size := World.ownsRow.lt h
theorem own_le {base B : Nat} {e : TypeId} {w : World} {v : Value} {n : Nat} {l : List Value} (h : w.ownsRow base e 1 v n l) (hB : ∀ k, v.ownBlock = some k → B ≤ k) : w.ownsRow B e 1 v n l := by
  obtain ⟨h0, ⟨h1, h2⟩ | ⟨g, cap, cur, h1, h2, h3⟩⟩ := h
  · exact ⟨h0, .inl ⟨h1, h2⟩⟩
  · exact ⟨h0, .inr ⟨g, cap, cur, h1, hB g (by rw [h1]; rfl), h3⟩⟩
theorem own_toV {base : Nat} {e : TypeId} {w : World} {v : Value} {n : Nat} {l : List Value} (h : w.ownsRow base e 1 v n l) : SlV w v l := by
  obtain ⟨h0, ⟨h1, h2⟩ | ⟨g, cap, cur, h1, h2, h3, h4, h5, h6, h7⟩⟩ := h
  · subst h2
    exact .inr ⟨none, h1, List.eq_nil_of_length_eq_zero (by omega)⟩
  · have hn : l.length = n := by omega
    refine .inl ⟨g, 0, cap, by rw [hn]; exact h1, by omega, fun i u hi => ?_⟩
    rw [Nat.zero_add, cell_of_row _ _ _ _ _ _ h3]
    have hi' := (List.getElem?_eq_some_iff.1 hi).1
    have e : cur.toList[i]? = l[i]? := by
      rw [← h7, List.getElem?_take, if_pos (by omega)]
    rw [← Array.getElem?_toList, e, hi]
theorem own_stays {base : Nat} {e : TypeId} {w w' : World} {v : Value} {n : Nat} {l : List Value} (h : w.ownsRow base e 1 v n l) (hb : ∀ k, v.ownBlock = some k → w'.heap[k]? = w.heap[k]?) : w'.ownsRow base e 1 v n l := by
  obtain ⟨h0, ⟨h1, h2⟩ | ⟨g, cap, cur, h1, h2, h3, h4⟩⟩ := h
  · exact ⟨h0, .inl ⟨h1, h2⟩⟩
  · exact ⟨h0, .inr ⟨g, cap, cur, h1, h2, (hb g (by rw [h1]; rfl)).trans h3, h4⟩⟩
/-- Where it stands, if it has elements. -/
theorem own_spot {base : Nat} {e : TypeId} {w : World} {v : Value} {n : Nat} {l : List Value} (h : w.ownsRow base e 1 v n l) (h0 : 0 < n) : ∃ g cap, v = .slice (some ⟨g, 0, none⟩) n cap ∧ base ≤ g ∧ g < w.heap.size ∧ n ≤ cap ∧ cap ≤ maxLen ∧
    (∀ i u, l[i]? = some u → w.cell? ⟨g, i, none⟩ = some u) ∧ (∀ i, w.frozen? ⟨g, i, none⟩ = false) ∧ ∀ i x, i < n → (w.setCell ⟨g, i, none⟩ x).ownsRow base e 1 v n (l.set i x) := by
  have hW := own_toV h
  obtain ⟨e0, ⟨h1, h2⟩ | ⟨g, cap, cur, rfl, h2, h3, h4, h5, h6, h7⟩⟩ := h
  · omega
  · refine ⟨g, cap, rfl, h2, (Array.getElem?_eq_some_iff.1 h3).1, h4, h5, fun i u hi => ?_, fun i => frozen_of_row _ _ _ _ _ h3, fun i x hi => ?_⟩
    · obtain ⟨g', o', cap', he, _, hB⟩ | ⟨p', he, hb0⟩ := hW
      · cases he
        have := hB i u hi
        rwa [Nat.zero_add] at this
      · rw [hb0] at hi; simp at hi
    · refine ⟨by simpa using e0, .inr ⟨g, cap, cur.setIfInBounds i x, by simp, h2, heap_setCell_same _ _ _ _ _ _ h3, by simpa using h4, h5, by simpa using h6, ?_⟩⟩
      rw [Array.toList_setIfInBounds, List.take_set, h7]

/-- A slice value reads as these cells, m elements of k cells. -/
def SlK (k : Nat) (w : World) (v : Value) (m : Nat) (vs : List Value) : Prop :=
  vs.length = m * k ∧ ((∃ g o cap, v = .slice (some ⟨g, o, none⟩) m cap ∧ m ≤ cap ∧ RowAt w g o vs) ∨ (∃ p, v = .slice p 0 0 ∧ m = 0))
theorem SlV.toK {w : World} {v : Value} {vs : List Value} (h : SlV w v vs) : SlK 1 w v vs.length vs := by
  refine ⟨by omega, ?_⟩
  rcases h with ⟨g, o, cap, h1, h2, h3⟩ | ⟨p, h, rfl⟩
  · exact .inl ⟨g, o, cap, h1, h2, h3⟩
  · exact .inr ⟨p, h, rfl⟩
/-- append of one row of elements to one's own. -/
theorem run_appK (t e : TypeId) (i0 : TypeInfo) (z : Value) (k by0 : Nat) (hu : Tryd.prog.underlying t = some (.slice e)) (hi : Tryd.prog.info? e = some i0) (hz0 : i0.zero = some z) (hz1 : i0.size = k) (hz2 : i0.bytes = by0) (hzc : z.cells.size = k) (hk : 0 < k) (hby : by0 ≤ 64)
    {base : Nat} {w : World} {v src : Value} {l ys : List Value} {n m : Nat} (ty : TypeId) (h1 : ∀ y ∈ ys, y.oneCell' = true) (hown : w.ownsRow base e k v n l) (hsrc : SlK k w src m ys) (hbase : base ≤ w.heap.size) (hsz : n + m ≤ 1099511627776) :
    ∃ v' w', (Builtin.append_ #[t, t] ty #[v, src]).run Tryd.prog w = .ok v' w' ∧ w'.ownsRow base e k v' (n + m) (l ++ ys) ∧ w.grownBy w' v.ownBlock ∧ (v'.ownBlock = v.ownBlock ∨ v'.ownBlock = some w.heap.size) := by
  have hb : (n + m) * by0 ≤ 140737488355328 := by
    have : (n + m) * by0 ≤ 1099511627776 * 64 := Nat.mul_le_mul hsz hby
    omega
  obtain ⟨hl, ⟨g, o, cap, rfl, h2, h3⟩ | ⟨p, rfl, rfl⟩⟩ := hsrc
  · obtain ⟨v', w', h, ho, hg, _, hat⟩ := run_append_own_at (P := Tryd.prog) w base t ty e i0 z k by0 hu hi hz0 hz1 hz2 hzc hk v n l hown ⟨g, o, none⟩ m cap ys hl h3.src h1 (by unfold maxLen; omega) hb hbase
    exact ⟨v', w', h, ho, hg, hat⟩
  · obtain rfl : ys = [] := List.eq_nil_of_length_eq_zero (by omega)
    cases p with
    | some a =>
      obtain ⟨v', w', h, ho, hg, _, hat⟩ := run_append_own_at (P := Tryd.prog) w base t ty e i0 z k by0 hu hi hz0 hz1 hz2 hzc hk v n l hown a 0 0 [] (by simp) (fun j y hy => by simp at hy) (fun y hy => by cases hy) (by unfold maxLen; omega) hb hbase
      exact ⟨v', w', h, ho, hg, hat⟩
    | none => exact ⟨v, w, run_append_owned_none (P := Tryd.prog) (w := w) base t ty e i0 k hu hi v n l hown, by simpa using hown, ⟨rfl, rfl, rfl, Nat.le_refl _, fun _ _ _ => rfl⟩, .inl rfl⟩
theorem wpList_appK (t e : TypeId) (i0 : TypeInfo) (z : Value) (k by0 : Nat) (hu : Tryd.prog.underlying t = some (.slice e)) (hi : Tryd.prog.info? e = some i0) (hz0 : i0.zero = some z) (hz1 : i0.size = k) (hz2 : i0.bytes = by0) (hzc : z.cells.size = k) (hk : 0 < k) (hby : by0 ≤ 64)
    {w : World} {ops : Array Oper} {rest : List Oper} {o : Oper} {a : Act} {Q : Exit → Act → World → Prop} (hgd : o.guard = none) (d x : Operand)
    (ho : o.op = .call { callee := .builtin .append, args := #[d, x], argTypes := #[t, t] }) (base : Nat) (v src : Value) (n m : Nat) (l ys : List Value) (hd : a.eval d = v) (hx : a.eval x = src)
    (h1 : ∀ y ∈ ys, y.oneCell' = true) (hown : w.ownsRow base e k v n l) (hsrc : SlK k w src m ys) (hbase : base ≤ w.heap.size) (hsz : n + m ≤ 1099511627776)
    (h : ∀ v' w', w'.ownsRow base e k v' (n + m) (l ++ ys) → w.grownBy w' v.ownBlock → (v'.ownBlock = v.ownBlock ∨ v'.ownBlock = some w.heap.size) → wpList Tryd.prog ops Q rest (a.put o.dst v') w') : wpList Tryd.prog ops Q (o :: rest) a w := by
  refine wpList_plain hgd fun K hK => ?_
  obtain ⟨v', w', hrun, h1, h2, h3⟩ := run_appK t e i0 z k by0 hu hi hz0 hz1 hz2 hzc hk hby o.type h1 hown hsrc hbase hsz
  unfold Oper.wp
  simp only [execOp, ho, resolve, invoke, builtin, hd, hx, hrun, Result.andThen, List.map_toArray, List.map_cons, List.map_nil, Sem.run_bind, Sem.run_pure]
  exact hK _ _ (h v' w' h1 h2 h3)
/-- A slice of a literal of numbers that was laid just now. -/
theorem slv_lit (w : World) (vs : List Value) (e : TypeId) : SlV (w.alloc (.cells vs.toArray e)) (.slice (some ⟨w.heap.size, 0, none⟩) vs.length vs.length) vs :=
  .inl ⟨w.heap.size, 0, _, rfl, Nat.le_refl _, fun i v hi => by
    rw [Nat.zero_add]
    exact (cell_of_row _ _ _ _ _ _ (heap_alloc_new _ _)).trans (by simpa using hi)⟩

/-- Nothing but the blocks of S has turned. -/
structure OnlyS (S : Nat → Prop) (w w' : World) : Prop where
  os : w'.os = w.os
  tape : w'.tape = w.tape
  output : w'.output = w.output
  size : w.heap.size ≤ w'.heap.size
  block : ∀ k, k < w.heap.size → ¬ S k → w'.heap[k]? = w.heap[k]?
namespace OnlyS
theorem refl (S : Nat → Prop) (w : World) : OnlyS S w w := ⟨rfl, rfl, rfl, Nat.le_refl _, fun _ _ _ => rfl⟩
theorem trans {S : Nat → Prop} {a b c : World} (h : OnlyS S a b) (k : OnlyS S b c) : OnlyS S a c :=
  ⟨k.os.trans h.os, k.tape.trans h.tape, k.output.trans h.output, Nat.le_trans h.size k.size, fun i hi hn => (k.block i (Nat.lt_of_lt_of_le hi h.size) hn).trans (h.block i hi hn)⟩
/-- The second step may turn what the first has made. -/
theorem trans' {S T : Nat → Prop} {a b c : World} (h : OnlyS S a b) (k : OnlyS T b c) (hT : ∀ i, T i → S i ∨ a.heap.size ≤ i) : OnlyS S a c :=
  ⟨k.os.trans h.os, k.tape.trans h.tape, k.output.trans h.output, Nat.le_trans h.size k.size, fun i hi hn => (k.block i (Nat.lt_of_lt_of_le hi h.size) (fun ht => by
    rcases hT i ht with h' | h'
    · exact hn h'
    · omega)).trans (h.block i hi hn)⟩
theorem mono {S T : Nat → Prop} {a b : World} (h : OnlyS S a b) (hT : ∀ i, i < a.heap.size → S i → T i) : OnlyS T a b :=
  ⟨h.os, h.tape, h.output, h.size, fun i hi hn => h.block i hi (fun hs => hn (hT i hi hs))⟩
theorem of_below {S : Nat → Prop} {a b : World} (h : Below a.heap.size a b) : OnlyS S a b := ⟨h.os, h.tape, h.output, h.size, fun i hi _ => h.block i hi⟩
theorem setCell {S : Nat → Prop} (w : World) (g o : Nat) (v : Value) (hg : S g) : OnlyS S w (w.setCell ⟨g, o, none⟩ v) :=
  ⟨rfl, rfl, rfl, by simp [World.setCell], fun k _ hne => heap_setCell_other _ _ _ _ (fun e => hne (by simpa [e] using hg))⟩
theorem alloc {S : Nat → Prop} (w : World) (o : Obj) : OnlyS S w (w.alloc o) := of_below ((Below.refl _ _).alloc (Nat.le_refl _) _)
theorem drew {S : Nat → Prop} (w : World) : OnlyS S w w.drew := ⟨rfl, rfl, rfl, Nat.le_refl _, fun _ _ _ => rfl⟩
theorem grown {S : Nat → Prop} {w w' : World} {r : Option Nat} (h : w.grownBy w' r) (hr : ∀ k, r = some k → S k) : OnlyS S w w' :=
  ⟨h.os, h.tape, h.output, h.size, fun k hk hne => h.block k hk (fun e => hne (hr k e.symm))⟩
theorem below {S : Nat → Prop} {w w' : World} {B : Nat} (h : OnlyS S w w') (hB : B ≤ w.heap.size) (hS : ∀ k, S k → B ≤ k) : Below B w w' :=
  ⟨h.os, h.tape, h.output, h.size, fun k hk => h.block k (by omega) (fun hs => by have := hS k hs; omega)⟩
theorem cell {S : Nat → Prop} {w w' : World} (h : OnlyS S w w') {a : Addr} {v : Value} (hc : w.cell? a = some v) (hne : ¬ S a.block) : w'.cell? a = some v := by
  rw [World.cell?_of_block (w := w) (h.block a.block (block_lt_of_cell hc) hne)]; exact hc
end OnlyS
theorem RowAt.only {S : Nat → Prop} {w w' : World} {g o : Nat} {vs : List Value} (h : RowAt w g o vs) (ho : OnlyS S w w') (hg : ¬ S g) : RowAt w' g o vs := fun i v hi => ho.cell (h i v hi) hg
end Go.Proofs.YtphdcgioeokfbaaDoor
