/-
  The rule for regions that draw, with crc.Of, tells and slices of parts in it.
-/
import Derived.Test.YtehajghnjbhfeaaDoorRun
import Derived.Test.YtehajghnjbhfeaaDoorInv
import Derived.Great.BuildSlice
namespace Go.Proofs.YtehajghnjbhfeaaDoor
open Go.RowKit Crc Inv

inductive Kind where
  | eq (v : Value)
  | parts (l : List (Value × List UInt8))
  | any
def VK : Kind → Value → World → Prop
  | .eq u, v, _ => v = u
  | .parts l, v, w => PAt w v l
  | .any, _, _ => True
def VV (ks : List Kind) (j : Nat) (v : Value) (w : World) : Prop := VK (ks.getD j .any) v w
theorem VV.mono (ks : List Kind) : ∀ (w w' : World) (j : Nat) (v : Value), Below w.heap.size w w' → VV ks j v w → VV ks j v w' := by
  intro w w' j v hb h
  unfold VV at *
  cases hk : ks.getD j .any with
  | eq u => rw [hk] at h; exact h
  | parts l => rw [hk] at h; exact PAt.below h hb
  | any => trivial
def BaseW (W0 w : World) : Prop := Below W0.heap.size W0 w
def StepW (w w' : World) : Prop := Below w.heap.size w w'
theorem BaseW.step {W0 w w' : World} (h : BaseW W0 w) (hs : StepW w w') : BaseW W0 w' := Below.trans h (Below.mono hs h.size)
theorem StepW.refl (w : World) : StepW w w := Below.refl _ _
section
variable {ops : Array Oper} {Q : Exit → Act → World → Prop} {a0 : Act} {W0 : World} {ks : List Kind} {i : Nat} {o : Oper}
/-- What is known of an operation's frame. -/
abbrev Know (ops : Array Oper) (a0 : Act) (W0 : World) (ks : List Kind) (o : Oper) (R : Act → World → Prop) : Prop :=
  ∀ a w, Like ops a0 a → BaseW W0 w → Deps ops (VV ks) a w o.after.toList → R a w
abbrev OK (ops : Array Oper) (Q : Exit → Act → World → Prop) (a0 : Act) (W0 : World) (ks : List Kind) (i : Nat) (o : Oper) : Prop := OpOK Tryd.prog ops Q a0 (BaseW W0) StepW (VV ks) i o
/-- The guard is met, or there is none. -/
def GuardOK (ops : Array Oper) (a0 : Act) (W0 : World) (ks : List Kind) (o : Oper) : Prop := o.guard = none ∨ ∃ j b, o.guard = some (j, b) ∧ Know ops a0 W0 ks o fun a _ => valAt ops a j = .bool b
theorem ok_wp (hg : GuardOK ops a0 W0 ks o)
    (h : Know ops a0 W0 ks o fun a w => o.wp Tryd.prog a w (fun a' w' => ∃ v, a' = a.put o.dst v ∧ StepW w w' ∧ BaseW W0 w' ∧ VV ks i (if o.dst.isSome then v else undef) w') Q) : OK ops Q a0 W0 ks i o := by
  rcases hg with hg | ⟨j, b, hg, hv⟩
  · exact opOK_plain hg h
  · exact opOK_guard j b hg hv h
theorem ok_run (hg : GuardOK ops a0 W0 ks o) (v : Value) (hd : o.dst.isSome = true) (hk : ks.getD i .any = .eq v)
    (h : Know ops a0 W0 ks o fun a w => (execOp a.eval o).run Tryd.prog w = .ok (.value v) w) : OK ops Q a0 W0 ks i o :=
  ok_wp hg fun a w h1 h2 h3 => wp_of_run (h a w h1 h2 h3) ⟨v, rfl, StepW.refl _, h2, by unfold VV; rw [hk, hd]; rfl⟩
theorem ok_move (hg : GuardOK ops a0 W0 ks o) (x : Operand) (ho : o.op = .move x) (v : Value) (hd : o.dst.isSome = true) (hk : ks.getD i .any = .eq v)
    (h : Know ops a0 W0 ks o fun a _ => a.eval x = v) : OK ops Q a0 W0 ks i o :=
  ok_run hg v hd hk fun a w h1 h2 h3 => run_move x ho v (h a w h1 h2 h3)
theorem ok_assign (hg : GuardOK ops a0 W0 ks o) (x : Operand) (ho : o.op = .assign x) (v : Value) (hd : o.dst.isSome = true) (hk : ks.getD i .any = .eq v)
    (h : Know ops a0 W0 ks o fun a _ => a.eval x = v) : OK ops Q a0 W0 ks i o :=
  ok_run hg v hd hk fun a w h1 h2 h3 => run_assign x ho v (h a w h1 h2 h3)
theorem ok_pick (hg : GuardOK ops a0 W0 ks o) (c x y : Operand) (ho : o.op = .pick c x y) (v : Value) (hd : o.dst.isSome = true) (hk : ks.getD i .any = .eq v)
    (h : Know ops a0 W0 ks o fun a _ => a.eval c = .bool true ∧ a.eval x = v) : OK ops Q a0 W0 ks i o :=
  ok_run hg v hd hk fun a w h1 h2 h3 => run_pick c x y ho true (h a w h1 h2 h3).1 v (h a w h1 h2 h3).2
/-- A slice of parts, made in the region. -/
theorem info27 : (Tryd.prog.info? 27).map (fun i => (i.zero, i.size, i.bytes)) = some (some (.slice none 0 0), 1, 24) := by kernel_rfl
theorem run_build (w : World) (vs : List Value) (parts : Array (Nat × Value)) (len : Nat) (hp : parts.toList = (vs.zipIdx 0).map fun x => (x.2, x.1)) (hl : vs.length = len) (h1 : 0 < len) (h2 : len ≤ 1000) (h3 : ∀ v ∈ vs, v.cells = #[v]) :
    (Instr.buildSlice 26 len parts).run Tryd.prog w = .ok (.slice (some ⟨w.heap.size, 0, none⟩) len len) (w.alloc (.cells vs.toArray 27)) := by
  obtain ⟨i0, hi, hz0, hz1, hz2⟩ := info_parts info27
  refine run_buildSlice w 26 27 len parts vs.toArray i0 (.slice none 0 0) Tryd.underlying26 hi hz0 (by rw [hz1]; omega) (by rw [hz1]; omega) ?_
  rw [hp, hz1]
  have := Great.fill_flat vs ((Array.range (len * 1)).map ((Value.slice none 0 0).cells[· % (Value.slice none 0 0).cells.size]!)) h3 (by simp [hl])
  exact this
theorem ok_build (hg : GuardOK ops a0 W0 ks o) (parts : Array (Nat × Operand)) (l : List (Value × List UInt8)) (hn : 0 < l.length) (hn2 : l.length ≤ 1000) (ho : o.op = .buildSlice 26 l.length parts) (hd : o.dst.isSome = true) (hk : ks.getD i .any = .parts l)
    (h : Know ops a0 W0 ks o fun a w => (parts.map fun (i, x) => (i, a.eval x)).toList = ((l.map (·.1)).zipIdx 0).map (fun x => (x.2, x.1)) ∧ ∀ x ∈ l, SlW w x.1 x.2) : OK ops Q a0 W0 ks i o :=
  ok_wp hg fun a w h1 h2 h3 => by
    obtain ⟨e1, e2⟩ := h a w h1 h2 h3
    have e3 : ∀ v ∈ l.map (·.1), v.cells = #[v] := fun v hv => by
      obtain ⟨x, hx, rfl⟩ := List.mem_map.1 hv
      obtain ⟨g, o', cap, he, _⟩ | ⟨p, he, _⟩ := e2 x hx <;> rw [he] <;> rfl
    have hr := run_build w (l.map (·.1)) _ l.length e1 (by simp) hn hn2 e3
    have hb : StepW w (w.alloc (.cells (l.map (·.1)).toArray 27)) := (Below.refl _ _).alloc (Nat.le_refl _) _
    refine wp_of_run (v := .slice (some ⟨w.heap.size, 0, none⟩) l.length l.length) (w' := w.alloc (.cells (l.map (·.1)).toArray 27)) ?_ ⟨_, rfl, hb, BaseW.step h2 hb, ?_⟩
    · unfold execOp; rw [ho]; simp only [Sem.run_bind, hr]; rfl
    · unfold VV; rw [hk, hd]; exact pat_row l e2 27 (0, 0)
/-- A call of crc.Of. -/
theorem ok_of (hg : GuardOK ops a0 W0 ks o) (x : Operand) (ts : Array TypeId) (ho : o.op = .call { callee := .value (.func 12), args := #[x], argTypes := ts }) (l : List (Value × List UInt8)) (hT : TAt W0) (hlen : (cat l).length ≤ 549755813888) (hll : l.length ≤ 1099511627776)
    (hd : o.dst.isSome = true) (hk : ks.getD i .any = .eq (.int .u32 (iv (crcL (cat l))))) (h : Know ops a0 W0 ks o fun a w => PAt w (a.eval x) l) : OK ops Q a0 W0 ks i o :=
  ok_wp hg fun a w h1 h2 h3 => by
    have hT' : TAt w := hT.below h2 hT.lt
    refine wp_of_enter (f := 12) (args := #[a.eval x]) (w1 := w) ?_ (of_walk w _ l (h a w h1 h2 h3) hT' hlen hll) ?_
    · unfold execOp; rw [ho]; kernel_rfl
    · rintro e w' ⟨rfl, hb⟩
      exact ⟨_, rfl, _, rfl, hb, BaseW.step h2 hb, by unfold VV; rw [hk, hd]; rfl⟩
/-- A call of tells. -/
theorem ok_tells (hg : GuardOK ops a0 W0 ks o) (ts : Array TypeId) (ho : o.op = .call { callee := .value (.func 13), args := #[], argTypes := ts }) (hT : TAt W0)
    (hd : o.dst.isSome = true) (hk : ks.getD i .any = .eq (.bool true)) : OK ops Q a0 W0 ks i o :=
  ok_wp hg fun a w h1 h2 h3 => by
    have hT' : TAt w := hT.below h2 hT.lt
    refine wp_of_enter (f := 13) (args := #[]) (w1 := w) ?_ (tells_walk w hT') ?_
    · unfold execOp; rw [ho]; kernel_rfl
    · rintro e w' ⟨rfl, hb⟩
      exact ⟨_, rfl, _, rfl, hb, BaseW.step h2 hb, by unfold VV; rw [hk, hd]; rfl⟩
theorem run_xor32 {a : Act} {w : World} (x y : Operand) (ho : o.op = .binOp .xor 23 x y 23) (p q : W) (hx : a.eval x = .int .u32 (iv p)) (hy : a.eval y = .int .u32 (iv q)) : (execOp a.eval o).run Tryd.prog w = .ok (.value (.int .u32 (iv (p ^^^ q)))) w := by
  rw [← u32_xor_iv]; unfold execOp; rw [ho]; simp only [hx, hy]; kernel_rfl
theorem run_eql32 {a : Act} {w : World} (x y : Operand) (ho : o.op = .binOp .eql 23 x y 23) (p q : Int) (hx : a.eval x = .int .u32 p) (hy : a.eval y = .int .u32 q) : (execOp a.eval o).run Tryd.prog w = .ok (.value (.bool (p == q))) w := by
  unfold execOp; rw [ho]; simp only [hx, hy]; kernel_rfl
theorem run_eql_bool {a : Act} {w : World} (x y : Operand) (ho : o.op = .binOp .eql 4 x y 4) (p q : Bool) (hx : a.eval x = .bool p) (hy : a.eval y = .bool q) : (execOp a.eval o).run Tryd.prog w = .ok (.value (.bool (p == q))) w := by
  unfold execOp; rw [ho]; simp only [hx, hy]; cases p <;> cases q <;> kernel_rfl
theorem run_slice27 {a : Act} {w : World} (x y : Operand) (ho : o.op = .slice 27 x none (some y) none) (v u : Value) (k : Nat) (hx : a.eval x = v) (hy : a.eval y = .int .i64 (k : Int)) (h : (Instr.sliceAt 27 v none (some (.int .i64 (k : Int))) none).run Tryd.prog w = .ok u w) : (execOp a.eval o).run Tryd.prog w = .ok (.value u) w := by
  unfold execOp; rw [ho]; simp only [hx, hy, Option.map_some, Option.map_none, Sem.run_bind, h]; rfl
theorem slice_to {w : World} (p : Option Addr) (n cap k : Nat) (bs : List UInt8) (hs : SlW w (.slice p n cap) bs) (hk : k ≤ n) : ∀ w', (Instr.sliceAt 27 (.slice p n cap) none (some (.int .i64 (k : Int))) none).run Tryd.prog w' = .ok (.slice p k cap) w' := by
  intro w'
  have hc : n ≤ cap := by
    rcases hs with ⟨g, o, cap', h, h2, _⟩ | ⟨p', h, rfl⟩
    · cases h; exact h2
    · cases h; omega
  have h1 : (0 : Int) ≤ (k : Int) := by omega
  have h2 : (k : Int) ≤ (cap : Int) := by omega
  rcases hs with ⟨g, o, cap', h, _, _⟩ | ⟨p', h, rfl⟩
  · cases h
    go_simp
  · cases h
    obtain rfl : k = 0 := by omega
    show (Instr.sliceAt 27 (.slice p 0 0) none (some (.int .i64 0)) none).run Tryd.prog w' = .ok (.slice p 0 0) w'
    cases p with
    | none => kernel_rfl
    | some a => kernel_rfl
end
theorem one_part {a : Act} {x : Operand} {v : Value} {bs : List UInt8} (h : a.eval x = v) : ((#[(0, x)] : Array (Nat × Operand)).map fun (i, x) => (i, a.eval x)).toList = (([(v, bs)].map (·.1)).zipIdx 0).map (fun x => (x.2, x.1)) := by
  subst h; simp
theorem two_parts {a : Act} {x y : Operand} {v u : Value} {bs cs : List UInt8} (h : a.eval x = v) (k : a.eval y = u) : ((#[(0, x), (1, y)] : Array (Nat × Operand)).map fun (i, x) => (i, a.eval x)).toList = (([(v, bs), (u, cs)].map (·.1)).zipIdx 0).map (fun x => (x.2, x.1)) := by
  subst h; subst k; simp
theorem one_slw {W0 w : World} {v : Value} {bs : List UInt8} (h : SlW W0 v bs) (hB : BaseW W0 w) : ∀ x ∈ [(v, bs)], SlW w x.1 x.2 := fun x hx => by
  obtain rfl := List.mem_singleton.1 hx
  exact h.below hB (Nat.le_refl _)
theorem two_slw {W0 w : World} {v u : Value} {bs cs : List UInt8} (h : SlW W0 v bs) (k : SlW W0 u cs) (hB : BaseW W0 w) : ∀ x ∈ [(v, bs), (u, cs)], SlW w x.1 x.2 := fun x hx => by
  simp only [List.mem_cons, List.not_mem_nil, or_false] at hx
  rcases hx with rfl | rfl
  · exact h.below hB (Nat.le_refl _)
  · exact k.below hB (Nat.le_refl _)
end Go.Proofs.YtehajghnjbhfeaaDoor
