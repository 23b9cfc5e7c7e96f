/-
  The rule for regions that draw, over values that are known.
-/
import Derived.Test.YtdkajbhhmgmohaaDoorSumsWalk
import Derived.Test.YtdkajbhhmgmohaaDoorInv
namespace Go.Proofs.YtdkajbhhmgmohaaDoor
open Go.RowKit Sha Inv

inductive Kind where
  | eq (v : Value)
  | any
def VK : Kind → Value → World → Prop
  | .eq u, v, _ => v = u
  | .any, _, _ => True
def VV (ks : List Kind) (j : Nat) (v : Value) (w : World) : Prop := VK (ks.getD j .any) v w
theorem VV.mono (ks : List Kind) : ∀ (w w' : World) (j : Nat) (v : Value), Below w.heap.size w w' → VV ks j v w → VV ks j v w' := by
  intro w w' j v hb h
  unfold VV at *
  cases hk : ks.getD j .any with
  | eq u => rw [hk] at h; exact h
  | any => trivial
def BaseW (W0 w : World) : Prop := Below W0.heap.size W0 w
def StepW (w w' : World) : Prop := Below w.heap.size w w'
theorem BaseW.step {W0 w w' : World} (h : BaseW W0 w) (hs : StepW w w') : BaseW W0 w' := Below.trans h (Below.mono hs h.size)
theorem StepW.refl (w : World) : StepW w w := Below.refl _ _
theorem of_drew {a w : World} (h : Below a.drew.heap.size a.drew w) : Below a.heap.size a w := ⟨h.os, h.tape, h.output, h.size, h.block⟩
section
variable {ops : Array Oper} {Q : Exit → Act → World → Prop} {a0 : Act} {W0 : World} {ks : List Kind} {i : Nat} {o : Oper}
/-- What is known of an operation's frame. -/
abbrev Know (ops : Array Oper) (a0 : Act) (W0 : World) (ks : List Kind) (o : Oper) (R : Act → World → Prop) : Prop :=
  ∀ a w, Like ops a0 a → BaseW W0 w → Deps ops (VV ks) a w o.after.toList → R a w
abbrev OK (ops : Array Oper) (Q : Exit → Act → World → Prop) (a0 : Act) (W0 : World) (ks : List Kind) (i : Nat) (o : Oper) : Prop := OpOK Tryd.prog ops Q a0 (BaseW W0) StepW (VV ks) i o
/-- The guard is met, or there is none. -/
def GuardOK (ops : Array Oper) (a0 : Act) (W0 : World) (ks : List Kind) (o : Oper) : Prop := o.guard = none ∨ ∃ j b, o.guard = some (j, b) ∧ Know ops a0 W0 ks o fun a _ => valAt ops a j = .bool b
theorem ok_wp (hg : GuardOK ops a0 W0 ks o)
    (h : Know ops a0 W0 ks o fun a w => o.wp Tryd.prog a w (fun a' w' => ∃ v, a' = a.put o.dst v ∧ StepW w w' ∧ BaseW W0 w' ∧ VV ks i (if o.dst.isSome then v else undef) w') Q) : OK ops Q a0 W0 ks i o := by
  rcases hg with hg | ⟨j, b, hg, hv⟩
  · exact opOK_plain hg h
  · exact opOK_guard j b hg hv h
theorem ok_run (hg : GuardOK ops a0 W0 ks o) (v : Value) (hd : o.dst.isSome = true) (hk : ks.getD i .any = .eq v)
    (h : Know ops a0 W0 ks o fun a w => (execOp a.eval o).run Tryd.prog w = .ok (.value v) w) : OK ops Q a0 W0 ks i o :=
  ok_wp hg fun a w h1 h2 h3 => wp_of_run (h a w h1 h2 h3) ⟨v, rfl, StepW.refl _, h2, by unfold VV; rw [hk, hd]; rfl⟩
theorem ok_move (hg : GuardOK ops a0 W0 ks o) (x : Operand) (ho : o.op = .move x) (v : Value) (hd : o.dst.isSome = true) (hk : ks.getD i .any = .eq v)
    (h : Know ops a0 W0 ks o fun a _ => a.eval x = v) : OK ops Q a0 W0 ks i o :=
  ok_run hg v hd hk fun a w h1 h2 h3 => run_move x ho v (h a w h1 h2 h3)
theorem ok_assign (hg : GuardOK ops a0 W0 ks o) (x : Operand) (ho : o.op = .assign x) (v : Value) (hd : o.dst.isSome = true) (hk : ks.getD i .any = .eq v)
    (h : Know ops a0 W0 ks o fun a _ => a.eval x = v) : OK ops Q a0 W0 ks i o :=
  ok_run hg v hd hk fun a w h1 h2 h3 => run_assign x ho v (h a w h1 h2 h3)
theorem ok_pick (hg : GuardOK ops a0 W0 ks o) (c x y : Operand) (ho : o.op = .pick c x y) (v : Value) (hd : o.dst.isSome = true) (hk : ks.getD i .any = .eq v)
    (h : Know ops a0 W0 ks o fun a _ => a.eval c = .bool true ∧ a.eval x = v) : OK ops Q a0 W0 ks i o :=
  ok_run hg v hd hk fun a w h1 h2 h3 => run_pick c x y ho true (h a w h1 h2 h3).1 v (h a w h1 h2 h3).2
/-- A call by its contract. -/
theorem ok_call1 (hg : GuardOK ops a0 W0 ks o) (f : FuncId) (x : Operand) (he : ∀ (a : Act) (w : World), (execOp a.eval o).run Tryd.prog w = .ok (.enter f #[a.eval x]) w) (u v : Value) (hd : o.dst.isSome = true) (hk : ks.getD i .any = .eq v)
    (h : Know ops a0 W0 ks o fun a w => a.eval x = u ∧ Calls Tryd.prog f #[u] w fun e w' => e = .returned v ∧ Below w.heap.size w w') : OK ops Q a0 W0 ks i o :=
  ok_wp hg fun a w h1 h2 h3 => by
    obtain ⟨hx, hc⟩ := h a w h1 h2 h3
    refine wp_of_enter (he a w) (by rw [hx]; exact hc) ?_
    rintro e w' ⟨rfl, hb⟩
    exact ⟨_, rfl, _, rfl, hb, BaseW.step h2 hb, by unfold VV; rw [hk, hd]; rfl⟩
theorem ok_call0 (hg : GuardOK ops a0 W0 ks o) (f : FuncId) (he : ∀ (a : Act) (w : World), (execOp a.eval o).run Tryd.prog w = .ok (.enter f #[]) w) (v : Value) (hd : o.dst.isSome = true) (hk : ks.getD i .any = .eq v)
    (h : Know ops a0 W0 ks o fun _ w => Calls Tryd.prog f #[] w fun e w' => e = .returned v ∧ Below w.heap.size w w') : OK ops Q a0 W0 ks i o :=
  ok_wp hg fun a w h1 h2 h3 => by
    refine wp_of_enter (he a w) (h a w h1 h2 h3) ?_
    rintro e w' ⟨rfl, hb⟩
    exact ⟨_, rfl, _, rfl, hb, BaseW.step h2 hb, by unfold VV; rw [hk, hd]; rfl⟩
end
theorem run_eql_bool {o : Oper} {a : Act} {w : World} (x y : Operand) (ho : o.op = .binOp .eql 4 x y 4) (p q : Bool) (hx : a.eval x = .bool p) (hy : a.eval y = .bool q) : (execOp a.eval o).run Tryd.prog w = .ok (.value (.bool (p == q))) w := by
  unfold execOp; rw [ho]; simp only [hx, hy]; cases p <;> cases q <;> kernel_rfl
theorem run_eql_int {o : Oper} {a : Act} {w : World} (x y : Operand) (ho : o.op = .binOp .eql 3 x y 3) (p q : Int) (hx : a.eval x = .int .i64 p) (hy : a.eval y = .int .i64 q) : (execOp a.eval o).run Tryd.prog w = .ok (.value (.bool (p == q))) w := by
  unfold execOp; rw [ho]; simp only [hx, hy]; kernel_rfl
theorem run_eql_str {o : Oper} {a : Act} {w : World} (x y : Operand) (ho : o.op = .binOp .eql 9 x y 9) (p q : ByteArray) (hx : a.eval x = .string p) (hy : a.eval y = .string q) (hpq : p = q) : (execOp a.eval o).run Tryd.prog w = .ok (.value (.bool true)) w := by
  subst hpq
  unfold execOp; rw [ho]; simp only [hx, hy]
  go_simp
theorem run_eql25 {o : Oper} {a : Act} {w : World} (x y : Operand) (ho : o.op = .binOp .eql 25 x y 25) (p : List UInt8) (hp : p.length = 32) (hx : a.eval x = .agg (bcells p)) (hy : a.eval y = .agg (bcells p)) : (execOp a.eval o).run Tryd.prog w = .ok (.value (.bool true)) w := by
  have hgd : Tryd.prog.eqGuardType Tryd.prog.depth 25 = false := by kernel_rfl
  have hs := same25 p hp
  unfold execOp; rw [ho]; simp only [hx, hy]
  go_simp
theorem run_load24 {o : Oper} {a : Act} {w : World} (x : Operand) (ho : o.op = .load 24 x) (g : Nat) (t : TypeId) (l : List UInt8) (hl : l.length = 32) (hx : a.eval x = .pointer (some ⟨g, 0, none⟩)) (hr : RowT t w g l) : (execOp a.eval o).run Tryd.prog w = .ok (.value (.agg (bcells l))) w := by
  unfold execOp; rw [ho]
  simp only [hx, Instr.loadAt, Instr.sureAddr, Sem.run_bind, Sem.run_pure, Result.andThen_ok, run_loadVar_row w g t 24 (bcells l) (0, 0) _ hr Tryd.underlying24 rfl (by rw [bcells_size, hl]; kernel_rfl)]
theorem run_load25 {o : Oper} {a : Act} {w : World} (x : Operand) (ho : o.op = .load 25 x) (g : Nat) (t : TypeId) (l : List UInt8) (hl : l.length = 32) (hx : a.eval x = .pointer (some ⟨g, 0, none⟩)) (hr : RowT t w g l) : (execOp a.eval o).run Tryd.prog w = .ok (.value (.agg (bcells l))) w := by
  unfold execOp; rw [ho]
  simp only [hx, Instr.loadAt, Instr.sureAddr, Sem.run_bind, Sem.run_pure, Result.andThen_ok, run_loadVar_row w g t 25 (bcells l) (0, 0) _ hr Tryd.underlying25 rfl (by rw [bcells_size, hl]; kernel_rfl)]
theorem law_end4 {R : Ending → World → Prop} {a : Act} {w : World} (h4 : a.eval (.tmp 4) = .bool true) (hd : a.defers = []) (h : R (.returned (.bool true)) w) : Code.wp Tryd.prog Code.ret (bodyPost Tryd.prog Tryd.f4 R) a w := by
  refine wp_ret (bodyPost_ret (v := .bool true) ?_ hd h)
  have h4' : a.tmps.getD 4 undef = .bool true := h4
  simp [results, Tryd.results4, go_sem]
  simpa using h4'
end Go.Proofs.YtdkajbhhmgmohaaDoor
