/-
  The frame behind a region whose temporaries are all known; runs of small operations.
-/
import Derived.Test.YtehajghnjbhfeaaDoorKinds
import Derived.Lib.MinMax
import Derived.IntWalk
namespace Inv
open Go

def putAll (a : Act) : List (Tmp × Value) → Act
  | [] => a
  | (d, v) :: t => putAll (a.put (some d) v) t
theorem putAll_size (l : List (Tmp × Value)) : ∀ a : Act, (putAll a l).tmps.size = a.tmps.size := by
  induction l with
  | nil => intro a; rfl
  | cons x t ih => intro a; obtain ⟨d, v⟩ := x; rw [putAll, ih, size_put]
theorem putAll_defers (l : List (Tmp × Value)) : ∀ a : Act, (putAll a l).defers = a.defers := by
  induction l with
  | nil => intro a; rfl
  | cons x t ih => intro a; obtain ⟨d, v⟩ := x; rw [putAll, ih, defers_put]
theorem putAll_eval (b : Act) (s : Tmp) : ∀ (l : List (Tmp × Value)) (a : Act), (∀ x ∈ l, b.eval (.tmp x.1) = x.2) → a.tmps.size = b.tmps.size → s < b.tmps.size →
    (putAll a l).eval (.tmp s) = b.eval (.tmp s) ∨ ((∀ x ∈ l, x.1 ≠ s) ∧ (putAll a l).eval (.tmp s) = a.eval (.tmp s))
  | [], a, _, _, _ => .inr ⟨fun x hx => (by cases hx), rfl⟩
  | (d, v) :: t, a, h, hs, hlt => by
    rw [putAll]
    rcases putAll_eval b s t (a.put (some d) v) (fun x hx => h x (by simp [hx])) (by rw [size_put]; exact hs) hlt with h1 | ⟨h1, h2⟩
    · exact .inl h1
    · by_cases hd : d = s
      · subst hd
        refine .inl ?_
        rw [h2, eval_put_same (a := a) (by rw [hs]; exact hlt)]
        exact (h (d, v) (by simp)).symm
      · refine .inr ⟨fun x hx => ?_, ?_⟩
        · rcases List.mem_cons.1 hx with rfl | hx
          · exact hd
          · exact h1 x hx
        · rw [h2, eval_put_other (fun e => hd (by simpa using e))]
/-- The whole frame. -/
theorem Like.puts {ops : Array Oper} {a0 a : Act} (hL : Like ops a0 a) (l : List (Tmp × Value)) (hv : ∀ x ∈ l, a.eval (.tmp x.1) = x.2) (hc : (ops.all fun o => match o.dst with | some d => (l.map (·.1)).contains d | none => true) = true) : a = putAll a0 l := by
  have hsz : (putAll a0 l).tmps.size = a.tmps.size := (putAll_size l a0).trans hL.size.symm
  have htm : a.tmps = (putAll a0 l).tmps := by
    apply Array.ext hsz.symm
    intro s h1 h2
    have key : (putAll a0 l).eval (.tmp s) = a.eval (.tmp s) := by
      rcases putAll_eval a s l a0 hv hL.size.symm h1 with h | ⟨h, h'⟩
      · exact h
      · rw [h']
        refine (hL.rest s ?_).symm
        refine Array.all_eq_true'.2 fun o ho => ?_
        have := Array.all_eq_true'.1 hc o ho
        cases hd : o.dst with
        | none => rfl
        | some d =>
          rw [hd] at this
          simp only at this
          have hm : d ∈ l.map (·.1) := by simpa using this
          obtain ⟨x, hx, rfl⟩ := List.mem_map.1 hm
          have := h x hx
          simpa using this
    have e1 : a.eval (.tmp s) = a.tmps[s] := by show a.tmps.getD s undef = _; simp [h1]
    have e2 : (putAll a0 l).eval (.tmp s) = (putAll a0 l).tmps[s] := by show (putAll a0 l).tmps.getD s undef = _; simp [h2]
    rw [← e1, ← e2, key]
  have hdf : a.defers = (putAll a0 l).defers := hL.defers.trans (putAll_defers l a0).symm
  cases a
  cases h : putAll a0 l
  rw [h] at htm hdf
  simp only at htm hdf
  subst htm hdf
  rfl
end Inv
namespace Go.Proofs.YtehajghnjbhfeaaDoor
open Go.RowKit Crc Inv
theorem run_index22 {o : Oper} {a : Act} {w : World} (x y : Operand) (ho : o.op = .indexAddr 22 x y) (g o' L cap k : Nat) (hx : a.eval x = .slice (some ⟨g, o', none⟩) L cap) (hy : a.eval y = .int .i64 (k : Int)) (hk : k < L) :
    (execOp a.eval o).run Tryd.prog w = .ok (.value (.pointer (some ⟨g, o' + k * 2, none⟩))) w := by
  have h1 : (k : Int) < (L : Int) := by omega
  unfold execOp; rw [ho]; simp only [hx, hy]
  go_simp
theorem run_field29 {o : Oper} {a : Act} {w : World} (x : Operand) (ho : o.op = .fieldAddr 29 x 1) (g o' : Nat) (hx : a.eval x = .pointer (some ⟨g, o', none⟩)) :
    (execOp a.eval o).run Tryd.prog w = .ok (.value (.pointer (some ⟨g, o' + 1, none⟩))) w := by
  unfold execOp; rw [ho]; simp only [hx]
  go_simp
theorem run_load27 {o : Oper} {a : Act} {w : World} (x : Operand) (ho : o.op = .load 27 x) (g o' : Nat) (v : Value) (hx : a.eval x = .pointer (some ⟨g, o', none⟩)) (hc : w.cell? ⟨g, o', none⟩ = some v) :
    (execOp a.eval o).run Tryd.prog w = .ok (.value v) w := by
  unfold execOp; rw [ho]; simp only [hx]
  go_simp
theorem run_len27 {o : Oper} {a : Act} {w : World} (x : Operand) (ho : o.op = .call { callee := .builtin .len, args := #[x], argTypes := #[27] }) (p : Option Addr) (n cap : Nat) (hx : a.eval x = .slice p n cap) :
    (execOp a.eval o).run Tryd.prog w = .ok (.value (.int .i64 (n : Int))) w := by
  unfold execOp; rw [ho]
  simp only [resolve, invoke, builtin, hx, List.map_toArray, List.map_cons, List.map_nil]
  go_simp
theorem run_min2 {o : Oper} {a : Act} {w : World} (x y : Operand) (ho : o.op = .call { callee := .builtin .min, args := #[x, y], argTypes := #[3, 3] }) (m n k : Int) (hx : a.eval x = .int .i64 m) (hy : a.eval y = .int .i64 n) (hk : min m n = k) :
    (execOp a.eval o).run Tryd.prog w = .ok (.value (.int .i64 k)) w := by
  subst hk
  unfold execOp; rw [ho]
  simp only [resolve, invoke, builtin, hx, hy, List.map_toArray, List.map_cons, List.map_nil]
  go_simp
theorem run_quo2 {o : Oper} {a : Act} {w : World} (x y : Operand) (ho : o.op = .binOp .quo 3 x y 3) (n : Nat) (hx : a.eval x = .int .i64 (n : Int)) (hy : a.eval y = .int .i64 2) (hn : n ≤ 1000000) :
    (execOp a.eval o).run Tryd.prog w = .ok (.value (.int .i64 ((n / 2 : Nat) : Int))) w := by
  have h1 : (0 : Int) ≤ (n : Int) := by omega
  have h2 : (n : Int) ≤ 1000000 := by omega
  unfold execOp; rw [ho]; simp only [hx, hy]
  go_simp
  exact IntWalk.i64_in _ (by omega)
end Go.Proofs.YtehajghnjbhfeaaDoor
