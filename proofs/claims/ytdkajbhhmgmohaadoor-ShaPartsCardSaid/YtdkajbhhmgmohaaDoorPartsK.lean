/-
  The rule for regions that draw, where a constant's bytes are laid, marked, and appended to parts.
-/
import Derived.Test.YtdkajbhhmgmohaaDoorParts0
import Derived.Great.BuildSlice
namespace Go.Proofs.YtdkajbhhmgmohaaDoor
open Go.RowKit Sha Inv

def asideL : List UInt8 := [97, 115, 105, 100, 101]
/-- Each block keeps its cells (marks may change). -/
def KeepC (w w' : World) : Prop := ∀ (g : Nat) (C : Array Value) (t : TypeId) (fr : Nat × Nat), w.heap[g]? = some (.cells C t fr) → ∃ fr', w'.heap[g]? = some (.cells C t fr')
theorem KeepC.refl (w : World) : KeepC w w := fun _ _ _ fr h => ⟨fr, h⟩
theorem KeepC.of_below {w w' : World} (h : Below w.heap.size w w') : KeepC w w' := fun g _ _ fr hg => ⟨fr, (h.block g (Array.getElem?_eq_some_iff.1 hg).1).trans hg⟩
theorem KeepC.cell {w w' : World} (h : KeepC w w') {a : Addr} {v : Value} (hc : w.cell? a = some v) : w'.cell? a = some v := by
  unfold World.cell? at *
  cases hb : w.heap[a.block]? with
  | none => rw [hb] at hc; cases hc
  | some o =>
    rw [hb] at hc
    cases o with
    | cells C t fr =>
      obtain ⟨fr', h'⟩ := h _ _ _ _ hb
      rw [h']
      exact hc
    | _ => cases hc
theorem SlW.keepC {w w' : World} {v : Value} {bs : List UInt8} (h : SlW w v bs) (hk : KeepC w w') : SlW w' v bs := by
  rcases h with ⟨g, o, cap, h1, h2, h3⟩ | h
  · exact .inl ⟨g, o, cap, h1, h2, fun i hi => hk.cell (h3 i hi)⟩
  · exact .inr h
theorem PAt.keepC {w w' : World} {v : Value} {l : List (Value × List UInt8)} (h : PAt w v l) (hk : KeepC w w') : PAt w' v l := by
  rcases h with ⟨gp, op, cap, h1, h2⟩ | h
  · exact .inl ⟨gp, op, cap, h1, fun i x hx => ⟨hk.cell (h2 i x hx).1, (h2 i x hx).2.keepC hk⟩⟩
  · exact .inr h
/-- The constant's bytes, in a block of the region's own. -/
def ByV (W0 w : World) (v : Value) : Prop := ∃ g fr, W0.heap.size ≤ g ∧ v = .slice (some ⟨g, 0, none⟩) 5 5 ∧ w.heap[g]? = some (.cells (bcells asideL) 5 fr)
theorem ByV.toW {W0 w : World} {v : Value} (h : ByV W0 w v) : SlW w v asideL := by
  obtain ⟨g, fr, _, rfl, hg⟩ := h
  exact .inl ⟨g, 0, 5, rfl, Nat.le_refl _, fun i hi => by rw [Nat.zero_add, cell_of_row _ _ _ _ _ _ hg]; exact bcells_at _ _ hi⟩
inductive KF where
  | eq (v : Value)
  | bytes
  | one
  | parts (l : List (Value × List UInt8))
  | any
def VKF (W0 : World) : KF → Value → World → Prop
  | .eq u, v, _ => v = u
  | .bytes, v, w => ByV W0 w v
  | .one, v, w => ∃ g fr va, v = .slice (some ⟨g, 0, none⟩) 1 1 ∧ w.heap[g]? = some (.cells #[va] 22 fr) ∧ ByV W0 w va
  | .parts l, v, w => ∃ va, PAt w v (l ++ [(va, asideL)])
  | .any, _, _ => True
def VF (W0 : World) (ks : List KF) (j : Nat) (v : Value) (w : World) : Prop := VKF W0 (ks.getD j .any) v w
def StepF (W0 w w' : World) : Prop := Below W0.heap.size w w' ∧ KeepC w w'
theorem ByV.keepC {W0 w w' : World} {v : Value} (h : ByV W0 w v) (hk : KeepC w w') : ByV W0 w' v := by
  obtain ⟨g, fr, h1, h2, h3⟩ := h
  obtain ⟨fr', h4⟩ := hk _ _ _ _ h3
  exact ⟨g, fr', h1, h2, h4⟩
theorem VF.mono (W0 : World) (ks : List KF) : ∀ (w w' : World) (j : Nat) (v : Value), StepF W0 w w' → VF W0 ks j v w → VF W0 ks j v w' := by
  intro w w' j v hb h
  unfold VF at *
  cases hk : ks.getD j .any with
  | eq u => rw [hk] at h; exact h
  | bytes => rw [hk] at h; exact ByV.keepC h hb.2
  | one =>
    rw [hk] at h
    obtain ⟨g, fr, va, h1, h2, h3⟩ := h
    obtain ⟨fr', h4⟩ := hb.2 _ _ _ _ h2
    exact ⟨g, fr', va, h1, h4, h3.keepC hb.2⟩
  | parts l =>
    rw [hk] at h
    obtain ⟨va, h1⟩ := h
    exact ⟨va, h1.keepC hb.2⟩
  | any => trivial
theorem BaseW.stepF {W0 w w' : World} (h : BaseW W0 w) (hs : StepF W0 w w') : BaseW W0 w' := Below.trans h hs.1
theorem StepF.refl (W0 w : World) : StepF W0 w w := ⟨Below.refl _ _, KeepC.refl _⟩
theorem StepF.of_below {W0 w w' : World} (h : BaseW W0 w) (hb : Below w.heap.size w w') : StepF W0 w w' := ⟨hb.mono h.size, KeepC.of_below hb⟩
section
variable {ops : Array Oper} {Q : Exit → Act → World → Prop} {a0 : Act} {W0 : World} {ks : List KF} {i : Nat} {o : Oper}
abbrev KnowF (ops : Array Oper) (a0 : Act) (W0 : World) (ks : List KF) (o : Oper) (R : Act → World → Prop) : Prop :=
  ∀ a w, Like ops a0 a → BaseW W0 w → Deps ops (VF W0 ks) a w o.after.toList → R a w
abbrev OKF (ops : Array Oper) (Q : Exit → Act → World → Prop) (a0 : Act) (W0 : World) (ks : List KF) (i : Nat) (o : Oper) : Prop := OpOK Tryd.prog ops Q a0 (BaseW W0) (StepF W0) (VF W0 ks) i o
def GuardF (ops : Array Oper) (a0 : Act) (W0 : World) (ks : List KF) (o : Oper) : Prop := o.guard = none ∨ ∃ j b, o.guard = some (j, b) ∧ KnowF ops a0 W0 ks o fun a _ => valAt ops a j = .bool b
theorem okf_wp (hg : GuardF ops a0 W0 ks o)
    (h : KnowF ops a0 W0 ks o fun a w => o.wp Tryd.prog a w (fun a' w' => ∃ v, a' = a.put o.dst v ∧ StepF W0 w w' ∧ BaseW W0 w' ∧ VF W0 ks i (if o.dst.isSome then v else undef) w') Q) : OKF ops Q a0 W0 ks i o := by
  rcases hg with hg | ⟨j, b, hg, hv⟩
  · exact opOK_plain hg h
  · exact opOK_guard j b hg hv h
/-- An operation whose guard is not met. -/
theorem okf_skip (j : Nat) (b : Bool) (hg : o.guard = some (j, b)) (hk : ks.getD i .any = .eq undef) (hv : KnowF ops a0 W0 ks o fun a _ => valAt ops a j = .bool (!b)) : OKF ops Q a0 W0 ks i o :=
  fun a w h1 h2 h3 => .inr ⟨by
    have := yielded_val (hv a w h1 h2 h3)
    cases b <;> simp [Region.wanted, hg, this], by unfold VF; rw [hk]; rfl⟩
theorem okf_run (hg : GuardF ops a0 W0 ks o) (v : Value) (hd : o.dst.isSome = true) (hk : ks.getD i .any = .eq v)
    (h : KnowF ops a0 W0 ks o fun a w => (execOp a.eval o).run Tryd.prog w = .ok (.value v) w) : OKF ops Q a0 W0 ks i o :=
  okf_wp hg fun a w h1 h2 h3 => wp_of_run (h a w h1 h2 h3) ⟨v, rfl, StepF.refl _ _, h2, by unfold VF; rw [hk, hd]; rfl⟩
theorem okf_move (hg : GuardF ops a0 W0 ks o) (x : Operand) (ho : o.op = .move x) (v : Value) (hd : o.dst.isSome = true) (hk : ks.getD i .any = .eq v)
    (h : KnowF ops a0 W0 ks o fun a _ => a.eval x = v) : OKF ops Q a0 W0 ks i o :=
  okf_run hg v hd hk fun a w h1 h2 h3 => run_move x ho v (h a w h1 h2 h3)
theorem okf_pick (hg : GuardF ops a0 W0 ks o) (c x y : Operand) (ho : o.op = .pick c x y) (b : Bool) (v : Value) (hd : o.dst.isSome = true) (hk : ks.getD i .any = .eq v)
    (h : KnowF ops a0 W0 ks o fun a _ => a.eval c = .bool b ∧ (if b then a.eval x else a.eval y) = v) : OKF ops Q a0 W0 ks i o :=
  okf_run hg v hd hk fun a w h1 h2 h3 => run_pick c x y ho b (h a w h1 h2 h3).1 v (h a w h1 h2 h3).2
/-- A call by its contract. -/
theorem okf_call1 (hg : GuardF ops a0 W0 ks o) (f : FuncId) (x : Operand) (he : ∀ (a : Act) (w : World), (execOp a.eval o).run Tryd.prog w = .ok (.enter f #[a.eval x]) w) (v : Value) (hd : o.dst.isSome = true) (hk : ks.getD i .any = .eq v)
    (h : KnowF ops a0 W0 ks o fun a w => Calls Tryd.prog f #[a.eval x] w fun e w' => e = .returned v ∧ Below w.heap.size w w') : OKF ops Q a0 W0 ks i o :=
  okf_wp hg fun a w h1 h2 h3 => by
    refine wp_of_enter (he a w) (h a w h1 h2 h3) ?_
    rintro e w' ⟨rfl, hb⟩
    exact ⟨_, rfl, _, rfl, StepF.of_below h2 hb, BaseW.stepF h2 (StepF.of_below h2 hb), by unfold VF; rw [hk, hd]; rfl⟩
theorem run_build5 (w : World) : (Instr.buildSlice 22 5 #[(0, .int .u8 97), (1, .int .u8 115), (2, .int .u8 105), (3, .int .u8 100), (4, .int .u8 101)]).run Tryd.prog w = .ok (.slice (some ⟨w.heap.size, 0, none⟩) 5 5) (w.alloc (.cells (bcells asideL) 5)) := by
  obtain ⟨i0, hi, hz0, hz1, hz2⟩ := info_parts info5
  refine run_buildSlice w 22 5 5 _ (bcells asideL) i0 (.int .u8 0) Tryd.underlying22 hi hz0 (by rw [hz1]; decide) (by rw [hz1]; decide) ?_
  rw [hz1]
  kernel_rfl
theorem okf_build5 (hg : GuardF ops a0 W0 ks o) (ho : o.op = .buildSlice 22 5 #[(0, .const (.int .u8 97)), (1, .const (.int .u8 115)), (2, .const (.int .u8 105)), (3, .const (.int .u8 100)), (4, .const (.int .u8 101))]) (hd : o.dst.isSome = true) (hk : ks.getD i .any = .bytes) : OKF ops Q a0 W0 ks i o :=
  okf_wp hg fun a w h1 h2 h3 => by
    have hb : Below w.heap.size w (w.alloc (.cells (bcells asideL) 5)) := (Below.refl _ _).alloc (Nat.le_refl _) _
    refine wp_of_run (v := .slice (some ⟨w.heap.size, 0, none⟩) 5 5) (w' := w.alloc (.cells (bcells asideL) 5)) ?_ ⟨_, rfl, StepF.of_below h2 hb, BaseW.stepF h2 (StepF.of_below h2 hb), ?_⟩
    · unfold execOp; rw [ho]
      have := run_build5 w
      simp [Act.eval, this]
    · unfold VF; rw [hk, hd]; exact ⟨w.heap.size, (0, 0), h2.size, rfl, heap_alloc_new _ _⟩
/-- The mark. -/
theorem freeze_keep (w : World) (g n : Nat) : KeepC w (w.freeze ⟨g, n, none⟩ 1) := by
  intro g' C t fr h
  unfold World.freeze
  rw [if_neg (by decide)]
  by_cases hg : g = g'
  · subst hg
    have hl := (Array.getElem?_eq_some_iff.1 h).1
    refine ⟨if fr.1 == fr.2 then (n, n + 1) else (min fr.1 n, max fr.2 (n + 1)), ?_⟩
    simp only [Array.getElem?_modify, if_true, h, Option.map_some]
  · exact ⟨fr, by simp only [Array.getElem?_modify, hg, if_false, h]⟩
theorem freeze_below (w : World) (g n B : Nat) (hB : B ≤ g) : Below B w (w.freeze ⟨g, n, none⟩ 1) := by
  unfold World.freeze
  rw [if_neg (by decide)]
  refine ⟨rfl, rfl, rfl, by simp, fun k hk => ?_⟩
  have : g ≠ k := by omega
  simp only [Array.getElem?_modify, this, if_false]
theorem run_conv22 {w : World} {g n c : Nat} {C : Array Value} {t : TypeId} {fr : Nat × Nat} (h : w.heap[g]? = some (.cells C t fr)) : (convert 22 22 (.slice (some ⟨g, 0, none⟩) n c)).run Tryd.prog w = .ok (.slice (some ⟨g, 0, none⟩) n c) (w.freeze ⟨g, C.size, none⟩ 1) := by
  have hsh : w.shape? g = some (t, C.size) := by unfold World.shape?; rw [h]
  simp [convert, run_underlying Tryd.underlying22, run_underlying Tryd.underlying5, markStringish, hsh]
theorem okf_conv (hg : GuardF ops a0 W0 ks o) (x : Operand) (ho : o.op = .convert 22 22 x) (hd : o.dst.isSome = true) (hk : ks.getD i .any = .bytes) (h : KnowF ops a0 W0 ks o fun a w => ByV W0 w (a.eval x)) : OKF ops Q a0 W0 ks i o :=
  okf_wp hg fun a w h1 h2 h3 => by
    obtain ⟨g, fr, hb, hv, hr⟩ := h a w h1 h2 h3
    have hs : StepF W0 w (w.freeze ⟨g, (bcells asideL).size, none⟩ 1) := ⟨freeze_below w g _ _ hb, freeze_keep w g _⟩
    refine wp_of_run (v := .slice (some ⟨g, 0, none⟩) 5 5) (w' := w.freeze ⟨g, (bcells asideL).size, none⟩ 1) ?_ ⟨_, rfl, hs, BaseW.stepF h2 hs, ?_⟩
    · unfold execOp; rw [ho]
      simp only [hv, Sem.run_bind, run_conv22 hr]
      rfl
    · unfold VF; rw [hk, hd]
      exact ByV.keepC ⟨g, fr, hb, rfl, hr⟩ hs.2
theorem run_build1 (w : World) (u : Value) (hu : u.cells = #[u]) : (Instr.buildSlice 39 1 #[(0, u)]).run Tryd.prog w = .ok (.slice (some ⟨w.heap.size, 0, none⟩) 1 1) (w.alloc (.cells #[u] 22)) := by
  obtain ⟨i0, hi, hz0, hz1, hz2⟩ := info_parts info22
  refine run_buildSlice w 39 22 1 _ #[u] i0 (.slice none 0 0) Tryd.underlying39 hi hz0 (by rw [hz1]; decide) (by rw [hz1]; decide) ?_
  rw [hz1]
  exact Great.fill_flat [u] _ (fun v hv => by obtain rfl := List.mem_singleton.1 hv; exact hu) (by simp)
theorem okf_build1 (hg : GuardF ops a0 W0 ks o) (x : Operand) (ho : o.op = .buildSlice 39 1 #[(0, x)]) (hd : o.dst.isSome = true) (hk : ks.getD i .any = .one) (h : KnowF ops a0 W0 ks o fun a w => ByV W0 w (a.eval x)) : OKF ops Q a0 W0 ks i o :=
  okf_wp hg fun a w h1 h2 h3 => by
    have hv := h a w h1 h2 h3
    have hb : Below w.heap.size w (w.alloc (.cells #[a.eval x] 22)) := (Below.refl _ _).alloc (Nat.le_refl _) _
    have hc : (a.eval x).cells = #[a.eval x] := by obtain ⟨g, fr, _, e, _⟩ := hv; rw [e]; rfl
    refine wp_of_run (v := .slice (some ⟨w.heap.size, 0, none⟩) 1 1) (w' := w.alloc (.cells #[a.eval x] 22)) ?_ ⟨_, rfl, StepF.of_below h2 hb, BaseW.stepF h2 (StepF.of_below h2 hb), ?_⟩
    · unfold execOp; rw [ho]
      have := run_build1 w (a.eval x) hc
      simp [this]
    · unfold VF; rw [hk, hd]; exact ⟨w.heap.size, (0, 0), a.eval x, rfl, heap_alloc_new _ _, hv.keepC (KeepC.of_below hb)⟩
/-- append to a row that is full. -/
theorem okf_app (hg : GuardF ops a0 W0 ks o) (s x : Operand) (ho : o.op = .call { callee := .builtin .append, args := #[s, x], argTypes := #[39, 39] }) (l : List (Value × List UInt8)) (g8 : Nat) (hl : l.length ≤ 1000)
    (hrow : ∀ j y, l[j]? = some y → W0.cell? ⟨g8, j, none⟩ = some y.1 ∧ SlW W0 y.1 y.2) (hd : o.dst.isSome = true) (hk : ks.getD i .any = .parts l)
    (h : KnowF ops a0 W0 ks o fun a w => a.eval s = .slice (some ⟨g8, 0, none⟩) l.length l.length ∧ VKF W0 .one (a.eval x) w) : OKF ops Q a0 W0 ks i o :=
  okf_wp hg fun a w h1 h2 h3 => by
    obtain ⟨hs, g, fr, va, hx, hr, hva⟩ := h a w h1 h2 h3
    obtain ⟨i0, hi, hz0, hz1, hz2⟩ := info_parts info22
    have hkc : ∀ {a : Addr} {v : Value}, W0.cell? a = some v → w.cell? a = some v := fun {a v} hc => by
      rw [h2.cell (p := a) (block_lt_of_cell hc)]; exact hc
    obtain ⟨v', w', hrun, r1, r2⟩ := run_append_arg_grows (P := Tryd.prog) w 39 o.type 22 i0 (.slice none 0 0) 1 24 Tryd.underlying39 hi hz0 hz1 hz2 rfl (by decide) ⟨g8, 0, none⟩ l.length l.length (l.map (·.1)) (by simp)
      (fun j u hj => by
        rw [Addr.add_lit, Nat.zero_add]
        have hjl : j < l.length := by have := (List.getElem?_eq_some_iff.1 hj).1; simpa using this
        obtain rfl : l[j].1 = u := by simpa [hjl] using hj
        exact hkc (hrow j l[j] (List.getElem?_eq_getElem hjl)).1)
      ⟨g, 0, none⟩ 1 1 [va] rfl
      (fun j u hj => by
        match j, hj with
        | 0, hj =>
          simp at hj; subst hj
          exact cell_of_row _ _ _ _ _ _ hr
        | j + 1, hj => simp at hj) (by omega) (by unfold maxLen; omega) (by omega)
    have hb : Below w.heap.size w w' := (Below.refl _ w).grown r2 (Nat.le_refl _) (fun k hk => by cases hk)
    refine wp_of_run (v := v') (w' := w') ?_ ⟨_, rfl, StepF.of_below h2 hb, BaseW.stepF h2 (StepF.of_below h2 hb), ?_⟩
    · unfold execOp; rw [ho]
      simp only [resolve, invoke, builtin, hs, hx, hrun, Result.andThen, List.map_toArray, List.map_cons, List.map_nil, Sem.run_bind, Sem.run_pure]
    · unfold VF; rw [hk, hd]
      refine ⟨va, ?_⟩
      obtain ⟨_, ⟨e1, e2⟩ | ⟨g9, cap, cur, e1, _, e3, e4, _, e6, e7⟩⟩ := r1
      · omega
      · refine .inl ⟨g9, 0, cap, by simpa using e1, fun j y hj => ?_⟩
        have hjl : j < (l ++ [(va, asideL)]).length := (List.getElem?_eq_some_iff.1 hj).1
        constructor
        · rw [Nat.zero_add, cell_of_row _ _ _ _ _ _ e3, ← Array.getElem?_toList]
          have e : cur.toList[j]? = (l.map (·.1) ++ [va])[j]? := by
            rw [← e7, List.getElem?_take, if_pos (by simp at hjl; omega)]
          rw [e, show l.map (·.1) ++ [va] = (l ++ [(va, asideL)]).map (·.1) by simp, List.getElem?_map, hj]
          rfl
        · rcases Nat.lt_or_ge j l.length with hlt | hge
          · rw [List.getElem?_append_left hlt] at hj
            exact ((hrow j y hj).2.below h2 (Nat.le_refl _)).below hb (Nat.le_refl _)
          · rw [List.getElem?_append_right hge] at hj
            obtain ⟨rfl⟩ : (va, asideL) = y := by
              have : j - l.length = 0 := by simp at hjl; omega
              rw [this] at hj; simpa using hj
            exact (hva.keepC (KeepC.of_below hb)).toW
end
theorem run_neq_ptr {o : Oper} {a : Act} {w : World} (x : Operand) (ho : o.op = .binOp .neq 40 x (.const (.pointer none)) 40) (g : Nat) (hx : a.eval x = .pointer (some ⟨g, 0, none⟩)) : (execOp a.eval o).run Tryd.prog w = .ok (.value (.bool true)) w := by
  unfold execOp; rw [ho]; simp only [hx]; kernel_rfl
theorem run_neq_nil {o : Oper} {a : Act} {w : World} (x : Operand) (ho : o.op = .binOp .neq 40 x (.const (.pointer none)) 40) (hx : a.eval x = .pointer none) : (execOp a.eval o).run Tryd.prog w = .ok (.value (.bool false)) w := by
  unfold execOp; rw [ho]; simp only [hx]; kernel_rfl
theorem run_rem20 {o : Oper} {a : Act} {w : World} (x : Operand) (ho : o.op = .binOp .rem 5 x (.const (.int .u8 20)) 5) (z q : Nat) (hz : z < 256) (hq : (z : Int) % 20 = (q : Int)) (hx : a.eval x = .int .u8 (z : Int)) : (execOp a.eval o).run Tryd.prog w = .ok (.value (.int .u8 (q : Int))) w := by
  have h1 : (0 : Int) ≤ (z : Int) := by omega
  have h2 : (z : Int) ≤ 255 := by omega
  unfold execOp; rw [ho]; simp only [hx]
  go_simp
  rw [Int.tmod_eq_emod_of_nonneg h1]
  exact hq
theorem run_conv53 {o : Oper} {a : Act} {w : World} (x : Operand) (ho : o.op = .convert 5 3 x) (q : Nat) (hq : q < 20) (hx : a.eval x = .int .u8 (q : Int)) : (execOp a.eval o).run Tryd.prog w = .ok (.value (.int .i64 (q : Int))) w := by
  have h1 : (0 : Int) ≤ (q : Int) := by omega
  have h2 : (q : Int) ≤ 20 := by omega
  unfold execOp; rw [ho]; simp only [hx]
  go_simp
  exact IntWalk.i64_in _ (by omega)
theorem run_slice39 {o : Oper} {a : Act} {w : World} (x y z : Operand) (ho : o.op = .slice 39 x none (some y) (some z)) (g n cap k : Nat) (hk : k ≤ n) (hn : n ≤ cap) (hx : a.eval x = .slice (some ⟨g, 0, none⟩) n cap) (hy : a.eval y = .int .i64 (k : Int)) (hz : a.eval z = .int .i64 (k : Int)) : (execOp a.eval o).run Tryd.prog w = .ok (.value (.slice (some ⟨g, 0, none⟩) k k)) w := by
  have h1 : (0 : Int) ≤ (k : Int) := by omega
  have h2 : (k : Int) ≤ (cap : Int) := by omega
  unfold execOp; rw [ho]; simp only [hx, hy, hz, Option.map_some, Option.map_none]
  go_simp
theorem run_neq25 {o : Oper} {a : Act} {w : World} (x y : Operand) (ho : o.op = .binOp .neq 25 x y 25) (p : List UInt8) (hp : p.length = 32) (hx : a.eval x = .agg (bcells p)) (hy : a.eval y = .agg (bcells p)) : (execOp a.eval o).run Tryd.prog w = .ok (.value (.bool false)) w := by
  have hgd : Tryd.prog.eqGuardType Tryd.prog.depth 25 = false := by kernel_rfl
  have hs := same25 p hp
  unfold execOp; rw [ho]; simp only [hx, hy]
  go_simp
end Go.Proofs.YtdkajbhhmgmohaaDoor
