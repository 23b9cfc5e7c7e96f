/-
  A region that draws its order, by an invariant: each operation is asked once, in any world that may come up, under what the operations that it waits for have left.
-/
import Derived.Orders
import Derived.Laws.World
import Derived.Tactics
namespace Inv
open Go

/-- What an operation has left in its temporary. -/
def dval (o : Oper) (a : Act) : Value := match o.dst with | some d => a.eval (.tmp d) | none => undef
def valAt (ops : Array Oper) (a : Act) (j : Nat) : Value := match ops[j]? with | some o => dval o a | none => undef
/-- A frame that differs from a0 only in the region's own temporaries. -/
structure Like (ops : Array Oper) (a0 a : Act) : Prop where
  size : a.tmps.size = a0.tmps.size
  defers : a.defers = a0.defers
  rest : ∀ s, (ops.all fun o => o.dst != some s) = true → a.eval (.tmp s) = a0.eval (.tmp s)
def Deps (ops : Array Oper) (V : Nat → Value → World → Prop) (a : Act) (w : World) : List Edge → Prop
  | [] => True
  | e :: t => (Region.binds .any e = true → V e.on (valAt ops a e.on) w) ∧ Deps ops V a w t
theorem Deps.of {ops : Array Oper} {V : Nat → Value → World → Prop} {a : Act} {w : World} : ∀ (l : List Edge), (∀ e ∈ l, Region.binds .any e = true → V e.on (valAt ops a e.on) w) → Deps ops V a w l
  | [], _ => trivial
  | e :: t, h => ⟨h e (by simp), Deps.of t fun e' he' => h e' (by simp [he'])⟩
/-- What an operation owes. -/
def OpOK (P : Program) (ops : Array Oper) (Q : Exit → Act → World → Prop) (a0 : Act) (Base : World → Prop) (Step : World → World → Prop) (V : Nat → Value → World → Prop) (i : Nat) (o : Oper) : Prop :=
  ∀ a w, Like ops a0 a → Base w → Deps ops V a w o.after.toList →
    (Region.wanted o (yielded ops a.tmps) = true ∧ o.wp P a w (fun a' w' => ∃ v, a' = a.put o.dst v ∧ Step w w' ∧ Base w' ∧ V i (if o.dst.isSome then v else undef) w') Q) ∨
    (Region.wanted o (yielded ops a.tmps) = false ∧ V i undef w)
def AllOK (R : Nat → Oper → Prop) : Nat → List Oper → Prop
  | _, [] => True
  | i, o :: t => R i o ∧ AllOK R (i + 1) t
theorem AllOK.get {R : Nat → Oper → Prop} : ∀ {l : List Oper} {i : Nat}, AllOK R i l → ∀ (k : Nat) (o : Oper), l[k]? = some o → R (i + k) o
  | [], _, _, k, o, h => by simp at h
  | x :: t, i, h, 0, o, hk => by simp at hk; subst hk; exact h.1
  | x :: t, i, h, k + 1, o, hk => by
    have := AllOK.get h.2 k o (by simpa using hk)
    rwa [Nat.add_assoc, Nat.add_comm 1 k] at this
/-- Edges lead back; no two operations have one temporary; each temporary is in the frame. -/
def okB (ops : Array Oper) (n : Nat) : Bool :=
  ((List.range ops.size).all fun i => ((ops[i]?).map fun o => o.after.all fun e => decide (e.on < i)).getD true) &&
  ((List.range ops.size).all fun i => (List.range ops.size).all fun j => i == j || (match (ops[i]?).bind (·.dst) with | some d => (ops[j]?).bind (·.dst) != some d | none => true)) &&
  (ops.all fun o => match o.dst with | some d => decide (d < n) | none => true)
structure OkP (ops : Array Oper) (n : Nat) : Prop where
  back : ∀ (i : Nat) (o : Oper), ops[i]? = some o → ∀ e ∈ o.after, e.on < i
  apart : ∀ (i j : Nat) (oi oj : Oper) (d : Tmp), ops[i]? = some oi → ops[j]? = some oj → oi.dst = some d → oj.dst = some d → i = j
  here : ∀ (i : Nat) (o : Oper) (d : Tmp), ops[i]? = some o → o.dst = some d → d < n
theorem okP {ops : Array Oper} {n : Nat} (h : okB ops n = true) : OkP ops n := by
  unfold okB at h
  rw [Bool.and_eq_true, Bool.and_eq_true] at h
  obtain ⟨⟨h1, h2⟩, h3⟩ := h
  have lt : ∀ (i : Nat) (o : Oper), ops[i]? = some o → i < ops.size := fun i o hi => (Array.getElem?_eq_some_iff.1 hi).1
  refine ⟨fun i o hi e he => ?_, fun i j oi oj d hi hj di dj => ?_, fun i o d hi hd => ?_⟩
  · have := List.all_eq_true.1 h1 i (List.mem_range.2 (lt i o hi))
    simp only [hi, Option.map_some, Option.getD_some] at this
    have h5 := Array.all_eq_true'.1 this e he
    exact of_decide_eq_true h5
  · have := List.all_eq_true.1 (List.all_eq_true.1 h2 i (List.mem_range.2 (lt i oi hi))) j (List.mem_range.2 (lt j oj hj))
    simp only [hi, hj, Option.bind_some, di, dj] at this
    simpa using this
  · have := Array.all_eq_true'.1 h3 o (Array.mem_of_getElem? hi)
    rw [hd] at this
    exact of_decide_eq_true this

section
variable {P : Program} {ops : Array Oper} {Q : Exit → Act → World → Prop} {a0 : Act} {Base : World → Prop} {Step : World → World → Prop} {V : Nat → Value → World → Prop}

theorem eval_put_same {a : Act} {d : Tmp} {v : Value} (h : d < a.tmps.size) : (a.put (some d) v).eval (.tmp d) = v := by
  show (a.tmps.setIfInBounds d v).getD d undef = v
  simp [h]
theorem eval_put_other {a : Act} {dst : Option Tmp} {s : Tmp} {v : Value} (h : dst ≠ some s) : (a.put dst v).eval (.tmp s) = a.eval (.tmp s) := by
  cases dst with
  | none => rfl
  | some d =>
    have hne : d ≠ s := fun e => h (by rw [e])
    show (a.tmps.setIfInBounds d v).getD s undef = a.tmps.getD s undef
    simp [hne]
theorem size_put (a : Act) (dst : Option Tmp) (v : Value) : (a.put dst v).tmps.size = a.tmps.size := by
  cases dst <;> simp [Act.put]
theorem defers_put (a : Act) (dst : Option Tmp) (v : Value) : (a.put dst v).defers = a.defers := by
  cases dst <;> rfl
theorem Like.put {a : Act} (h : Like ops a0 a) {i : Nat} {o : Oper} (ho : ops[i]? = some o) (v : Value) : Like ops a0 (a.put o.dst v) := by
  refine ⟨(size_put _ _ _).trans h.size, (defers_put _ _ _).trans h.defers, fun s hs => ?_⟩
  have hne : o.dst ≠ some s := by
    have := Array.all_eq_true'.1 hs o (Array.mem_of_getElem? ho)
    simpa using this
  rw [eval_put_other hne, h.rest s hs]
theorem valAt_put_same {a : Act} {i : Nat} {o : Oper} (ho : ops[i]? = some o) {n : Nat} (hok : OkP ops n) (hn : a.tmps.size = n) (v : Value) : valAt ops (a.put o.dst v) i = if o.dst.isSome then v else undef := by
  unfold valAt
  rw [ho]
  simp only [dval]
  cases hd : o.dst with
  | none => rfl
  | some d => simp only [Option.isSome_some, if_true]; exact eval_put_same (by rw [hn]; exact hok.here i o d ho hd)
theorem valAt_put_other {a : Act} {i j : Nat} {o : Oper} (ho : ops[i]? = some o) {n : Nat} (hok : OkP ops n) (hij : j ≠ i) (v : Value) : valAt ops (a.put o.dst v) j = valAt ops a j := by
  unfold valAt
  cases hj : ops[j]? with
  | none => rfl
  | some oj =>
    simp only [dval]
    cases hdj : oj.dst with
    | none => rfl
    | some d =>
      simp only
      exact eval_put_other (fun e => hij (hok.apart i j o oj d ho hj e hdj).symm)

structure I (ops : Array Oper) (a0 : Act) (Base : World → Prop) (V : Nat → Value → World → Prop) (listed : Array Bool) (a : Act) (w : World) : Prop where
  size : listed.size = ops.size
  like : Like ops a0 a
  base : Base w
  val : ∀ j, j < ops.size → listed.getD j true = true → V j (valAt ops a j) w

theorem mem_ready {listed : Array Bool} {i : Nat} (h : i ∈ Region.ready .any ops listed) : listed.getD i true = false ∧ ∃ o, ops[i]? = some o ∧ ∀ e ∈ o.after, Region.binds .any e = true → listed.getD e.on false = true := by
  unfold Region.ready at h
  rw [List.mem_filter] at h
  obtain ⟨h1, h2⟩ := h
  rw [Bool.and_eq_true] at h2
  obtain ⟨h2, h3⟩ := h2
  cases ho : ops[i]? with
  | none => rw [ho] at h3; simp at h3
  | some o =>
    rw [ho] at h3
    simp only [Option.map_some, Option.getD_some] at h3
    refine ⟨by simpa using h2, o, rfl, fun e he hb => ?_⟩
    have := Array.all_eq_true'.1 h3 e he
    rw [hb] at this
    simpa using this
theorem all_listed {n : Nat} (hok : OkP ops n) {listed : Array Bool} (hs : listed.size = ops.size) (h : Region.ready .any ops listed = []) : ∀ j, j < ops.size → listed.getD j true = true := by
  intro j
  induction j using Nat.strongRecOn with
  | _ j ih =>
    intro hj
    cases hb : listed.getD j true with
    | true => rfl
    | false =>
      exfalso
      have hm : j ∈ Region.ready .any ops listed := by
        unfold Region.ready
        rw [List.mem_filter]
        refine ⟨List.mem_range.2 hj, ?_⟩
        rw [hb]
        have ho : ops[j]? = some ops[j] := Array.getElem?_eq_getElem hj
        rw [ho]
        simp only [Option.map_some, Option.getD_some, Bool.not_false, Bool.true_and]
        refine Array.all_eq_true'.2 fun e he => ?_
        have hlt := hok.back j _ ho e he
        have h1 := ih e.on hlt (by omega)
        have h2 : e.on < listed.size := by omega
        have : listed.getD e.on false = true := by
          simp [h2] at h1 ⊢; exact h1
        simp [this]
      rw [h] at hm
      cases hm
def unl (listed : Array Bool) : Nat := listed.toList.countP (· == false)
theorem unl_set (listed : Array Bool) (i : Nat) (h : listed.getD i true = false) : unl (listed.setIfInBounds i true) + 1 = unl listed := by
  have hi : i < listed.size := by
    rcases Nat.lt_or_ge i listed.size with h' | h'
    · exact h'
    · simp [h'] at h
  unfold unl
  rw [Array.toList_setIfInBounds]
  have key : ∀ (l : List Bool) (i : Nat), l[i]? = some false → (l.set i true).countP (· == false) + 1 = l.countP (· == false) := by
    intro l
    induction l with
    | nil => intro i h; simp at h
    | cons x t ih =>
      intro i h
      cases i with
      | zero => simp at h; subst h; simp
      | succ i =>
        have := ih i (by simpa using h)
        cases x <;> simp_all <;> omega
  refine key _ _ ?_
  simp [hi] at h
  rw [Array.getElem?_toList, Array.getElem?_eq_getElem hi, h]
theorem ready_nil_of_unl {listed : Array Bool} (h : unl listed = 0) : Region.ready .any ops listed = [] := by
  apply List.eq_nil_iff_forall_not_mem.2
  intro i hi
  have := unl_set listed i (mem_ready hi).1
  omega
theorem wpAny_inv {n : Nat} (hok : OkP ops n) (hn : a0.tmps.size = n)
    (hmono : ∀ w w' j v, Step w w' → V j v w → V j v w')
    (hall : AllOK (OpOK P ops Q a0 Base Step V) 0 ops.toList)
    (hend : ∀ a' w', Like ops a0 a' → Base w' → (∀ j, j < ops.size → V j (valAt ops a' j) w') → Q .normal a' w') :
    ∀ (fuel : Nat) (listed : Array Bool) (a : Act) (w : World), unl listed ≤ fuel → I ops a0 Base V listed a w → wpAny P .any ops Q fuel listed a w := by
  intro fuel
  induction fuel with
  | zero =>
    intro listed a w hf hI
    have hr : Region.ready .any ops listed = [] := ready_nil_of_unl (listed := listed) (by omega)
    exact ⟨hr, hend a w hI.like hI.base fun j hj => hI.val j hj (all_listed hok hI.size hr j hj)⟩
  | succ fuel ih =>
    intro listed a w hf hI
    refine ⟨fun hr => hend a w hI.like hI.base fun j hj => hI.val j hj (all_listed hok hI.size hr j hj), fun i hi => ?_⟩
    obtain ⟨hun, o, ho, hdep⟩ := mem_ready hi
    have hR := hall.get i o (by simpa using ho)
    rw [Nat.zero_add] at hR
    have hlt : i < ops.size := (Array.getElem?_eq_some_iff.1 ho).1
    have hd : Deps ops V a w o.after.toList := Deps.of _ fun e he hb => by
      have he' : e ∈ o.after := by simpa using he
      have h1 := hok.back i o ho e he'
      have h2 := hdep e he' hb
      refine hI.val e.on (by omega) ?_
      have h3 : e.on < listed.size := by rw [hI.size]; omega
      simp [h3] at h2 ⊢
      exact h2
    have hset : unl (listed.setIfInBounds i true) ≤ fuel := by have := unl_set listed i hun; omega
    have hIset : ∀ (v : Value) (w' : World), Step w w' → Base w' → V i (if o.dst.isSome then v else undef) w' → I ops a0 Base V (listed.setIfInBounds i true) (a.put o.dst v) w' := fun v w' hs hb hv =>
      ⟨by simp [hI.size], hI.like.put ho v, hb, fun j hj hl => by
        by_cases hji : j = i
        · subst hji
          rw [valAt_put_same ho hok (by rw [hI.like.size, hn])]; exact hv
        · rw [valAt_put_other ho hok hji]
          refine hmono w w' _ _ hs (hI.val j hj ?_)
          have hij : i ≠ j := fun e => hji e.symm
          have hjl : j < listed.size := by rw [hI.size]; exact hj
          simp [hjl, hij] at hl ⊢
          exact hl⟩
    unfold wpOp
    rw [ho]
    simp only
    rcases hR a w hI.like hI.base hd with ⟨hw, hwp⟩ | ⟨hw, hv⟩
    · rw [if_pos hw]
      refine .inl (Oper.wp_mono ?_ hwp)
      rintro a' w' ⟨v, rfl, hs, hb, hv⟩
      exact ih _ _ _ hset (hIset v w' hs hb hv)
    · rw [if_neg (by rw [hw]; decide)]
      refine ih _ _ _ hset ⟨by simp [hI.size], hI.like.put ho undef, hI.base, fun j hj hl => ?_⟩
      by_cases hji : j = i
      · subst hji
        rw [valAt_put_same ho hok (by rw [hI.like.size, hn])]
        cases o.dst <;> exact hv
      · rw [valAt_put_other ho hok hji]
        refine hI.val j hj ?_
        have hij : i ≠ j := fun e => hji e.symm
        have hjl : j < listed.size := by rw [hI.size]; exact hj
        simp [hjl, hij] at hl ⊢
        exact hl
/-- **The rule.** -/
theorem wp_region_inv {id : Nat} {a : Act} {w : World} (hm : P.follows .mixedOrders = true) (hok : okB ops a.tmps.size = true)
    (Base : World → Prop) (Step : World → World → Prop) (V : Nat → Value → World → Prop)
    (hmono : ∀ w w' j v, Step w w' → V j v w → V j v w') (hB : Base w.drew)
    (hall : AllOK (OpOK P ops Q a Base Step V) 0 ops.toList)
    (hend : ∀ a' w', Like ops a a' → Base w' → (∀ j, j < ops.size → V j (valAt ops a' j) w') → Q .normal a' w') : (Code.region id ops true).wp P Q a w := by
  refine wp_region_any hm (wpAny_inv (okP hok) rfl hmono hall hend _ _ _ _ ?_ ⟨by simp, ⟨rfl, rfl, fun _ _ => rfl⟩, hB, fun j hj hl => ?_⟩)
  · unfold unl
    exact Nat.le_trans List.countP_le_length (by simp)
  · simp [hj] at hl
/-- What is listed. -/
def Lst (listed : Array Bool) : Nat → Bool := fun j => listed.getD j false
theorem lst_set (listed : Array Bool) (i : Nat) (hi : i < listed.size) : ∀ j, Lst (listed.setIfInBounds i true) j = if j = i then true else Lst listed j := fun j => by
  unfold Lst
  by_cases h : j = i
  · subst h; simp [hi]
  · have h2 : ¬ i = j := fun e => h e.symm
    simp [h, h2]
/-- **The rule, by any invariant** of what was done, the frame and the world. No operation is guarded. -/
theorem wpAny_J {n : Nat} (hok : OkP ops n) (hg : ∀ (i : Nat) (o : Oper), ops[i]? = some o → o.guard = none) (J : (Nat → Bool) → Act → World → Prop)
    (hop : ∀ L L' a w i o, ops[i]? = some o → L i = false → (∀ e ∈ o.after, Region.binds .any e = true → L e.on = true) → J L a w → (∀ j, L' j = if j = i then true else L j) → o.wp P a w (fun a' w' => J L' a' w') Q)
    (hend : ∀ L a' w', (∀ j, j < ops.size → L j = true) → J L a' w' → Q .normal a' w') :
    ∀ (fuel : Nat) (listed : Array Bool) (a : Act) (w : World), unl listed ≤ fuel → listed.size = ops.size → J (Lst listed) a w → wpAny P .any ops Q fuel listed a w := by
  have hfin : ∀ (listed : Array Bool) (a : Act) (w : World), Region.ready .any ops listed = [] → listed.size = ops.size → J (Lst listed) a w → Q .normal a w := fun listed a w hr hs hJ => hend _ a w (fun j hj => by
    have h := all_listed hok hs hr j hj
    have hj2 : j < listed.size := by omega
    unfold Lst
    simp [hj2] at h ⊢
    exact h) hJ
  intro fuel
  induction fuel with
  | zero =>
    intro listed a w hf hs hJ
    have hr : Region.ready .any ops listed = [] := ready_nil_of_unl (listed := listed) (by omega)
    exact ⟨hr, hfin listed a w hr hs hJ⟩
  | succ fuel ih =>
    intro listed a w hf hs hJ
    refine ⟨fun hr => hfin listed a w hr hs hJ, fun i hi => ?_⟩
    obtain ⟨hun, o, ho, hdep⟩ := mem_ready hi
    have hlt : i < ops.size := (Array.getElem?_eq_some_iff.1 ho).1
    have hset : unl (listed.setIfInBounds i true) ≤ fuel := by have := unl_set listed i hun; omega
    have hLi : Lst listed i = false := by
      have hj2 : i < listed.size := by omega
      unfold Lst
      simp [hj2] at hun ⊢
      exact hun
    unfold wpOp
    rw [ho]
    simp only
    rw [if_pos (by simp [Region.wanted, hg i o ho])]
    refine .inl (Oper.wp_mono ?_ (hop (Lst listed) (Lst (listed.setIfInBounds i true)) a w i o ho hLi hdep hJ (lst_set listed i (by omega))))
    intro a' w' hJ'
    exact ih _ _ _ hset (by simp [hs]) hJ'
theorem wp_region_J {id : Nat} {a : Act} {w : World} (hm : P.follows .mixedOrders = true) (hok : okB ops a.tmps.size = true) (hg : ∀ (i : Nat) (o : Oper), ops[i]? = some o → o.guard = none)
    (J : (Nat → Bool) → Act → World → Prop) (h0 : ∀ L, (∀ j, L j = false) → J L a w.drew)
    (hop : ∀ L L' a w i o, ops[i]? = some o → L i = false → (∀ e ∈ o.after, Region.binds .any e = true → L e.on = true) → J L a w → (∀ j, L' j = if j = i then true else L j) → o.wp P a w (fun a' w' => J L' a' w') Q)
    (hend : ∀ L a' w', (∀ j, j < ops.size → L j = true) → J L a' w' → Q .normal a' w') : (Code.region id ops true).wp P Q a w := by
  refine wp_region_any hm (wpAny_J (okP hok) hg J hop hend _ _ _ _ ?_ (by simp) (h0 _ fun j => ?_))
  · unfold unl
    exact Nat.le_trans List.countP_le_length (by simp)
  · unfold Lst
    by_cases h : j < ops.size
    · simp [h]
    · simp [h]
/-- A plain operation; a guarded one whose guard is met. -/
theorem opOK_plain {i : Nat} {o : Oper} (hg : o.guard = none)
    (h : ∀ a w, Like ops a0 a → Base w → Deps ops V a w o.after.toList → o.wp P a w (fun a' w' => ∃ v, a' = a.put o.dst v ∧ Step w w' ∧ Base w' ∧ V i (if o.dst.isSome then v else undef) w') Q) : OpOK P ops Q a0 Base Step V i o :=
  fun a w h1 h2 h3 => .inl ⟨by simp [Region.wanted, hg], h a w h1 h2 h3⟩
theorem yielded_val {a : Act} {j : Nat} {b : Bool} (h : valAt ops a j = .bool b) : yielded ops a.tmps j = some b := by
  unfold valAt at h
  unfold yielded
  cases ho : ops[j]? with
  | none => rw [ho] at h; cases h
  | some o =>
    rw [ho] at h
    simp only [dval] at h
    cases hd : o.dst with
    | none => rw [hd] at h; cases h
    | some d =>
      rw [hd] at h
      simp only [Act.eval] at h
      have hlt : d < a.tmps.size := by
        rcases Nat.lt_or_ge d a.tmps.size with h' | h'
        · exact h'
        · simp [h'] at h; cases h
      simp [hlt] at h
      simp [hd, hlt, h]
theorem opOK_guard {i : Nat} {o : Oper} (j : Nat) (b : Bool) (hg : o.guard = some (j, b)) (hv : ∀ a w, Like ops a0 a → Base w → Deps ops V a w o.after.toList → valAt ops a j = .bool b)
    (h : ∀ a w, Like ops a0 a → Base w → Deps ops V a w o.after.toList → o.wp P a w (fun a' w' => ∃ v, a' = a.put o.dst v ∧ Step w w' ∧ Base w' ∧ V i (if o.dst.isSome then v else undef) w') Q) : OpOK P ops Q a0 Base Step V i o :=
  fun a w h1 h2 h3 => .inl ⟨by simp [Region.wanted, hg, yielded_val (hv a w h1 h2 h3)], h a w h1 h2 h3⟩
/-- An operation whose run is known. -/
theorem wp_of_run {o : Oper} {a : Act} {w w' : World} {K : Act → World → Prop} {v : Value} (hr : (execOp a.eval o).run P w = .ok (.value v) w') (h : K (a.put o.dst v) w') : o.wp P a w K Q := by
  unfold Oper.wp; rw [hr]; exact h
theorem wp_of_skip {o : Oper} {a : Act} {w w' : World} {K : Act → World → Prop} (hr : (execOp a.eval o).run P w = .ok .skip w') (h : K (a.put o.dst undef) w') : o.wp P a w K Q := by
  unfold Oper.wp; rw [hr]; exact h
theorem wp_of_enter {o : Oper} {a : Act} {w w1 : World} {K : Act → World → Prop} {f : FuncId} {args : Array Value} (hr : (execOp a.eval o).run P w = .ok (.enter f args) w1) {R : Ending → World → Prop} (hc : Calls P f args w1 R)
    (h : ∀ e w', R e w' → ∃ v, e = .returned v ∧ K (a.put o.dst v) w') : o.wp P a w K Q := by
  unfold Oper.wp; rw [hr, Oper.upon_enter]
  refine hc.mono fun e w' he => ?_
  obtain ⟨v, rfl, hk⟩ := h e w' he
  exact hk
theorem run_move {o : Oper} {a : Act} {w : World} (x : Operand) (ho : o.op = .move x) (v : Value) (hx : a.eval x = v) : (execOp a.eval o).run P w = .ok (.value v) w := by
  unfold execOp; rw [ho]; simp only [hx]; rfl
theorem run_assign {o : Oper} {a : Act} {w : World} (x : Operand) (ho : o.op = .assign x) (v : Value) (hx : a.eval x = v) : (execOp a.eval o).run P w = .ok (.value v) w := by
  unfold execOp; rw [ho]; simp only [hx]; rfl
theorem run_pick {o : Oper} {a : Act} {w : World} (c x y : Operand) (ho : o.op = .pick c x y) (b : Bool) (hc : a.eval c = .bool b) (v : Value) (hv : (if b then a.eval x else a.eval y) = v) : (execOp a.eval o).run P w = .ok (.value v) w := by
  unfold execOp; rw [ho]; subst hv; cases b <;> simp [hc, asBool] <;> rfl
theorem run_of {o : Oper} {a : Act} {w w' : World} {s : Sem Value} {v : Value} (he : execOp a.eval o = (do pure (.value (← s)))) (hs : s.run P w = .ok v w') : (execOp a.eval o).run P w = .ok (.value v) w' := by
  rw [he, Sem.run_bind, hs]; rfl
end
end Inv
