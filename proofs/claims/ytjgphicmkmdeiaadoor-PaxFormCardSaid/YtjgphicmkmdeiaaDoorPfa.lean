/-
  The first records, cut short, as both packages' records: the statement that appends to both, whatever its order.
-/
import Derived.Test.YtjgphicmkmdeiaaDoorPgb
import Derived.Test.YtjgphicmkmdeiaaDoorInv
import Derived.Test.YtjgphicmkmdeiaaDoorPfo
namespace Go.Proofs.YtjgphicmkmdeiaaDoor
open Go.RowKit Go.Maps Inv

theorem own_type {B k : Nat} {t T : TypeId} {w : World} {v : Value} {n : Nat} {xs : List Value} {h : Nat} {cs : Array Value} {fr : Nat × Nat} (ho : w.ownsRow B t k v n xs) (hh : w.heap[h]? = some (.cells cs T fr)) (hne : t ≠ T) : v.ownBlock ≠ some h := by
  intro he
  obtain ⟨_, ⟨h1, h2⟩ | ⟨g, cap, cur, rfl, h2, h3, _⟩⟩ := ho
  · subst h1; simp [Value.ownBlock] at he
  · simp [Value.ownBlock] at he
    subst he
    rw [h3] at hh
    injection hh with hh
    injection hh with _ h5 _
    exact hne h5
theorem grown_type {B k : Nat} {t T : TypeId} {w w' : World} {v : Value} {n : Nat} {xs : List Value} (ho : w.ownsRow B t k v n xs) (hg : w.grownBy w' v.ownBlock) (hne : t ≠ T) : ∀ (q : Nat) (cs : Array Value) (fr : Nat × Nat), w.heap[q]? = some (.cells cs T fr) → w'.heap[q]? = some (.cells cs T fr) := fun q _ _ hq =>
  (hg.block q (Array.getElem?_eq_some_iff.1 hq).1 (fun e => own_type ho hq hne e.symm)).trans hq
theorem own_cells {B k : Nat} {t : TypeId} {w : World} {v : Value} {n : Nat} {xs : List Value} (ho : w.ownsRow B t k v n xs) : ∀ j, v.ownBlock = some j → ∃ cs, w.heap[j]? = some (.cells cs t (0, 0)) := by
  intro j hj
  obtain ⟨_, ⟨h1, h2⟩ | ⟨g, cap, cur, rfl, h2, h3, _⟩⟩ := ho
  · subst h1; simp [Value.ownBlock] at hj
  · simp [Value.ownBlock] at hj
    subst hj
    exact ⟨cur, h3⟩
theorem own_grown {B k k2 : Nat} {t T : TypeId} {w w' : World} {v u : Value} {n m : Nat} {xs ys : List Value} (hu : w.ownsRow B T k2 u m ys) (ho : w.ownsRow B t k v n xs) (hg : w.grownBy w' v.ownBlock) (hne : t ≠ T) : w'.ownsRow B T k2 u m ys :=
  own_staysK hu (fun j hj => by obtain ⟨cs, hc⟩ := own_cells hu j hj; rw [grown_type ho hg hne j cs _ hc, hc])
theorem own_allocK {B k : Nat} {t : TypeId} {w : World} {v : Value} {n : Nat} {xs : List Value} (ho : w.ownsRow B t k v n xs) (o : Obj) : (w.alloc o).ownsRow B t k v n xs :=
  own_staysK ho (fun j hj => heap_alloc_old _ _ (ho.lt j hj).2)
theorem slk_of {w : World} {q : Nat} {x y : Value} {t : TypeId} (h : w.heap[q]? = some (.cells #[x, y] t (0, 0))) : SlK 2 w (.slice (some ⟨q, 0, none⟩) 1 1) 1 [x, y] := by
  refine ⟨rfl, .inl ⟨q, 0, 1, rfl, Nat.le_refl _, fun i v hi => ?_⟩⟩
  rw [Nat.zero_add]
  exact (cell_of_row _ _ _ _ _ _ h).trans (by simpa using hi)
def opsF : Array Oper := #[{ dst := some 45, op := Go.Op.move (Go.Operand.tmp 4), type := 22, pos := "law.go:25", after := #[], guard := none },
  { dst := some 46, op := Go.Op.load 37 (Go.Operand.tmp 7), type := 37, pos := "law.go:25", after := #[], guard := none },
  { dst := some 47, op := Go.Op.buildSlice 22 1 #[(0, Go.Operand.tmp 46)], type := 22, pos := "law.go:25", after := #[{ on := 1, ground := Go.Ground.data }], guard := none },
  { dst := some 48, op := Go.Op.call { callee := Go.Callee.builtin Go.Builtin.append, args := #[Go.Operand.tmp 45, Go.Operand.tmp 47], argTypes := #[22, 22] }, type := 22, pos := "law.go:25", after := #[{ on := 0, ground := Go.Ground.data },
  { on := 2, ground := Go.Ground.data }], guard := none },
  { dst := some 49, op := Go.Op.move (Go.Operand.tmp 5), type := 23, pos := "law.go:25", after := #[], guard := none },
  { dst := some 50, op := Go.Op.load 37 (Go.Operand.tmp 7), type := 37, pos := "law.go:25", after := #[], guard := none },
  { dst := some 51, op := Go.Op.buildSlice 23 1 #[(0, Go.Operand.tmp 50)], type := 23, pos := "law.go:25", after := #[{ on := 5, ground := Go.Ground.data }], guard := none },
  { dst := some 52, op := Go.Op.call { callee := Go.Callee.builtin Go.Builtin.append, args := #[Go.Operand.tmp 49, Go.Operand.tmp 51], argTypes := #[23, 23] }, type := 23, pos := "law.go:25", after := #[{ on := 4, ground := Go.Ground.data },
  { on := 6, ground := Go.Ground.data },
  { on := 3, ground := Go.Ground.chain }], guard := none },
  { dst := some 4, op := Go.Op.assign (Go.Operand.tmp 48), type := 22, pos := "law.go:25", after := #[{ on := 3, ground := Go.Ground.data },
  { on := 7, ground := Go.Ground.chain },
  { on := 0, ground := Go.Ground.phase },
  { on := 1, ground := Go.Ground.phase },
  { on := 2, ground := Go.Ground.phase },
  { on := 3, ground := Go.Ground.phase },
  { on := 4, ground := Go.Ground.textOnly Go.Departure.lateStores },
  { on := 5, ground := Go.Ground.textOnly Go.Departure.lateStores },
  { on := 6, ground := Go.Ground.textOnly Go.Departure.lateStores },
  { on := 7, ground := Go.Ground.textOnly Go.Departure.lateStoresUnsure }], guard := none },
  { dst := some 5, op := Go.Op.assign (Go.Operand.tmp 52), type := 23, pos := "law.go:25", after := #[{ on := 7, ground := Go.Ground.data },
  { on := 8, ground := Go.Ground.chain },
  { on := 0, ground := Go.Ground.phase },
  { on := 1, ground := Go.Ground.phase },
  { on := 2, ground := Go.Ground.phase },
  { on := 3, ground := Go.Ground.phase },
  { on := 4, ground := Go.Ground.phase },
  { on := 5, ground := Go.Ground.phase },
  { on := 6, ground := Go.Ground.phase },
  { on := 7, ground := Go.Ground.phase },
  { on := 8, ground := Go.Ground.phase }], guard := none }]
theorem opsF_size : opsF.size = 10 := rfl
structure FJ (a0 : Act) (w0 : World) (B0 h : Nat) (x y va vb : Value) (la lb : List Px.Rec) (r : Px.Rec) (L : Nat → Bool) (a : Act) (W : World) : Prop where
  like : Like opsF a0 a
  box : W.heap[h]? = some (.cells #[x, y] 37 (0, 0))
  below : Below B0 w0 W
  f0 : L 0 = true → a.eval (.tmp 45) = va
  f1 : L 1 = true → a.eval (.tmp 46) = .agg #[x, y]
  f2 : L 2 = true → L 3 = false → ∃ q, a.eval (.tmp 47) = .slice (some ⟨q, 0, none⟩) 1 1 ∧ W.heap[q]? = some (.cells #[x, y] 37 (0, 0))
  f3 : L 3 = true → OwnR B0 37 W (a.eval (.tmp 48)) (la ++ [r])
  g3 : L 3 = false → OwnR B0 37 W va la
  f4 : L 4 = true → a.eval (.tmp 49) = vb
  f5 : L 5 = true → a.eval (.tmp 50) = .agg #[x, y]
  f6 : L 6 = true → L 7 = false → ∃ q, a.eval (.tmp 51) = .slice (some ⟨q, 0, none⟩) 1 1 ∧ W.heap[q]? = some (.cells #[x, y] 39 (0, 0))
  f7 : L 7 = true → OwnR B0 39 W (a.eval (.tmp 52)) (lb ++ [r])
  g7 : L 7 = false → OwnR B0 39 W vb lb
  f8 : L 8 = true → a.eval (.tmp 4) = a.eval (.tmp 48)
  g8 : L 8 = false → a.eval (.tmp 4) = va
  f9 : L 9 = true → a.eval (.tmp 5) = a.eval (.tmp 52)
  g9 : L 9 = false → a.eval (.tmp 5) = vb
  d8 : L 8 = true → L 0 = true ∧ L 3 = true
  d9 : L 9 = true → L 4 = true ∧ L 7 = true
theorem eval_const (a : Act) (d : Option Tmp) (v : Value) (s : Tmp) (h : d ≠ some s) {z : Value} (e : a.eval (.tmp s) = z) : (a.put d v).eval (.tmp s) = z := (eval_put_other h).trans e
theorem run_loadR {o : Oper} {a : Act} {W : World} (s : Tmp) (ho : o.op = .load 37 (.tmp s)) (h : Nat) (hx : a.eval (.tmp s) = .pointer (some ⟨h, 0, none⟩)) {x y : Value} (hb : W.heap[h]? = some (.cells #[x, y] 37 (0, 0))) :
    (execOp a.eval o).run Tryd.prog W = .ok (.value (.agg #[x, y])) W := by
  obtain ⟨c0, c1, -, -⟩ := row2 hb
  unfold execOp; rw [ho]; simp only [hx]
  go_simp
theorem run_build1 {o : Oper} {a : Act} {W : World} (s : Tmp) (ho : o.op = .buildSlice 22 1 #[(0, .tmp s)]) {x y : ByteArray} (hx : a.eval (.tmp s) = .agg #[.string x, .string y]) :
    (execOp a.eval o).run Tryd.prog W = .ok (.value (.slice (some ⟨W.heap.size, 0, none⟩) 1 1)) (W.alloc (.cells #[.string x, .string y] 37)) := by
  have hx2 : a.tmps[s]?.getD undef = .agg #[.string x, .string y] := by simpa [Act.eval] using hx
  unfold execOp; rw [ho]
  go_simp
theorem run_build2 {o : Oper} {a : Act} {W : World} (s : Tmp) (ho : o.op = .buildSlice 23 1 #[(0, .tmp s)]) {x y : ByteArray} (hx : a.eval (.tmp s) = .agg #[.string x, .string y]) :
    (execOp a.eval o).run Tryd.prog W = .ok (.value (.slice (some ⟨W.heap.size, 0, none⟩) 1 1)) (W.alloc (.cells #[.string x, .string y] 39)) := by
  have hx2 : a.tmps[s]?.getD undef = .agg #[.string x, .string y] := by simpa [Act.eval] using hx
  unfold execOp; rw [ho]
  go_simp
theorem run_appF (T e : TypeId) (i0 : TypeInfo) (hu : Tryd.prog.underlying T = some (.slice e)) (hi : Tryd.prog.info? e = some i0) (hz0 : i0.zero = some (.agg #[.string ⟨#[]⟩, .string ⟨#[]⟩])) (hz1 : i0.size = 2) (hz2 : i0.bytes = 32)
    {o : Oper} {a : Act} {W : World} (s t : Tmp) (ho : o.op = .call { callee := .builtin .append, args := #[.tmp s, .tmp t], argTypes := #[T, T] }) {B0 q : Nat} {v : Value} {l : List Px.Rec} {r : Px.Rec} {x y : ByteArray}
    (hv : a.eval (.tmp s) = v) (ht : a.eval (.tmp t) = .slice (some ⟨q, 0, none⟩) 1 1) (hq : W.heap[q]? = some (.cells #[.string x, .string y] e (0, 0))) (hr : nr [r] = [.string x, .string y]) (hown : OwnR B0 e W v l) (hB : B0 ≤ W.heap.size) (hl : l.length + 1 ≤ 1099511627776) :
    ∃ v' W', (execOp a.eval o).run Tryd.prog W = .ok (.value v') W' ∧ OwnR B0 e W' v' (l ++ [r]) ∧ W.grownBy W' v.ownBlock := by
  obtain ⟨v', w', hrun, h1, h2, h3⟩ := run_appK T e i0 (.agg #[.string ⟨#[]⟩, .string ⟨#[]⟩]) 2 32 hu hi hz0 hz1 hz2 rfl (by decide) (by decide) (m := 1) o.type (by intro z hz; simp at hz; rcases hz with rfl | rfl <;> rfl) hown (slk_of hq) hB hl
  refine ⟨v', w', ?_, ?_, h2⟩
  · unfold execOp
    simp only [ho, resolve, invoke, builtin, hv, ht, Result.andThen, List.map_toArray, List.map_cons, List.map_nil, Sem.run_bind, Sem.run_pure, hrun]
  · unfold OwnR; rw [nr_append, List.length_append, hr]; exact h1
set_option maxRecDepth 100000 in
set_option maxHeartbeats 4000000 in
theorem few_region (a0 : Act) (hn : a0.tmps.size = 55) (w : World) (B0 h : Nat) (bx bz : ByteArray) (va vb : Value) (la lb : List Px.Rec) (r : Px.Rec) (hr : nr [r] = [.string bx, .string bz]) (h4 : a0.eval (.tmp 4) = va) (h5 : a0.eval (.tmp 5) = vb) (h70 : a0.eval (.tmp 7) = .pointer (some ⟨h, 0, none⟩))
    (hbox : w.heap[h]? = some (.cells #[.string bx, .string bz] 37 (0, 0))) (hoa : OwnR B0 37 w va la) (hob : OwnR B0 39 w vb lb) (hap : va.ownBlock ≠ some h) (hB0 : B0 ≤ w.heap.size) (hla : la.length + 1 ≤ 1099511627776) (hlb : lb.length + 1 ≤ 1099511627776)
    (Q : Exit → Act → World → Prop)
    (hQ : ∀ p q va' vb' W, OwnR B0 37 W va' (la ++ [r]) → OwnR B0 39 W vb' (lb ++ [r]) → Below B0 w W → Q .normal (putAll a0 [(45, va), (46, .agg #[.string bx, .string bz]), (47, p), (48, va'), (49, vb), (50, .agg #[.string bx, .string bz]), (51, q), (52, vb'), (4, va'), (5, vb')]) W) : (Code.region 7 opsF true).wp Tryd.prog Q a0 w := by
  obtain ⟨i1, hi1⟩ := info_parts info37
  obtain ⟨i2, hi2⟩ := info_parts info39
  obtain ⟨x, hx⟩ : ∃ x, x = Value.string bx := ⟨_, rfl⟩
  obtain ⟨y, hy⟩ : ∃ y, y = Value.string bz := ⟨_, rfl⟩
  have hB : B0 ≤ w.drew.heap.size := hB0
  have h7 : ∀ a, Like opsF a0 a → a.eval (.tmp 7) = .pointer (some ⟨h, 0, none⟩) := fun a hl => (hl.rest 7 (by kernel_rfl)).trans h70
  refine wp_region_J (by kernel_rfl) (by rw [hn]; kernel_rfl) (fun i o ho => ?_) (FJ a0 w.drew B0 h (.string bx) (.string bz) va vb la lb r) (fun L hL => ?_) (fun L L' a W i o ho hLi hdep J hL' => ?_) (fun L a' W hall J => ?_)
  · have hi := (Array.getElem?_eq_some_iff.1 ho).1
    rw [opsF_size] at hi
    rcases (by omega : i = 0 ∨ i = 1 ∨ i = 2 ∨ i = 3 ∨ i = 4 ∨ i = 5 ∨ i = 6 ∨ i = 7 ∨ i = 8 ∨ i = 9) with rfl | rfl | rfl | rfl | rfl | rfl | rfl | rfl | rfl | rfl <;> (cases ho; rfl)
  · have hf : ∀ j, ¬ L j = true := fun j h => by rw [hL] at h; cases h
    exact ⟨⟨rfl, rfl, fun _ _ => rfl⟩, hbox, ⟨rfl, rfl, rfl, Nat.le_refl _, fun _ _ => rfl⟩, fun h => (hf _ h).elim, fun h => (hf _ h).elim, fun h => (hf _ h).elim, fun h => (hf _ h).elim, fun _ => own_staysK hoa (fun _ _ => rfl), fun h => (hf _ h).elim, fun h => (hf _ h).elim, fun h => (hf _ h).elim, fun h => (hf _ h).elim, fun _ => own_staysK hob (fun _ _ => rfl), fun h => (hf _ h).elim, fun _ => h4, fun h => (hf _ h).elim, fun _ => h5, fun h => (hf _ h).elim, fun h => (hf _ h).elim⟩
  · have hi := (Array.getElem?_eq_some_iff.1 ho).1
    rw [opsF_size] at hi
    have hm : ∀ j, L j = true → L' j = true := fun j h => by rw [hL' j]; split <;> first | rfl | exact h
    have nn : ∀ j, L' j = false → L j = false := fun j h => by cases h2 : L j with | false => rfl | true => rw [hm j h2] at h; cases h
    have hsz : a.tmps.size = 55 := J.like.size.trans hn
    have dep : ∀ e ∈ o.after, (h : Region.binds .any e = true := by decide) → L e.on = true := fun e he h => hdep e he h
    rcases (by omega : i = 0 ∨ i = 1 ∨ i = 2 ∨ i = 3 ∨ i = 4 ∨ i = 5 ∨ i = 6 ∨ i = 7 ∨ i = 8 ∨ i = 9) with rfl | rfl | rfl | rfl | rfl | rfl | rfl | rfl | rfl | rfl
    · have ho0 := ho
      cases ho
      have mm : ∀ j, j ≠ 0 → L' j = true → L j = true := fun j hj h => by rw [hL' j, if_neg hj] at h; exact h
      have hv : a.eval (.tmp 4) = va := J.g8 (by cases h : L 8 with | false => rfl | true => have h9 := (J.d8 h).1; rw [hLi] at h9; cases h9)
      refine wp_of_run (run_move _ rfl _ hv) ?_
      exact ⟨(J.like.put ho0 _),
        J.box,
        J.below,
        (fun _ => eval_put_same (by rw [hsz]; decide)),
        (fun h => eval_const _ _ _ _ (by decide) (J.f1 (mm 1 (by decide) h))),
        (fun h h2 => by obtain ⟨q, e1, e2⟩ := J.f2 (mm 2 (by decide) h) (nn _ h2); exact ⟨q, eval_const _ _ _ _ (by decide) e1, e2⟩),
        (fun h => (show OwnR B0 37 _ ((a.put (some 45) _).eval (.tmp 48)) (la ++ [r]) from by rw [eval_put_other (by decide)]; exact (J.f3 (mm 3 (by decide) h)))),
        (fun h => (J.g3 (nn _ h))),
        (fun h => eval_const _ _ _ _ (by decide) (J.f4 (mm 4 (by decide) h))),
        (fun h => eval_const _ _ _ _ (by decide) (J.f5 (mm 5 (by decide) h))),
        (fun h h2 => by obtain ⟨q, e1, e2⟩ := J.f6 (mm 6 (by decide) h) (nn _ h2); exact ⟨q, eval_const _ _ _ _ (by decide) e1, e2⟩),
        (fun h => (show OwnR B0 39 _ ((a.put (some 45) _).eval (.tmp 52)) (lb ++ [r]) from by rw [eval_put_other (by decide)]; exact (J.f7 (mm 7 (by decide) h)))),
        (fun h => (J.g7 (nn _ h))),
        (fun h => (eval_put_other (by decide)).trans ((J.f8 (mm 8 (by decide) h)).trans (eval_put_other (by decide)).symm)),
        (fun h => eval_const _ _ _ _ (by decide) (J.g8 (nn _ h))),
        (fun h => (eval_put_other (by decide)).trans ((J.f9 (mm 9 (by decide) h)).trans (eval_put_other (by decide)).symm)),
        (fun h => eval_const _ _ _ _ (by decide) (J.g9 (nn _ h))),
        (fun h => ⟨hm _ (J.d8 (mm 8 (by decide) h)).1, hm _ (J.d8 (mm 8 (by decide) h)).2⟩),
        (fun h => ⟨hm _ (J.d9 (mm 9 (by decide) h)).1, hm _ (J.d9 (mm 9 (by decide) h)).2⟩)⟩
    · have ho0 := ho
      cases ho
      have mm : ∀ j, j ≠ 1 → L' j = true → L j = true := fun j hj h => by rw [hL' j, if_neg hj] at h; exact h
      refine wp_of_run (run_loadR 7 rfl h (h7 a J.like) J.box) ?_
      exact ⟨(J.like.put ho0 _),
        J.box,
        J.below,
        (fun h => eval_const _ _ _ _ (by decide) (J.f0 (mm 0 (by decide) h))),
        (fun _ => eval_put_same (by rw [hsz]; decide)),
        (fun h h2 => by obtain ⟨q, e1, e2⟩ := J.f2 (mm 2 (by decide) h) (nn _ h2); exact ⟨q, eval_const _ _ _ _ (by decide) e1, e2⟩),
        (fun h => (show OwnR B0 37 _ ((a.put (some 46) _).eval (.tmp 48)) (la ++ [r]) from by rw [eval_put_other (by decide)]; exact (J.f3 (mm 3 (by decide) h)))),
        (fun h => (J.g3 (nn _ h))),
        (fun h => eval_const _ _ _ _ (by decide) (J.f4 (mm 4 (by decide) h))),
        (fun h => eval_const _ _ _ _ (by decide) (J.f5 (mm 5 (by decide) h))),
        (fun h h2 => by obtain ⟨q, e1, e2⟩ := J.f6 (mm 6 (by decide) h) (nn _ h2); exact ⟨q, eval_const _ _ _ _ (by decide) e1, e2⟩),
        (fun h => (show OwnR B0 39 _ ((a.put (some 46) _).eval (.tmp 52)) (lb ++ [r]) from by rw [eval_put_other (by decide)]; exact (J.f7 (mm 7 (by decide) h)))),
        (fun h => (J.g7 (nn _ h))),
        (fun h => (eval_put_other (by decide)).trans ((J.f8 (mm 8 (by decide) h)).trans (eval_put_other (by decide)).symm)),
        (fun h => eval_const _ _ _ _ (by decide) (J.g8 (nn _ h))),
        (fun h => (eval_put_other (by decide)).trans ((J.f9 (mm 9 (by decide) h)).trans (eval_put_other (by decide)).symm)),
        (fun h => eval_const _ _ _ _ (by decide) (J.g9 (nn _ h))),
        (fun h => ⟨hm _ (J.d8 (mm 8 (by decide) h)).1, hm _ (J.d8 (mm 8 (by decide) h)).2⟩),
        (fun h => ⟨hm _ (J.d9 (mm 9 (by decide) h)).1, hm _ (J.d9 (mm 9 (by decide) h)).2⟩)⟩
    · have ho0 := ho
      cases ho
      have mm : ∀ j, j ≠ 2 → L' j = true → L j = true := fun j hj h => by rw [hL' j, if_neg hj] at h; exact h
      refine wp_of_run (run_build1 46 rfl (J.f1 (dep ⟨1, .data⟩ (Array.mem_of_getElem? (i := 0) rfl)))) ?_
      exact ⟨(J.like.put ho0 _),
        ((heap_alloc_old _ _ (Array.getElem?_eq_some_iff.1 J.box).1).trans J.box),
        (J.below.alloc (Nat.le_trans hB J.below.size) _),
        (fun h => eval_const _ _ _ _ (by decide) (J.f0 (mm 0 (by decide) h))),
        (fun h => eval_const _ _ _ _ (by decide) (J.f1 (mm 1 (by decide) h))),
        (fun _ _ => ⟨_, eval_put_same (by rw [hsz]; decide), heap_alloc_new _ _⟩),
        (fun h => (show OwnR B0 37 _ ((a.put (some 47) _).eval (.tmp 48)) (la ++ [r]) from by rw [eval_put_other (by decide)]; exact (own_allocK (J.f3 (mm 3 (by decide) h)) _))),
        (fun h => (own_allocK (J.g3 (nn _ h)) _)),
        (fun h => eval_const _ _ _ _ (by decide) (J.f4 (mm 4 (by decide) h))),
        (fun h => eval_const _ _ _ _ (by decide) (J.f5 (mm 5 (by decide) h))),
        (fun h h2 => by obtain ⟨q, e1, e2⟩ := J.f6 (mm 6 (by decide) h) (nn _ h2); exact ⟨q, eval_const _ _ _ _ (by decide) e1, ((heap_alloc_old _ _ (Array.getElem?_eq_some_iff.1 e2).1).trans e2)⟩),
        (fun h => (show OwnR B0 39 _ ((a.put (some 47) _).eval (.tmp 52)) (lb ++ [r]) from by rw [eval_put_other (by decide)]; exact (own_allocK (J.f7 (mm 7 (by decide) h)) _))),
        (fun h => (own_allocK (J.g7 (nn _ h)) _)),
        (fun h => (eval_put_other (by decide)).trans ((J.f8 (mm 8 (by decide) h)).trans (eval_put_other (by decide)).symm)),
        (fun h => eval_const _ _ _ _ (by decide) (J.g8 (nn _ h))),
        (fun h => (eval_put_other (by decide)).trans ((J.f9 (mm 9 (by decide) h)).trans (eval_put_other (by decide)).symm)),
        (fun h => eval_const _ _ _ _ (by decide) (J.g9 (nn _ h))),
        (fun h => ⟨hm _ (J.d8 (mm 8 (by decide) h)).1, hm _ (J.d8 (mm 8 (by decide) h)).2⟩),
        (fun h => ⟨hm _ (J.d9 (mm 9 (by decide) h)).1, hm _ (J.d9 (mm 9 (by decide) h)).2⟩)⟩
    · have ho0 := ho
      cases ho
      have mm : ∀ j, j ≠ 3 → L' j = true → L j = true := fun j hj h => by rw [hL' j, if_neg hj] at h; exact h
      have hown := J.g3 hLi
      obtain ⟨q, e1, e2⟩ := J.f2 (dep ⟨2, .data⟩ (Array.mem_of_getElem? (i := 1) rfl)) hLi
      obtain ⟨v', W', hrun, hnew, hgr⟩ := run_appF 22 37 i1 Tryd.underlying22 hi1.1 hi1.2.1 hi1.2.2.1 hi1.2.2.2 (r := r) (a := a) 45 47 (show (Array.getD opsF 3 default).op = _ from rfl) (J.f0 (dep ⟨0, .data⟩ (Array.mem_of_getElem? (i := 0) rfl))) e1 e2 hr hown (Nat.le_trans hB J.below.size) hla
      refine wp_of_run hrun ?_
      exact ⟨(J.like.put ho0 _),
        ((hgr.block h (Array.getElem?_eq_some_iff.1 J.box).1 (fun e => hap e.symm)).trans J.box),
        (J.below.grown hgr (Nat.le_trans hB J.below.size) (fun j hj => (hown.lt j hj).1)),
        (fun h => eval_const _ _ _ _ (by decide) (J.f0 (mm 0 (by decide) h))),
        (fun h => eval_const _ _ _ _ (by decide) (J.f1 (mm 1 (by decide) h))),
        (fun _ h => by rw [hL' 3, if_pos rfl] at h; cases h),
        (fun _ => (show OwnR B0 37 W' ((a.put (some 48) v').eval (.tmp 48)) (la ++ [r]) from by rw [eval_put_same (by rw [hsz]; decide)]; exact hnew)),
        (fun h => by rw [hL' 3, if_pos rfl] at h; cases h),
        (fun h => eval_const _ _ _ _ (by decide) (J.f4 (mm 4 (by decide) h))),
        (fun h => eval_const _ _ _ _ (by decide) (J.f5 (mm 5 (by decide) h))),
        (fun h h2 => by obtain ⟨q, e1, e2⟩ := J.f6 (mm 6 (by decide) h) (nn _ h2); exact ⟨q, eval_const _ _ _ _ (by decide) e1, (grown_type hown hgr (by decide) _ _ _ e2)⟩),
        (fun h => (show OwnR B0 39 _ ((a.put (some 48) _).eval (.tmp 52)) (lb ++ [r]) from by rw [eval_put_other (by decide)]; exact (own_grown (J.f7 (mm 7 (by decide) h)) hown hgr (by decide)))),
        (fun h => (own_grown (J.g7 (nn _ h)) hown hgr (by decide))),
        (fun h => by have h9 := (J.d8 (mm 8 (by decide) h)).2; rw [hLi] at h9; cases h9),
        (fun h => eval_const _ _ _ _ (by decide) (J.g8 (nn _ h))),
        (fun h => (eval_put_other (by decide)).trans ((J.f9 (mm 9 (by decide) h)).trans (eval_put_other (by decide)).symm)),
        (fun h => eval_const _ _ _ _ (by decide) (J.g9 (nn _ h))),
        (fun h => ⟨hm _ (J.d8 (mm 8 (by decide) h)).1, hm _ (J.d8 (mm 8 (by decide) h)).2⟩),
        (fun h => ⟨hm _ (J.d9 (mm 9 (by decide) h)).1, hm _ (J.d9 (mm 9 (by decide) h)).2⟩)⟩
    · have ho0 := ho
      cases ho
      have mm : ∀ j, j ≠ 4 → L' j = true → L j = true := fun j hj h => by rw [hL' j, if_neg hj] at h; exact h
      have hv : a.eval (.tmp 5) = vb := J.g9 (by cases h : L 9 with | false => rfl | true => have h9 := (J.d9 h).1; rw [hLi] at h9; cases h9)
      refine wp_of_run (run_move _ rfl _ hv) ?_
      exact ⟨(J.like.put ho0 _),
        J.box,
        J.below,
        (fun h => eval_const _ _ _ _ (by decide) (J.f0 (mm 0 (by decide) h))),
        (fun h => eval_const _ _ _ _ (by decide) (J.f1 (mm 1 (by decide) h))),
        (fun h h2 => by obtain ⟨q, e1, e2⟩ := J.f2 (mm 2 (by decide) h) (nn _ h2); exact ⟨q, eval_const _ _ _ _ (by decide) e1, e2⟩),
        (fun h => (show OwnR B0 37 _ ((a.put (some 49) _).eval (.tmp 48)) (la ++ [r]) from by rw [eval_put_other (by decide)]; exact (J.f3 (mm 3 (by decide) h)))),
        (fun h => (J.g3 (nn _ h))),
        (fun _ => eval_put_same (by rw [hsz]; decide)),
        (fun h => eval_const _ _ _ _ (by decide) (J.f5 (mm 5 (by decide) h))),
        (fun h h2 => by obtain ⟨q, e1, e2⟩ := J.f6 (mm 6 (by decide) h) (nn _ h2); exact ⟨q, eval_const _ _ _ _ (by decide) e1, e2⟩),
        (fun h => (show OwnR B0 39 _ ((a.put (some 49) _).eval (.tmp 52)) (lb ++ [r]) from by rw [eval_put_other (by decide)]; exact (J.f7 (mm 7 (by decide) h)))),
        (fun h => (J.g7 (nn _ h))),
        (fun h => (eval_put_other (by decide)).trans ((J.f8 (mm 8 (by decide) h)).trans (eval_put_other (by decide)).symm)),
        (fun h => eval_const _ _ _ _ (by decide) (J.g8 (nn _ h))),
        (fun h => (eval_put_other (by decide)).trans ((J.f9 (mm 9 (by decide) h)).trans (eval_put_other (by decide)).symm)),
        (fun h => eval_const _ _ _ _ (by decide) (J.g9 (nn _ h))),
        (fun h => ⟨hm _ (J.d8 (mm 8 (by decide) h)).1, hm _ (J.d8 (mm 8 (by decide) h)).2⟩),
        (fun h => ⟨hm _ (J.d9 (mm 9 (by decide) h)).1, hm _ (J.d9 (mm 9 (by decide) h)).2⟩)⟩
    · have ho0 := ho
      cases ho
      have mm : ∀ j, j ≠ 5 → L' j = true → L j = true := fun j hj h => by rw [hL' j, if_neg hj] at h; exact h
      refine wp_of_run (run_loadR 7 rfl h (h7 a J.like) J.box) ?_
      exact ⟨(J.like.put ho0 _),
        J.box,
        J.below,
        (fun h => eval_const _ _ _ _ (by decide) (J.f0 (mm 0 (by decide) h))),
        (fun h => eval_const _ _ _ _ (by decide) (J.f1 (mm 1 (by decide) h))),
        (fun h h2 => by obtain ⟨q, e1, e2⟩ := J.f2 (mm 2 (by decide) h) (nn _ h2); exact ⟨q, eval_const _ _ _ _ (by decide) e1, e2⟩),
        (fun h => (show OwnR B0 37 _ ((a.put (some 50) _).eval (.tmp 48)) (la ++ [r]) from by rw [eval_put_other (by decide)]; exact (J.f3 (mm 3 (by decide) h)))),
        (fun h => (J.g3 (nn _ h))),
        (fun h => eval_const _ _ _ _ (by decide) (J.f4 (mm 4 (by decide) h))),
        (fun _ => eval_put_same (by rw [hsz]; decide)),
        (fun h h2 => by obtain ⟨q, e1, e2⟩ := J.f6 (mm 6 (by decide) h) (nn _ h2); exact ⟨q, eval_const _ _ _ _ (by decide) e1, e2⟩),
        (fun h => (show OwnR B0 39 _ ((a.put (some 50) _).eval (.tmp 52)) (lb ++ [r]) from by rw [eval_put_other (by decide)]; exact (J.f7 (mm 7 (by decide) h)))),
        (fun h => (J.g7 (nn _ h))),
        (fun h => (eval_put_other (by decide)).trans ((J.f8 (mm 8 (by decide) h)).trans (eval_put_other (by decide)).symm)),
        (fun h => eval_const _ _ _ _ (by decide) (J.g8 (nn _ h))),
        (fun h => (eval_put_other (by decide)).trans ((J.f9 (mm 9 (by decide) h)).trans (eval_put_other (by decide)).symm)),
        (fun h => eval_const _ _ _ _ (by decide) (J.g9 (nn _ h))),
        (fun h => ⟨hm _ (J.d8 (mm 8 (by decide) h)).1, hm _ (J.d8 (mm 8 (by decide) h)).2⟩),
        (fun h => ⟨hm _ (J.d9 (mm 9 (by decide) h)).1, hm _ (J.d9 (mm 9 (by decide) h)).2⟩)⟩
    · have ho0 := ho
      cases ho
      have mm : ∀ j, j ≠ 6 → L' j = true → L j = true := fun j hj h => by rw [hL' j, if_neg hj] at h; exact h
      refine wp_of_run (run_build2 50 rfl (J.f5 (dep ⟨5, .data⟩ (Array.mem_of_getElem? (i := 0) rfl)))) ?_
      exact ⟨(J.like.put ho0 _),
        ((heap_alloc_old _ _ (Array.getElem?_eq_some_iff.1 J.box).1).trans J.box),
        (J.below.alloc (Nat.le_trans hB J.below.size) _),
        (fun h => eval_const _ _ _ _ (by decide) (J.f0 (mm 0 (by decide) h))),
        (fun h => eval_const _ _ _ _ (by decide) (J.f1 (mm 1 (by decide) h))),
        (fun h h2 => by obtain ⟨q, e1, e2⟩ := J.f2 (mm 2 (by decide) h) (nn _ h2); exact ⟨q, eval_const _ _ _ _ (by decide) e1, ((heap_alloc_old _ _ (Array.getElem?_eq_some_iff.1 e2).1).trans e2)⟩),
        (fun h => (show OwnR B0 37 _ ((a.put (some 51) _).eval (.tmp 48)) (la ++ [r]) from by rw [eval_put_other (by decide)]; exact (own_allocK (J.f3 (mm 3 (by decide) h)) _))),
        (fun h => (own_allocK (J.g3 (nn _ h)) _)),
        (fun h => eval_const _ _ _ _ (by decide) (J.f4 (mm 4 (by decide) h))),
        (fun h => eval_const _ _ _ _ (by decide) (J.f5 (mm 5 (by decide) h))),
        (fun _ _ => ⟨_, eval_put_same (by rw [hsz]; decide), heap_alloc_new _ _⟩),
        (fun h => (show OwnR B0 39 _ ((a.put (some 51) _).eval (.tmp 52)) (lb ++ [r]) from by rw [eval_put_other (by decide)]; exact (own_allocK (J.f7 (mm 7 (by decide) h)) _))),
        (fun h => (own_allocK (J.g7 (nn _ h)) _)),
        (fun h => (eval_put_other (by decide)).trans ((J.f8 (mm 8 (by decide) h)).trans (eval_put_other (by decide)).symm)),
        (fun h => eval_const _ _ _ _ (by decide) (J.g8 (nn _ h))),
        (fun h => (eval_put_other (by decide)).trans ((J.f9 (mm 9 (by decide) h)).trans (eval_put_other (by decide)).symm)),
        (fun h => eval_const _ _ _ _ (by decide) (J.g9 (nn _ h))),
        (fun h => ⟨hm _ (J.d8 (mm 8 (by decide) h)).1, hm _ (J.d8 (mm 8 (by decide) h)).2⟩),
        (fun h => ⟨hm _ (J.d9 (mm 9 (by decide) h)).1, hm _ (J.d9 (mm 9 (by decide) h)).2⟩)⟩
    · have ho0 := ho
      cases ho
      have mm : ∀ j, j ≠ 7 → L' j = true → L j = true := fun j hj h => by rw [hL' j, if_neg hj] at h; exact h
      have hown := J.g7 hLi
      obtain ⟨q, e1, e2⟩ := J.f6 (dep ⟨6, .data⟩ (Array.mem_of_getElem? (i := 1) rfl)) hLi
      obtain ⟨v', W', hrun, hnew, hgr⟩ := run_appF 23 39 i2 Tryd.underlying23 hi2.1 hi2.2.1 hi2.2.2.1 hi2.2.2.2 (r := r) (a := a) 49 51 (show (Array.getD opsF 7 default).op = _ from rfl) (J.f4 (dep ⟨4, .data⟩ (Array.mem_of_getElem? (i := 0) rfl))) e1 e2 hr hown (Nat.le_trans hB J.below.size) hlb
      refine wp_of_run hrun ?_
      exact ⟨(J.like.put ho0 _),
        (grown_type hown hgr (by decide) _ _ _ J.box),
        (J.below.grown hgr (Nat.le_trans hB J.below.size) (fun j hj => (hown.lt j hj).1)),
        (fun h => eval_const _ _ _ _ (by decide) (J.f0 (mm 0 (by decide) h))),
        (fun h => eval_const _ _ _ _ (by decide) (J.f1 (mm 1 (by decide) h))),
        (fun h h2 => by obtain ⟨q, e1, e2⟩ := J.f2 (mm 2 (by decide) h) (nn _ h2); exact ⟨q, eval_const _ _ _ _ (by decide) e1, (grown_type hown hgr (by decide) _ _ _ e2)⟩),
        (fun h => (show OwnR B0 37 _ ((a.put (some 52) _).eval (.tmp 48)) (la ++ [r]) from by rw [eval_put_other (by decide)]; exact (own_grown (J.f3 (mm 3 (by decide) h)) hown hgr (by decide)))),
        (fun h => (own_grown (J.g3 (nn _ h)) hown hgr (by decide))),
        (fun h => eval_const _ _ _ _ (by decide) (J.f4 (mm 4 (by decide) h))),
        (fun h => eval_const _ _ _ _ (by decide) (J.f5 (mm 5 (by decide) h))),
        (fun _ h => by rw [hL' 7, if_pos rfl] at h; cases h),
        (fun _ => (show OwnR B0 39 W' ((a.put (some 52) v').eval (.tmp 52)) (lb ++ [r]) from by rw [eval_put_same (by rw [hsz]; decide)]; exact hnew)),
        (fun h => by rw [hL' 7, if_pos rfl] at h; cases h),
        (fun h => (eval_put_other (by decide)).trans ((J.f8 (mm 8 (by decide) h)).trans (eval_put_other (by decide)).symm)),
        (fun h => eval_const _ _ _ _ (by decide) (J.g8 (nn _ h))),
        (fun h => by have h9 := (J.d9 (mm 9 (by decide) h)).2; rw [hLi] at h9; cases h9),
        (fun h => eval_const _ _ _ _ (by decide) (J.g9 (nn _ h))),
        (fun h => ⟨hm _ (J.d8 (mm 8 (by decide) h)).1, hm _ (J.d8 (mm 8 (by decide) h)).2⟩),
        (fun h => ⟨hm _ (J.d9 (mm 9 (by decide) h)).1, hm _ (J.d9 (mm 9 (by decide) h)).2⟩)⟩
    · have ho0 := ho
      cases ho
      have mm : ∀ j, j ≠ 8 → L' j = true → L j = true := fun j hj h => by rw [hL' j, if_neg hj] at h; exact h
      refine wp_of_run (run_assign _ rfl _ rfl) ?_
      exact ⟨(J.like.put ho0 _),
        J.box,
        J.below,
        (fun h => eval_const _ _ _ _ (by decide) (J.f0 (mm 0 (by decide) h))),
        (fun h => eval_const _ _ _ _ (by decide) (J.f1 (mm 1 (by decide) h))),
        (fun h h2 => by obtain ⟨q, e1, e2⟩ := J.f2 (mm 2 (by decide) h) (nn _ h2); exact ⟨q, eval_const _ _ _ _ (by decide) e1, e2⟩),
        (fun h => (show OwnR B0 37 _ ((a.put (some 4) _).eval (.tmp 48)) (la ++ [r]) from by rw [eval_put_other (by decide)]; exact (J.f3 (mm 3 (by decide) h)))),
        (fun h => (J.g3 (nn _ h))),
        (fun h => eval_const _ _ _ _ (by decide) (J.f4 (mm 4 (by decide) h))),
        (fun h => eval_const _ _ _ _ (by decide) (J.f5 (mm 5 (by decide) h))),
        (fun h h2 => by obtain ⟨q, e1, e2⟩ := J.f6 (mm 6 (by decide) h) (nn _ h2); exact ⟨q, eval_const _ _ _ _ (by decide) e1, e2⟩),
        (fun h => (show OwnR B0 39 _ ((a.put (some 4) _).eval (.tmp 52)) (lb ++ [r]) from by rw [eval_put_other (by decide)]; exact (J.f7 (mm 7 (by decide) h)))),
        (fun h => (J.g7 (nn _ h))),
        (fun _ => (eval_put_same (by rw [hsz]; decide)).trans (eval_put_other (by decide)).symm),
        (fun h => by rw [hL' 8, if_pos rfl] at h; cases h),
        (fun h => (eval_put_other (by decide)).trans ((J.f9 (mm 9 (by decide) h)).trans (eval_put_other (by decide)).symm)),
        (fun h => eval_const _ _ _ _ (by decide) (J.g9 (nn _ h))),
        (fun _ => ⟨hm _ (dep ⟨0, .phase⟩ (Array.mem_of_getElem? (i := 2) rfl)), hm _ (dep ⟨3, .data⟩ (Array.mem_of_getElem? (i := 0) rfl))⟩),
        (fun h => ⟨hm _ (J.d9 (mm 9 (by decide) h)).1, hm _ (J.d9 (mm 9 (by decide) h)).2⟩)⟩
    · have ho0 := ho
      cases ho
      have mm : ∀ j, j ≠ 9 → L' j = true → L j = true := fun j hj h => by rw [hL' j, if_neg hj] at h; exact h
      refine wp_of_run (run_assign _ rfl _ rfl) ?_
      exact ⟨(J.like.put ho0 _),
        J.box,
        J.below,
        (fun h => eval_const _ _ _ _ (by decide) (J.f0 (mm 0 (by decide) h))),
        (fun h => eval_const _ _ _ _ (by decide) (J.f1 (mm 1 (by decide) h))),
        (fun h h2 => by obtain ⟨q, e1, e2⟩ := J.f2 (mm 2 (by decide) h) (nn _ h2); exact ⟨q, eval_const _ _ _ _ (by decide) e1, e2⟩),
        (fun h => (show OwnR B0 37 _ ((a.put (some 5) _).eval (.tmp 48)) (la ++ [r]) from by rw [eval_put_other (by decide)]; exact (J.f3 (mm 3 (by decide) h)))),
        (fun h => (J.g3 (nn _ h))),
        (fun h => eval_const _ _ _ _ (by decide) (J.f4 (mm 4 (by decide) h))),
        (fun h => eval_const _ _ _ _ (by decide) (J.f5 (mm 5 (by decide) h))),
        (fun h h2 => by obtain ⟨q, e1, e2⟩ := J.f6 (mm 6 (by decide) h) (nn _ h2); exact ⟨q, eval_const _ _ _ _ (by decide) e1, e2⟩),
        (fun h => (show OwnR B0 39 _ ((a.put (some 5) _).eval (.tmp 52)) (lb ++ [r]) from by rw [eval_put_other (by decide)]; exact (J.f7 (mm 7 (by decide) h)))),
        (fun h => (J.g7 (nn _ h))),
        (fun h => (eval_put_other (by decide)).trans ((J.f8 (mm 8 (by decide) h)).trans (eval_put_other (by decide)).symm)),
        (fun h => eval_const _ _ _ _ (by decide) (J.g8 (nn _ h))),
        (fun _ => (eval_put_same (by rw [hsz]; decide)).trans (eval_put_other (by decide)).symm),
        (fun h => by rw [hL' 9, if_pos rfl] at h; cases h),
        (fun h => ⟨hm _ (J.d8 (mm 8 (by decide) h)).1, hm _ (J.d8 (mm 8 (by decide) h)).2⟩),
        (fun _ => ⟨hm _ (dep ⟨4, .phase⟩ (Array.mem_of_getElem? (i := 6) rfl)), hm _ (dep ⟨7, .data⟩ (Array.mem_of_getElem? (i := 0) rfl))⟩)⟩
  · have ha : ∀ j, j < 10 → L j = true := hall
    rw [J.like.puts [(45, va), (46, .agg #[.string bx, .string bz]), (47, a'.eval (.tmp 47)), (48, a'.eval (.tmp 48)), (49, vb), (50, .agg #[.string bx, .string bz]), (51, a'.eval (.tmp 51)), (52, a'.eval (.tmp 52)), (4, a'.eval (.tmp 48)), (5, a'.eval (.tmp 52))] (by
      intro z hz
      simp only [List.mem_cons, List.not_mem_nil, or_false] at hz
      rcases hz with rfl | rfl | rfl | rfl | rfl | rfl | rfl | rfl | rfl | rfl
      · exact J.f0 (ha 0 (by decide))
      · exact J.f1 (ha 1 (by decide))
      · rfl
      · rfl
      · exact J.f4 (ha 4 (by decide))
      · exact J.f5 (ha 5 (by decide))
      · rfl
      · rfl
      · exact J.f8 (ha 8 (by decide))
      · exact J.f9 (ha 9 (by decide))) (by kernel_rfl)]
    exact hQ _ _ _ _ W (J.f3 (ha 3 (by decide))) (J.f7 (ha 7 (by decide))) ⟨J.below.os, J.below.tape, J.below.output, J.below.size, J.below.block⟩
end Go.Proofs.YtjgphicmkmdeiaaDoor
