/-
  The map that PathKnown lays, in whatever order; its keys, as the program tells them.
-/
import Derived.Test.YtgdnemjlmhmhhaaDoorHk
import Derived.Test.YtgdnemjlmhmhhaaDoorHn
import Derived.Test.YtgdnemjlmhmhhaaDoorInv
namespace Go.Proofs.YtgdnemjlmhmhhaaDoor
open Go.RowKit Go.Maps Inv

def nnL : List UInt8 := Lib.repeatL [110] 251
def GoodMap (es : Array MapEntry) (clock : Nat) : Prop := Go.MapKept.Stamped es clock ∧ ∀ x ∈ es.toList, ∃ s : List UInt8, s.length ≤ 300 ∧ x.key = .string (sb s) ∧ x.val = .bool (Pt.mayName s)
theorem good_ins (w : World) (es : Array MapEntry) (c : Nat) (hg : GoodMap es c) (s : List UInt8) (hs : s.length ≤ 300) :
    ∃ es' c', GoodMap es' c' ∧ (Instr.mapUpdate 41 (.map (some w.heap.size)) (.string (sb s)) (.bool (Pt.mayName s))).run Tryd.prog (w.alloc (.map es c)) = .ok () (w.alloc (.map es' c')) := by
  have hk : Go.MapKept.IsKey .string (.string (sb s)) := trivial
  have hks : ∀ x ∈ es.toList, Go.MapKept.IsKey .string x.key := fun x hx => by
    obtain ⟨s, _, h, _⟩ := hg.2 x hx
    rw [h]; trivial
  have h1 := Go.MapKept.run_getObj_map (P := Tryd.prog) (heap_alloc_new w (.map es c))
  have h2 := Go.MapKept.run_checkKey (P := Tryd.prog) (w := w.alloc (.map es c)) (kt := 9) (k := .string (sb s)) Tryd.underlying9 hk false 9999
  rcases Go.MapKept.findNow_spec hk es.toList 0 hks with ⟨hf, hn⟩ | ⟨j, e, hf, hj, he⟩
  · have h3 := Go.MapKept.run_findKey (P := Tryd.prog) (w := w.alloc (.map es c)) (kt := 9) Tryd.underlying9 hf
    have h4 := run_set_new w es c (.map (es.push { key := .string (sb s), val := .bool (Pt.mayName s), born := c }) (c + 1))
    refine ⟨es.push { key := .string (sb s), val := .bool (Pt.mayName s), born := c }, c + 1, ⟨Go.MapKept.stamped_push hg.1 (val := .bool (Pt.mayName s)) hn, fun x hx => ?_⟩, ?_⟩
    · simp only [Array.toList_push, List.mem_append, List.mem_singleton] at hx
      rcases hx with hx | rfl
      · exact hg.2 x hx
      · exact ⟨s, hs, rfl, rfl⟩
    · unfold Instr.mapUpdate
      simp only [Sem.run_bind, run_underlying Tryd.underlying41, Result.andThen, h1, h2, h3]
      exact h4
  · have h3 := Go.MapKept.run_findKey (P := Tryd.prog) (w := w.alloc (.map es c)) (kt := 9) Tryd.underlying9 hf
    have hj2 : es[j]? = some e := by simpa using hj
    have hkey : ∀ e', es[j]? = some e' → ({ e' with key := .string (sb s), val := .bool (Pt.mayName s) } : MapEntry).key = e'.key := fun e' he' => by rw [hj2] at he'; cases he'; exact he.symm
    have h4 := run_set_new w es c (.map (es.modify j fun e => { e with key := .string (sb s), val := .bool (Pt.mayName s) }) c)
    refine ⟨es.modify j fun e => { e with key := .string (sb s), val := .bool (Pt.mayName s) }, c, ⟨Go.MapKept.stamped_modify hg.1 j (fun e => { e with key := .string (sb s), val := .bool (Pt.mayName s) }) (fun _ _ => rfl) (fun e' _ he' => hkey e' he'), fun x hx => ?_⟩, ?_⟩
    · obtain ⟨k, hk1⟩ := List.getElem?_of_mem hx
      rw [Array.getElem?_toList, Array.getElem?_modify] at hk1
      by_cases hjk : j = k
      · subst hjk
        rw [if_pos rfl, hj2] at hk1
        cases hk1
        exact ⟨s, hs, rfl, rfl⟩
      · rw [if_neg hjk] at hk1
        exact hg.2 x (List.mem_of_getElem? (by simpa using hk1))
    · unfold Instr.mapUpdate
      have h5 := Go.MapKept.run_keyThatStays (P := Tryd.prog) (w := w.alloc (.map es c)) hk
      simp only [Sem.run_bind, run_underlying Tryd.underlying41, Result.andThen, h1, h2, h3, Nat.zero_add, hj2, Option.map_some, Option.getD_some, he, h5]
      exact h4
theorem mk_bmap (w : World) : (Instr.makeMap 41 none).run Tryd.prog w = .ok (.map (some w.heap.size)) (w.alloc (.map #[] 0)) := by
  unfold Instr.makeMap
  simp only [Sem.run_bind, Sem.run_pure, run_newObj_alloc, Result.andThen]
def opsK : Array Oper := #[{ dst := some 29, op := Go.Op.makeMap 41 none, type := 41, pos := "outright.go:102", after := #[], guard := none },
  { dst := none, op := Go.Op.insert 41 (Go.Operand.tmp 29) (Go.Operand.const (Go.Value.string { data := #[] })) (Go.Operand.const (Go.Value.bool false)), type := 0, pos := "outright.go:102", after := #[{ on := 0, ground := Go.Ground.data }], guard := none },
  { dst := none, op := Go.Op.insert 41 (Go.Operand.tmp 29) (Go.Operand.const (Go.Value.string { data := #[46] })) (Go.Operand.const (Go.Value.bool false)), type := 0, pos := "outright.go:102", after := #[{ on := 0, ground := Go.Ground.data }], guard := none },
  { dst := none, op := Go.Op.insert 41 (Go.Operand.tmp 29) (Go.Operand.const (Go.Value.string { data := #[46, 46] })) (Go.Operand.const (Go.Value.bool false)), type := 0, pos := "outright.go:102", after := #[{ on := 0, ground := Go.Ground.data }], guard := none },
  { dst := none, op := Go.Op.insert 41 (Go.Operand.tmp 29) (Go.Operand.const (Go.Value.string { data := #[46, 46, 46] })) (Go.Operand.const (Go.Value.bool true)), type := 0, pos := "outright.go:102", after := #[{ on := 0, ground := Go.Ground.data }], guard := none },
  { dst := none, op := Go.Op.insert 41 (Go.Operand.tmp 29) (Go.Operand.const (Go.Value.string { data := #[46, 119, 104, 46] })) (Go.Operand.const (Go.Value.bool false)), type := 0, pos := "outright.go:102", after := #[{ on := 0, ground := Go.Ground.data }], guard := none },
  { dst := none, op := Go.Op.insert 41 (Go.Operand.tmp 29) (Go.Operand.const (Go.Value.string { data := #[46, 119, 104] })) (Go.Operand.const (Go.Value.bool true)), type := 0, pos := "outright.go:102", after := #[{ on := 0, ground := Go.Ground.data }], guard := none },
  { dst := none, op := Go.Op.insert 41 (Go.Operand.tmp 29) (Go.Operand.const (Go.Value.string { data := #[46, 119, 104, 120] })) (Go.Operand.const (Go.Value.bool true)), type := 0, pos := "outright.go:102", after := #[{ on := 0, ground := Go.Ground.data }], guard := none },
  { dst := none, op := Go.Op.insert 41 (Go.Operand.tmp 29) (Go.Operand.const (Go.Value.string { data := #[97, 47, 98] })) (Go.Operand.const (Go.Value.bool false)), type := 0, pos := "outright.go:102", after := #[{ on := 0, ground := Go.Ground.data }], guard := none },
  { dst := none, op := Go.Op.insert 41 (Go.Operand.tmp 29) (Go.Operand.const (Go.Value.string { data := #[97, 0] })) (Go.Operand.const (Go.Value.bool false)), type := 0, pos := "outright.go:102", after := #[{ on := 0, ground := Go.Ground.data }], guard := none },
  { dst := some 30, op := Go.Op.move (Go.Operand.tmp 1), type := 9, pos := "outright.go:102", after := #[], guard := none },
  { dst := none, op := Go.Op.insert 41 (Go.Operand.tmp 29) (Go.Operand.tmp 30) (Go.Operand.const (Go.Value.bool true)), type := 0, pos := "outright.go:102", after := #[{ on := 0, ground := Go.Ground.data },
  { on := 10, ground := Go.Ground.data }], guard := none },
  { dst := some 31, op := Go.Op.move (Go.Operand.tmp 1), type := 9, pos := "outright.go:102", after := #[], guard := none },
  { dst := some 32, op := Go.Op.binOp Go.BinOp.add 9 (Go.Operand.tmp 31) (Go.Operand.const (Go.Value.string { data := #[110] })) 9, type := 9, pos := "outright.go:102", after := #[{ on := 12, ground := Go.Ground.data }], guard := none },
  { dst := none, op := Go.Op.insert 41 (Go.Operand.tmp 29) (Go.Operand.tmp 32) (Go.Operand.const (Go.Value.bool false)), type := 0, pos := "outright.go:102", after := #[{ on := 0, ground := Go.Ground.data },
  { on := 13, ground := Go.Ground.data }], guard := none },
  { dst := none, op := Go.Op.insert 41 (Go.Operand.tmp 29) (Go.Operand.const (Go.Value.string { data := #[255] })) (Go.Operand.const (Go.Value.bool true)), type := 0, pos := "outright.go:102", after := #[{ on := 0, ground := Go.Ground.data }], guard := none },
  { dst := none, op := Go.Op.insert 41 (Go.Operand.tmp 29) (Go.Operand.const (Go.Value.string { data := #[32] })) (Go.Operand.const (Go.Value.bool true)), type := 0, pos := "outright.go:102", after := #[{ on := 0, ground := Go.Ground.data }], guard := none },
  { dst := none, op := Go.Op.insert 41 (Go.Operand.tmp 29) (Go.Operand.const (Go.Value.string { data := #[46, 119, 104, 46, 120] })) (Go.Operand.const (Go.Value.bool false)), type := 0, pos := "outright.go:102", after := #[{ on := 0, ground := Go.Ground.data }], guard := none },
  { dst := some 33, op := Go.Op.move (Go.Operand.tmp 29), type := 41, pos := "outright.go:102", after := #[{ on := 0, ground := Go.Ground.data },
  { on := 1, ground := Go.Ground.data },
  { on := 2, ground := Go.Ground.data },
  { on := 3, ground := Go.Ground.data },
  { on := 4, ground := Go.Ground.data },
  { on := 5, ground := Go.Ground.data },
  { on := 6, ground := Go.Ground.data },
  { on := 7, ground := Go.Ground.data },
  { on := 8, ground := Go.Ground.data },
  { on := 9, ground := Go.Ground.data },
  { on := 10, ground := Go.Ground.data },
  { on := 11, ground := Go.Ground.data },
  { on := 12, ground := Go.Ground.data },
  { on := 13, ground := Go.Ground.data },
  { on := 14, ground := Go.Ground.data },
  { on := 15, ground := Go.Ground.data },
  { on := 16, ground := Go.Ground.data },
  { on := 17, ground := Go.Ground.data }], guard := none },
  { dst := some 34, op := Go.Op.range 41 (Go.Operand.tmp 33), type := 0, pos := "outright.go:102", after := #[{ on := 18, ground := Go.Ground.data }], guard := none }]

structure KJ (a0 : Act) (w0 : World) (L : Nat → Bool) (a : Act) (W : World) : Prop where
  like : Like opsK a0 a
  e0 : L 0 = true → a.eval (.tmp 29) = .map (some w0.heap.size)
  e10 : L 10 = true → a.eval (.tmp 30) = .string (sb nnL)
  e12 : L 12 = true → a.eval (.tmp 31) = .string (sb nnL)
  e13 : L 13 = true → a.eval (.tmp 32) = .string (sb (nnL ++ [110]))
  e18 : L 18 = true → a.eval (.tmp 33) = .map (some w0.heap.size)
  e19 : L 19 = true → a.eval (.tmp 34) = .pointer (some ⟨w0.heap.size + 1, 0, none⟩)
  l18 : L 18 = true → ∀ j, j < 18 → L j = true
  l19 : L 19 = true → L 18 = true
  k0 : L 0 = false → W = w0
  k1 : L 0 = true → L 19 = false → ∃ es c, GoodMap es c ∧ W = w0.alloc (.map es c)
  k2 : L 19 = true → ∃ es c, GoodMap es c ∧ W = (w0.alloc (.map es c)).alloc (.mapIter (some w0.heap.size) c #[] c)
section
variable {a0 : Act} {w0 : World} {L L' : Nat → Bool} {a : Act} {W : World} {Q : Exit → Act → World → Prop}
theorem KJ.ins (J : KJ a0 w0 L a W) (i : Nat) (o : Oper) (hi : i < 18) (h0 : i ≠ 0) (h10 : i ≠ 10) (h12 : i ≠ 12) (h13 : i ≠ 13) (hd : o.dst = none) (kx : Operand) (s : List UInt8) (b : Bool) (hop : o.op = .insert 41 (.tmp 29) kx (.const (.bool b)))
    (hb : Pt.mayName s = b) (hs : s.length ≤ 300) (hk : a.eval kx = .string (sb s)) (hL0 : L 0 = true) (hLi : L i = false) (hL' : ∀ j, L' j = if j = i then true else L j) : o.wp Tryd.prog a W (fun a' w' => KJ a0 w0 L' a' w') Q := by
  have n18 : L 18 = false := by
    cases h : L 18 with
    | false => rfl
    | true => have := J.l18 h i hi; rw [hLi] at this; cases this
  have n19 : L 19 = false := by
    cases h : L 19 with
    | false => rfl
    | true => have := J.l19 h; rw [n18] at this; cases this
  have q0 : L' 0 = true := by rw [hL' 0, if_neg (Ne.symm h0)]; exact hL0
  have q10 : L' 10 = L 10 := by rw [hL' 10, if_neg (Ne.symm h10)]
  have q12 : L' 12 = L 12 := by rw [hL' 12, if_neg (Ne.symm h12)]
  have q13 : L' 13 = L 13 := by rw [hL' 13, if_neg (Ne.symm h13)]
  have q18 : L' 18 = false := by rw [hL' 18, if_neg (by omega)]; exact n18
  have q19 : L' 19 = false := by rw [hL' 19, if_neg (by omega)]; exact n19
  obtain ⟨es, c, hg, rfl⟩ := J.k1 hL0 n19
  obtain ⟨es', c', hg', hr⟩ := good_ins w0 es c hg s hs
  have hrun : (execOp a.eval o).run Tryd.prog (w0.alloc (.map es c)) = .ok .skip (w0.alloc (.map es' c')) := by
    unfold execOp
    rw [hop]
    have e29 := J.e0 hL0
    have hc : a.eval (.const (.bool b)) = .bool (Pt.mayName s) := by rw [hb]; rfl
    simp only [e29, hk, hc]
    rw [Sem.run_bind, hr]; rfl
  refine Inv.wp_of_skip hrun ?_
  rw [hd]
  show KJ a0 w0 L' a _
  exact ⟨J.like, fun _ => J.e0 hL0, fun h => J.e10 (q10 ▸ h), fun h => J.e12 (q12 ▸ h), fun h => J.e13 (q13 ▸ h), (fun h => by rw [q18] at h; cases h), (fun h => by rw [q19] at h; cases h), (fun h => by rw [q18] at h; cases h), (fun h => by rw [q19] at h; cases h), (fun h => by rw [q0] at h; cases h), fun _ _ => ⟨es', c', hg', rfl⟩, (fun h => by rw [q19] at h; cases h)⟩
theorem run_cat (W : World) (o : Oper) {a : Act} (e31 : a.eval (.tmp 31) = .string (sb nnL)) (ho : o.op = .binOp .add 9 (.tmp 31) (.const (.string { data := #[110] })) 9) : (execOp a.eval o).run Tryd.prog W = .ok (.value (.string (sb (nnL ++ [110])))) W := by
  have e : sb nnL ++ (⟨#[110]⟩ : ByteArray) = sb (nnL ++ [110]) := sb_append nnL [110]
  unfold execOp
  rw [ho]
  have hc : a.eval (.const (.string { data := #[110] })) = .string ⟨#[110]⟩ := rfl
  simp only [e31, hc]
  have h8 : (sb nnL).size = 251 := by kernel_rfl
  go_simp

theorem opsK_size : opsK.size = 20 := rfl
set_option maxRecDepth 100000 in
set_option maxHeartbeats 4000000 in
theorem region_wp (a0 : Act) (hn : a0.tmps.size = 232) (w : World) (h1 : a0.eval (.tmp 1) = .string (sb nnL)) (Q : Exit → Act → World → Prop)
    (hQ : ∀ a' es c, Like opsK a0 a' → a'.eval (.tmp 29) = .map (some w.heap.size) → a'.eval (.tmp 30) = .string (sb nnL) → a'.eval (.tmp 31) = .string (sb nnL) → a'.eval (.tmp 32) = .string (sb (nnL ++ [110])) → a'.eval (.tmp 33) = .map (some w.heap.size) →
      a'.eval (.tmp 34) = .pointer (some ⟨w.heap.size + 1, 0, none⟩) → GoodMap es c → Q .normal a' ((w.drew.alloc (.map es c)).alloc (.mapIter (some w.heap.size) c #[] c))) : (Code.region 2 opsK true).wp Tryd.prog Q a0 w := by
  refine wp_region_J (by kernel_rfl) (by rw [hn]; kernel_rfl) (fun i o ho => ?_) (KJ a0 w.drew) (fun L hL => ?_) (fun L L' a W i o ho hLi hdep J hL' => ?_) (fun L a' W hall J => ?_)
  · have hi := (Array.getElem?_eq_some_iff.1 ho).1
    rw [opsK_size] at hi
    rcases (by omega : i = 0 ∨ i = 1 ∨ i = 2 ∨ i = 3 ∨ i = 4 ∨ i = 5 ∨ i = 6 ∨ i = 7 ∨ i = 8 ∨ i = 9 ∨ i = 10 ∨ i = 11 ∨ i = 12 ∨ i = 13 ∨ i = 14 ∨ i = 15 ∨ i = 16 ∨ i = 17 ∨ i = 18 ∨ i = 19) with rfl | rfl | rfl | rfl | rfl | rfl | rfl | rfl | rfl | rfl | rfl | rfl | rfl | rfl | rfl | rfl | rfl | rfl | rfl | rfl <;> (cases ho; rfl)
  · have hf : ∀ j, ¬ L j = true := fun j h => by rw [hL] at h; cases h
    exact ⟨⟨rfl, rfl, fun _ _ => rfl⟩, fun h => (hf _ h).elim, fun h => (hf _ h).elim, fun h => (hf _ h).elim, fun h => (hf _ h).elim, fun h => (hf _ h).elim, fun h => (hf _ h).elim, fun h => (hf _ h).elim, fun h => (hf _ h).elim, fun _ => rfl, fun h => (hf _ h).elim, fun h => (hf _ h).elim⟩
  · have hi := (Array.getElem?_eq_some_iff.1 ho).1
    rw [opsK_size] at hi
    have hm : ∀ j, L j = true → L' j = true := fun j h => by rw [hL' j]; split <;> first | rfl | exact h
    have hsz : a.tmps.size = 232 := J.like.size.trans hn
    rcases (by omega : i = 0 ∨ i = 1 ∨ i = 2 ∨ i = 3 ∨ i = 4 ∨ i = 5 ∨ i = 6 ∨ i = 7 ∨ i = 8 ∨ i = 9 ∨ i = 10 ∨ i = 11 ∨ i = 12 ∨ i = 13 ∨ i = 14 ∨ i = 15 ∨ i = 16 ∨ i = 17 ∨ i = 18 ∨ i = 19) with rfl | rfl | rfl | rfl | rfl | rfl | rfl | rfl | rfl | rfl | rfl | rfl | rfl | rfl | rfl | rfl | rfl | rfl | rfl | rfl
    · have ho0 := ho
      cases ho
      have q10 : L' 10 = L 10 := by rw [hL' 10, if_neg (by decide)]
      have q12 : L' 12 = L 12 := by rw [hL' 12, if_neg (by decide)]
      have q13 : L' 13 = L 13 := by rw [hL' 13, if_neg (by decide)]
      have q18 : L' 18 = L 18 := by rw [hL' 18, if_neg (by decide)]
      have q19 : L' 19 = L 19 := by rw [hL' 19, if_neg (by decide)]
      have n19 : L 19 = false := by
        cases h : L 19 with
        | false => rfl
        | true => have := J.l18 (J.l19 h) 0 (by decide); rw [hLi] at this; cases this
      have n18 : L 18 = false := by
        cases h : L 18 with
        | false => rfl
        | true => have := J.l18 h 0 (by decide); rw [hLi] at this; cases this
      have hW := J.k0 hLi
      subst hW
      refine wp_of_run (run_of (s := Instr.makeMap 41 none) rfl (mk_bmap w.drew)) ?_
      exact ⟨J.like.put ho0 _, (fun _ => eval_put_same (by rw [hsz]; decide)), (fun h => (eval_put_other (by decide)).trans (J.e10 (q10 ▸ h))), (fun h => (eval_put_other (by decide)).trans (J.e12 (q12 ▸ h))), (fun h => (eval_put_other (by decide)).trans (J.e13 (q13 ▸ h))), (fun h => (eval_put_other (by decide)).trans (J.e18 (q18 ▸ h))), (fun h => (eval_put_other (by decide)).trans (J.e19 (q19 ▸ h))), (fun h => by rw [q18, n18] at h; cases h), (fun h => by rw [q19, n19] at h; cases h), (fun h => by rw [hL' 0, if_pos rfl] at h; cases h), (fun _ _ => ⟨#[], 0, ⟨Go.MapKept.stamped_empty 0, by simp⟩, rfl⟩), (fun h => by rw [q19, n19] at h; cases h)⟩
    · cases ho
      exact J.ins 1 _ (by decide) (by decide) (by decide) (by decide) (by decide) rfl (Go.Operand.const (Go.Value.string { data := #[] })) [] false rfl (by kernel_rfl) (of_decide_eq_true (by kernel_rfl)) rfl (hdep ⟨0, .data⟩ (Array.mem_of_getElem? (i := 0) rfl) (by decide)) hLi hL'
    · cases ho
      exact J.ins 2 _ (by decide) (by decide) (by decide) (by decide) (by decide) rfl (Go.Operand.const (Go.Value.string { data := #[46] })) [46] false rfl (by kernel_rfl) (of_decide_eq_true (by kernel_rfl)) rfl (hdep ⟨0, .data⟩ (Array.mem_of_getElem? (i := 0) rfl) (by decide)) hLi hL'
    · cases ho
      exact J.ins 3 _ (by decide) (by decide) (by decide) (by decide) (by decide) rfl (Go.Operand.const (Go.Value.string { data := #[46, 46] })) [46, 46] false rfl (by kernel_rfl) (of_decide_eq_true (by kernel_rfl)) rfl (hdep ⟨0, .data⟩ (Array.mem_of_getElem? (i := 0) rfl) (by decide)) hLi hL'
    · cases ho
      exact J.ins 4 _ (by decide) (by decide) (by decide) (by decide) (by decide) rfl (Go.Operand.const (Go.Value.string { data := #[46, 46, 46] })) [46, 46, 46] true rfl (by kernel_rfl) (of_decide_eq_true (by kernel_rfl)) rfl (hdep ⟨0, .data⟩ (Array.mem_of_getElem? (i := 0) rfl) (by decide)) hLi hL'
    · cases ho
      exact J.ins 5 _ (by decide) (by decide) (by decide) (by decide) (by decide) rfl (Go.Operand.const (Go.Value.string { data := #[46, 119, 104, 46] })) [46, 119, 104, 46] false rfl (by kernel_rfl) (of_decide_eq_true (by kernel_rfl)) rfl (hdep ⟨0, .data⟩ (Array.mem_of_getElem? (i := 0) rfl) (by decide)) hLi hL'
    · cases ho
      exact J.ins 6 _ (by decide) (by decide) (by decide) (by decide) (by decide) rfl (Go.Operand.const (Go.Value.string { data := #[46, 119, 104] })) [46, 119, 104] true rfl (by kernel_rfl) (of_decide_eq_true (by kernel_rfl)) rfl (hdep ⟨0, .data⟩ (Array.mem_of_getElem? (i := 0) rfl) (by decide)) hLi hL'
    · cases ho
      exact J.ins 7 _ (by decide) (by decide) (by decide) (by decide) (by decide) rfl (Go.Operand.const (Go.Value.string { data := #[46, 119, 104, 120] })) [46, 119, 104, 120] true rfl (by kernel_rfl) (of_decide_eq_true (by kernel_rfl)) rfl (hdep ⟨0, .data⟩ (Array.mem_of_getElem? (i := 0) rfl) (by decide)) hLi hL'
    · cases ho
      exact J.ins 8 _ (by decide) (by decide) (by decide) (by decide) (by decide) rfl (Go.Operand.const (Go.Value.string { data := #[97, 47, 98] })) [97, 47, 98] false rfl (by kernel_rfl) (of_decide_eq_true (by kernel_rfl)) rfl (hdep ⟨0, .data⟩ (Array.mem_of_getElem? (i := 0) rfl) (by decide)) hLi hL'
    · cases ho
      exact J.ins 9 _ (by decide) (by decide) (by decide) (by decide) (by decide) rfl (Go.Operand.const (Go.Value.string { data := #[97, 0] })) [97, 0] false rfl (by kernel_rfl) (of_decide_eq_true (by kernel_rfl)) rfl (hdep ⟨0, .data⟩ (Array.mem_of_getElem? (i := 0) rfl) (by decide)) hLi hL'
    · have ho0 := ho
      cases ho
      have q0 : L' 0 = L 0 := by rw [hL' 0, if_neg (by decide)]
      have q12 : L' 12 = L 12 := by rw [hL' 12, if_neg (by decide)]
      have q13 : L' 13 = L 13 := by rw [hL' 13, if_neg (by decide)]
      have q18 : L' 18 = L 18 := by rw [hL' 18, if_neg (by decide)]
      have q19 : L' 19 = L 19 := by rw [hL' 19, if_neg (by decide)]
      refine wp_of_run (run_move (.tmp 1) rfl _ ((J.like.rest 1 (by kernel_rfl)).trans h1)) ?_
      exact ⟨J.like.put ho0 _, (fun h => (eval_put_other (by decide)).trans (J.e0 (q0 ▸ h))), (fun _ => eval_put_same (by rw [hsz]; decide)), (fun h => (eval_put_other (by decide)).trans (J.e12 (q12 ▸ h))), (fun h => (eval_put_other (by decide)).trans (J.e13 (q13 ▸ h))), (fun h => (eval_put_other (by decide)).trans (J.e18 (q18 ▸ h))), (fun h => (eval_put_other (by decide)).trans (J.e19 (q19 ▸ h))), (fun h j hj => hm j (J.l18 (q18 ▸ h) j hj)), (fun h => hm 18 (J.l19 (q19 ▸ h))), (fun h => J.k0 (q0 ▸ h)), (fun h h' => J.k1 (q0 ▸ h) (q19 ▸ h')), (fun h => J.k2 (q19 ▸ h))⟩
    · cases ho
      exact J.ins 11 _ (by decide) (by decide) (by decide) (by decide) (by decide) rfl (.tmp 30) nnL true rfl (by kernel_rfl) (of_decide_eq_true (by kernel_rfl)) (J.e10 (hdep ⟨10, .data⟩ (Array.mem_of_getElem? (i := 1) rfl) (by decide))) (hdep ⟨0, .data⟩ (Array.mem_of_getElem? (i := 0) rfl) (by decide)) hLi hL'
    · have ho0 := ho
      cases ho
      have q0 : L' 0 = L 0 := by rw [hL' 0, if_neg (by decide)]
      have q10 : L' 10 = L 10 := by rw [hL' 10, if_neg (by decide)]
      have q13 : L' 13 = L 13 := by rw [hL' 13, if_neg (by decide)]
      have q18 : L' 18 = L 18 := by rw [hL' 18, if_neg (by decide)]
      have q19 : L' 19 = L 19 := by rw [hL' 19, if_neg (by decide)]
      refine wp_of_run (run_move (.tmp 1) rfl _ ((J.like.rest 1 (by kernel_rfl)).trans h1)) ?_
      exact ⟨J.like.put ho0 _, (fun h => (eval_put_other (by decide)).trans (J.e0 (q0 ▸ h))), (fun h => (eval_put_other (by decide)).trans (J.e10 (q10 ▸ h))), (fun _ => eval_put_same (by rw [hsz]; decide)), (fun h => (eval_put_other (by decide)).trans (J.e13 (q13 ▸ h))), (fun h => (eval_put_other (by decide)).trans (J.e18 (q18 ▸ h))), (fun h => (eval_put_other (by decide)).trans (J.e19 (q19 ▸ h))), (fun h j hj => hm j (J.l18 (q18 ▸ h) j hj)), (fun h => hm 18 (J.l19 (q19 ▸ h))), (fun h => J.k0 (q0 ▸ h)), (fun h h' => J.k1 (q0 ▸ h) (q19 ▸ h')), (fun h => J.k2 (q19 ▸ h))⟩
    · have ho0 := ho
      cases ho
      have q0 : L' 0 = L 0 := by rw [hL' 0, if_neg (by decide)]
      have q10 : L' 10 = L 10 := by rw [hL' 10, if_neg (by decide)]
      have q12 : L' 12 = L 12 := by rw [hL' 12, if_neg (by decide)]
      have q18 : L' 18 = L 18 := by rw [hL' 18, if_neg (by decide)]
      have q19 : L' 19 = L 19 := by rw [hL' 19, if_neg (by decide)]
      have e31 := J.e12 (hdep ⟨12, .data⟩ (Array.mem_of_getElem? (i := 0) rfl) (by decide))
      refine wp_of_run (run_cat W _ e31 rfl) ?_
      exact ⟨J.like.put ho0 _, (fun h => (eval_put_other (by decide)).trans (J.e0 (q0 ▸ h))), (fun h => (eval_put_other (by decide)).trans (J.e10 (q10 ▸ h))), (fun h => (eval_put_other (by decide)).trans (J.e12 (q12 ▸ h))), (fun _ => eval_put_same (by rw [hsz]; decide)), (fun h => (eval_put_other (by decide)).trans (J.e18 (q18 ▸ h))), (fun h => (eval_put_other (by decide)).trans (J.e19 (q19 ▸ h))), (fun h j hj => hm j (J.l18 (q18 ▸ h) j hj)), (fun h => hm 18 (J.l19 (q19 ▸ h))), (fun h => J.k0 (q0 ▸ h)), (fun h h' => J.k1 (q0 ▸ h) (q19 ▸ h')), (fun h => J.k2 (q19 ▸ h))⟩
    · cases ho
      exact J.ins 14 _ (by decide) (by decide) (by decide) (by decide) (by decide) rfl (.tmp 32) (nnL ++ [110]) false rfl (by kernel_rfl) (of_decide_eq_true (by kernel_rfl)) (J.e13 (hdep ⟨13, .data⟩ (Array.mem_of_getElem? (i := 1) rfl) (by decide))) (hdep ⟨0, .data⟩ (Array.mem_of_getElem? (i := 0) rfl) (by decide)) hLi hL'
    · cases ho
      exact J.ins 15 _ (by decide) (by decide) (by decide) (by decide) (by decide) rfl (Go.Operand.const (Go.Value.string { data := #[255] })) [255] true rfl (by kernel_rfl) (of_decide_eq_true (by kernel_rfl)) rfl (hdep ⟨0, .data⟩ (Array.mem_of_getElem? (i := 0) rfl) (by decide)) hLi hL'
    · cases ho
      exact J.ins 16 _ (by decide) (by decide) (by decide) (by decide) (by decide) rfl (Go.Operand.const (Go.Value.string { data := #[32] })) [32] true rfl (by kernel_rfl) (of_decide_eq_true (by kernel_rfl)) rfl (hdep ⟨0, .data⟩ (Array.mem_of_getElem? (i := 0) rfl) (by decide)) hLi hL'
    · cases ho
      exact J.ins 17 _ (by decide) (by decide) (by decide) (by decide) (by decide) rfl (Go.Operand.const (Go.Value.string { data := #[46, 119, 104, 46, 120] })) [46, 119, 104, 46, 120] false rfl (by kernel_rfl) (of_decide_eq_true (by kernel_rfl)) rfl (hdep ⟨0, .data⟩ (Array.mem_of_getElem? (i := 0) rfl) (by decide)) hLi hL'
    · have ho0 := ho
      cases ho
      have q0 : L' 0 = L 0 := by rw [hL' 0, if_neg (by decide)]
      have q10 : L' 10 = L 10 := by rw [hL' 10, if_neg (by decide)]
      have q12 : L' 12 = L 12 := by rw [hL' 12, if_neg (by decide)]
      have q13 : L' 13 = L 13 := by rw [hL' 13, if_neg (by decide)]
      have q19 : L' 19 = L 19 := by rw [hL' 19, if_neg (by decide)]
      have hall : ∀ j, j < 18 → L j = true := fun j hj => by
        exact hdep ⟨j, .data⟩ (by rcases (by omega : j = 0 ∨ j = 1 ∨ j = 2 ∨ j = 3 ∨ j = 4 ∨ j = 5 ∨ j = 6 ∨ j = 7 ∨ j = 8 ∨ j = 9 ∨ j = 10 ∨ j = 11 ∨ j = 12 ∨ j = 13 ∨ j = 14 ∨ j = 15 ∨ j = 16 ∨ j = 17) with rfl | rfl | rfl | rfl | rfl | rfl | rfl | rfl | rfl | rfl | rfl | rfl | rfl | rfl | rfl | rfl | rfl | rfl <;> first | exact Array.mem_of_getElem? (i := 0) rfl | exact Array.mem_of_getElem? (i := 1) rfl | exact Array.mem_of_getElem? (i := 2) rfl | exact Array.mem_of_getElem? (i := 3) rfl | exact Array.mem_of_getElem? (i := 4) rfl | exact Array.mem_of_getElem? (i := 5) rfl | exact Array.mem_of_getElem? (i := 6) rfl | exact Array.mem_of_getElem? (i := 7) rfl | exact Array.mem_of_getElem? (i := 8) rfl | exact Array.mem_of_getElem? (i := 9) rfl | exact Array.mem_of_getElem? (i := 10) rfl | exact Array.mem_of_getElem? (i := 11) rfl | exact Array.mem_of_getElem? (i := 12) rfl | exact Array.mem_of_getElem? (i := 13) rfl | exact Array.mem_of_getElem? (i := 14) rfl | exact Array.mem_of_getElem? (i := 15) rfl | exact Array.mem_of_getElem? (i := 16) rfl | exact Array.mem_of_getElem? (i := 17) rfl) rfl
      have n19 : L 19 = false := by
        cases h : L 19 with
        | false => rfl
        | true => have := J.l19 h; rw [hLi] at this; cases this
      refine wp_of_run (run_move (.tmp 29) rfl _ (J.e0 (hall 0 (by decide)))) ?_
      exact ⟨J.like.put ho0 _, (fun h => (eval_put_other (by decide)).trans (J.e0 (q0 ▸ h))), (fun h => (eval_put_other (by decide)).trans (J.e10 (q10 ▸ h))), (fun h => (eval_put_other (by decide)).trans (J.e12 (q12 ▸ h))), (fun h => (eval_put_other (by decide)).trans (J.e13 (q13 ▸ h))), (fun _ => eval_put_same (by rw [hsz]; decide)), (fun h => (eval_put_other (by decide)).trans (J.e19 (q19 ▸ h))), (fun _ j hj => hm j (hall j hj)), (fun h => by rw [q19, n19] at h; cases h), (fun h => J.k0 (q0 ▸ h)), (fun h h' => J.k1 (q0 ▸ h) (q19 ▸ h')), (fun h => J.k2 (q19 ▸ h))⟩
    · have ho0 := ho
      cases ho
      have q0 : L' 0 = L 0 := by rw [hL' 0, if_neg (by decide)]
      have q10 : L' 10 = L 10 := by rw [hL' 10, if_neg (by decide)]
      have q12 : L' 12 = L 12 := by rw [hL' 12, if_neg (by decide)]
      have q13 : L' 13 = L 13 := by rw [hL' 13, if_neg (by decide)]
      have q18 : L' 18 = L 18 := by rw [hL' 18, if_neg (by decide)]
      have h18 : L 18 = true := hdep ⟨18, .data⟩ (Array.mem_of_getElem? (i := 0) rfl) (by decide)
      obtain ⟨es, c, hg, hW⟩ := J.k1 (J.l18 h18 0 (by decide)) hLi
      subst hW
      have hr := run_range_map (P := Tryd.prog) (w.drew.alloc (.map es c)) 41 9 4 w.drew.heap.size es c Tryd.underlying41 (heap_alloc_new w.drew _)
      rw [World.size_alloc] at hr
      have e33 := J.e18 h18
      refine wp_of_run (run_of (s := Instr.range 41 (.map (some w.drew.heap.size))) (by rw [← e33]; rfl) hr) ?_
      exact ⟨J.like.put ho0 _, (fun h => (eval_put_other (by decide)).trans (J.e0 (q0 ▸ h))), (fun h => (eval_put_other (by decide)).trans (J.e10 (q10 ▸ h))), (fun h => (eval_put_other (by decide)).trans (J.e12 (q12 ▸ h))), (fun h => (eval_put_other (by decide)).trans (J.e13 (q13 ▸ h))), (fun h => (eval_put_other (by decide)).trans (J.e18 (q18 ▸ h))), (fun _ => eval_put_same (by rw [hsz]; decide)), (fun _ j hj => hm j (J.l18 h18 j hj)), (fun _ => hm 18 h18), (fun h => by rw [q0, J.l18 h18 0 (by decide)] at h; cases h), (fun _ h => by rw [hL' 19, if_pos rfl] at h; cases h), (fun _ => ⟨es, c, hg, rfl⟩)⟩
  · have hal : ∀ j, j < 20 → L j = true := fun j hj => hall j (by rw [opsK_size]; exact hj)
    obtain ⟨es, c, hg, hW⟩ := J.k2 (hal 19 (by decide))
    subst hW
    exact hQ a' es c J.like (J.e0 (hal 0 (by decide))) (J.e10 (hal 10 (by decide))) (J.e12 (hal 12 (by decide))) (J.e13 (hal 13 (by decide))) (J.e18 (hal 18 (by decide))) (J.e19 (hal 19 (by decide))) hg
end
end Go.Proofs.YtgdnemjlmhmhhaaDoor
