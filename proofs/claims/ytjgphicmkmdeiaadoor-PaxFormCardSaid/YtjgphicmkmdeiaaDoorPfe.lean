/-
  The document's own Put: the statement that lays a record's text, whatever its order.
-/
import Derived.Test.YtjgphicmkmdeiaaDoorPfc
import Derived.Test.YtjgphicmkmdeiaaDoorPfo
import Derived.Test.YtjgphicmkmdeiaaDoorPfa
import Derived.IntWalk
namespace Go.Proofs.YtjgphicmkmdeiaaDoor
open Go.RowKit Go.Maps Inv

theorem run_concat {o : Oper} {a : Act} {W : World} (x y : Operand) (ho : o.op = .binOp .add 9 x y 9) (s t r : ByteArray) (hx : a.eval x = .string s) (hy : a.eval y = .string t) (hr : s ++ t = r) (hs : (s.size : Int) ≤ 1000000) (ht : (t.size : Int) ≤ 1000000) :
    (execOp a.eval o).run Tryd.prog W = .ok (.value (.string r)) W := by
  subst hr
  have h9 : s.size + t.size ≤ 9223372036854775807 := by omega
  unfold execOp; rw [ho]; simp only [hx, hy]
  go_simp
def opsP : Array Oper := #[{ dst := some 25, op := Go.Op.move (Go.Operand.tmp 4), type := 26, pos := "ref.go:59", after := #[], guard := none },
  { dst := some 26, op := Go.Op.move (Go.Operand.tmp 0), type := 23, pos := "ref.go:59", after := #[], guard := none },
  { dst := some 27, op := Go.Op.move (Go.Operand.tmp 6), type := 3, pos := "ref.go:59", after := #[], guard := none },
  { dst := some 28, op := Go.Op.indexAddr 23 (Go.Operand.tmp 26) (Go.Operand.tmp 27), type := 0, pos := "ref.go:59", after := #[{ on := 1, ground := Go.Ground.data }, { on := 2, ground := Go.Ground.data }], guard := none },
  { dst := some 29, op := Go.Op.load 39 (Go.Operand.tmp 28), type := 39, pos := "ref.go:59", after := #[{ on := 3, ground := Go.Ground.data }], guard := none },
  { dst := some 30, op := Go.Op.call { callee := Go.Callee.value (Go.Operand.func 16), args := #[Go.Operand.tmp 29], argTypes := #[39] }, type := 3, pos := "ref.go:59", after := #[{ on := 4, ground := Go.Ground.data }], guard := none },
  { dst := some 31, op := Go.Op.convert 3 60 (Go.Operand.tmp 30), type := 60, pos := "ref.go:59", after := #[{ on := 5, ground := Go.Ground.data }], guard := none },
  { dst := some 32, op := Go.Op.call { callee := Go.Callee.value (Go.Operand.func 26), args := #[Go.Operand.tmp 31], argTypes := #[60] }, type := 9, pos := "ref.go:59", after := #[{ on := 6, ground := Go.Ground.data }, { on := 5, ground := Go.Ground.chain }], guard := none },
  { dst := some 33, op := Go.Op.binOp Go.BinOp.add 9 (Go.Operand.tmp 32) (Go.Operand.const (Go.Value.string { data := #[32] })) 9, type := 9, pos := "ref.go:59", after := #[{ on := 7, ground := Go.Ground.data }], guard := none },
  { dst := some 34, op := Go.Op.move (Go.Operand.tmp 0), type := 23, pos := "ref.go:59", after := #[], guard := none },
  { dst := some 35, op := Go.Op.move (Go.Operand.tmp 6), type := 3, pos := "ref.go:59", after := #[], guard := none },
  { dst := some 36, op := Go.Op.indexAddr 23 (Go.Operand.tmp 34) (Go.Operand.tmp 35), type := 0, pos := "ref.go:59", after := #[{ on := 9, ground := Go.Ground.data }, { on := 10, ground := Go.Ground.data }], guard := none },
  { dst := some 37, op := Go.Op.fieldAddr 39 (Go.Operand.tmp 36) 0, type := 0, pos := "ref.go:59", after := #[{ on := 11, ground := Go.Ground.data }], guard := none },
  { dst := some 38, op := Go.Op.load 9 (Go.Operand.tmp 37), type := 9, pos := "ref.go:59", after := #[{ on := 12, ground := Go.Ground.data }], guard := none },
  { dst := some 39, op := Go.Op.binOp Go.BinOp.add 9 (Go.Operand.tmp 33) (Go.Operand.tmp 38) 9, type := 9, pos := "ref.go:59", after := #[{ on := 8, ground := Go.Ground.data }, { on := 13, ground := Go.Ground.data }], guard := none },
  { dst := some 40, op := Go.Op.binOp Go.BinOp.add 9 (Go.Operand.tmp 39) (Go.Operand.const (Go.Value.string { data := #[61] })) 9, type := 9, pos := "ref.go:59", after := #[{ on := 14, ground := Go.Ground.data }], guard := none },
  { dst := some 41, op := Go.Op.move (Go.Operand.tmp 0), type := 23, pos := "ref.go:59", after := #[], guard := none },
  { dst := some 42, op := Go.Op.move (Go.Operand.tmp 6), type := 3, pos := "ref.go:59", after := #[], guard := none },
  { dst := some 43, op := Go.Op.indexAddr 23 (Go.Operand.tmp 41) (Go.Operand.tmp 42), type := 0, pos := "ref.go:59", after := #[{ on := 16, ground := Go.Ground.data }, { on := 17, ground := Go.Ground.data }], guard := none },
  { dst := some 44, op := Go.Op.fieldAddr 39 (Go.Operand.tmp 43) 1, type := 0, pos := "ref.go:59", after := #[{ on := 18, ground := Go.Ground.data }], guard := none },
  { dst := some 45, op := Go.Op.load 9 (Go.Operand.tmp 44), type := 9, pos := "ref.go:59", after := #[{ on := 19, ground := Go.Ground.data }], guard := none },
  { dst := some 46, op := Go.Op.binOp Go.BinOp.add 9 (Go.Operand.tmp 40) (Go.Operand.tmp 45) 9, type := 9, pos := "ref.go:59", after := #[{ on := 15, ground := Go.Ground.data }, { on := 20, ground := Go.Ground.data }], guard := none },
  { dst := some 47, op := Go.Op.binOp Go.BinOp.add 9 (Go.Operand.tmp 46) (Go.Operand.const (Go.Value.string { data := #[10] })) 9, type := 9, pos := "ref.go:59", after := #[{ on := 21, ground := Go.Ground.data }], guard := none },
  { dst := some 48, op := Go.Op.call { callee := Go.Callee.builtin Go.Builtin.append, args := #[Go.Operand.tmp 25, Go.Operand.tmp 47], argTypes := #[26, 9] }, type := 26, pos := "ref.go:59", after := #[{ on := 0, ground := Go.Ground.data }, { on := 22, ground := Go.Ground.data }, { on := 7, ground := Go.Ground.chain }], guard := none },
  { dst := some 4, op := Go.Op.assign (Go.Operand.tmp 48), type := 26, pos := "ref.go:59", after := #[{ on := 23, ground := Go.Ground.data }, { on := 23, ground := Go.Ground.chain }, { on := 0, ground := Go.Ground.phase }, { on := 1, ground := Go.Ground.phase }, { on := 2, ground := Go.Ground.phase }, { on := 3, ground := Go.Ground.phase }, { on := 4, ground := Go.Ground.phase }, { on := 5, ground := Go.Ground.phase }, { on := 6, ground := Go.Ground.phase }, { on := 7, ground := Go.Ground.phase }, { on := 8, ground := Go.Ground.phase }, { on := 9, ground := Go.Ground.phase }, { on := 10, ground := Go.Ground.phase }, { on := 11, ground := Go.Ground.phase }, { on := 12, ground := Go.Ground.phase }, { on := 13, ground := Go.Ground.phase }, { on := 14, ground := Go.Ground.phase }, { on := 15, ground := Go.Ground.phase }, { on := 16, ground := Go.Ground.phase }, { on := 17, ground := Go.Ground.phase }, { on := 18, ground := Go.Ground.phase }, { on := 19, ground := Go.Ground.phase }, { on := 20, ground := Go.Ground.phase }, { on := 21, ground := Go.Ground.phase }, { on := 22, ground := Go.Ground.phase }, { on := 23, ground := Go.Ground.phase }], guard := none }]
theorem opsP_size : opsP.size = 25 := rfl
def valP (b : Value) (g o n cap j q : Nat) (bk bz bd s1 s2 s3 s4 s5 : ByteArray) : Nat → Option Value
  | 0 => some (b)
  | 1 => some (.slice (some ⟨g, o, none⟩) n cap)
  | 2 => some (.int .i64 (j : Int))
  | 3 => some (.pointer (some ⟨g, o + j * 2, none⟩))
  | 4 => some (.agg #[.string bk, .string bz])
  | 5 => some (.int .i64 (q : Int))
  | 6 => some (.int .u64 (q : Int))
  | 7 => some (.string bd)
  | 8 => some (.string s1)
  | 9 => some (.slice (some ⟨g, o, none⟩) n cap)
  | 10 => some (.int .i64 (j : Int))
  | 11 => some (.pointer (some ⟨g, o + j * 2, none⟩))
  | 12 => some (.pointer (some ⟨g, o + j * 2, none⟩))
  | 13 => some (.string bk)
  | 14 => some (.string s2)
  | 15 => some (.string s3)
  | 16 => some (.slice (some ⟨g, o, none⟩) n cap)
  | 17 => some (.int .i64 (j : Int))
  | 18 => some (.pointer (some ⟨g, o + j * 2, none⟩))
  | 19 => some (.pointer (some ⟨g, o + j * 2 + 1, none⟩))
  | 20 => some (.string bz)
  | 21 => some (.string s4)
  | 22 => some (.string s5)
  | _ => none
structure MP (w : World) (B : Nat) (b : Value) (T : List UInt8) (U : List Value) (m : Nat) (L : Nat → Bool) (a : Act) (W : World) : Prop where
  below : Below B w W
  f : L 23 = true → W.ownsRow B 5 1 (a.eval (.tmp 48)) m U
  g : L 23 = false → OwnBy B W b T
  f4 : L 24 = true → a.eval (.tmp 4) = a.eval (.tmp 48)
  g4 : L 24 = false → a.eval (.tmp 4) = b
  d4 : L 24 = true → L 0 = true ∧ L 23 = true
theorem MP.pure {w : World} {B : Nat} {b : Value} {T : List UInt8} {U : List Value} {m : Nat} {L L' : Nat → Bool} {a : Act} {W W' : World} (M : MP w B b T U m L a W) (hB : B ≤ w.heap.size) (i d : Nat) (v : Value) (hL' : ∀ j, L' j = if j = i then true else L j) (hi : i ≠ 23) (hi2 : i ≠ 24) (h48 : d ≠ 48) (h4 : d ≠ 4) (hb : Below W.heap.size W W') : MP w B b T U m L' (a.put (some d) v) W' := by
  have l23 : L' 23 = L 23 := by rw [hL' 23, if_neg (Ne.symm hi)]
  have l24 : L' 24 = L 24 := by rw [hL' 24, if_neg (Ne.symm hi2)]
  have e48 : (a.put (some d) v).eval (.tmp 48) = a.eval (.tmp 48) := eval_put_other (fun e => h48 (Option.some.inj e))
  have e4 : (a.put (some d) v).eval (.tmp 4) = a.eval (.tmp 4) := eval_put_other (fun e => h4 (Option.some.inj e))
  have hm : ∀ j, L j = true → L' j = true := fun j h => by rw [hL' j]; split <;> first | rfl | exact h
  refine ⟨M.below.trans (hb.mono (Nat.le_trans hB M.below.size)), fun h => ?_, fun h => ?_, fun h => ?_, fun h => ?_, fun h => ?_⟩
  · rw [e48]; exact own_staysK (M.f (l23 ▸ h)) (fun j hj => hb.block j ((M.f (l23 ▸ h)).lt j hj).2)
  · exact own_staysK (M.g (l23 ▸ h)) (fun j hj => hb.block j ((M.g (l23 ▸ h)).lt j hj).2)
  · rw [e48, e4]; exact M.f4 (l24 ▸ h)
  · rw [e4]; exact M.g4 (l24 ▸ h)
  · exact ⟨hm _ (M.d4 (l24 ▸ h)).1, hm _ (M.d4 (l24 ▸ h)).2⟩
set_option maxRecDepth 100000 in
set_option maxHeartbeats 4000000 in
theorem rput_region (a0 : Act) (hn : a0.tmps.size = 53) (w : World) (B g o n cap j q : Nat) (b : Value) (T : List UInt8) (bk bz bd s1 s2 s3 s4 s5 : ByteArray) (h4 : a0.eval (.tmp 4) = b) (h0 : a0.eval (.tmp 0) = .slice (some ⟨g, o, none⟩) n cap) (h6 : a0.eval (.tmp 6) = .int .i64 (j : Int))
    (hj : (j : Int) < (n : Int)) (hq : (q : Int) ≤ 1099511627776)
    (hc0 : ∀ W, Below B w W → W.cell? ⟨g, o + j * 2, none⟩ = some (.string bk)) (hc1 : ∀ W, Below B w W → W.cell? ⟨g, o + j * 2 + 1, none⟩ = some (.string bz))
    (hS : ∀ W, Calls Tryd.prog 16 #[.agg #[.string bk, .string bz]] W fun e w' => e = .returned (.int .i64 (q : Int)) ∧ Below W.heap.size W w')
    (hD : ∀ W, Calls Tryd.prog 26 #[.int .u64 (q : Int)] W fun e w' => e = .returned (.string bd) ∧ Below W.heap.size W w')
    (e1 : bd ++ ⟨#[32]⟩ = s1) (e2 : s1 ++ bk = s2) (e3 : s2 ++ ⟨#[61]⟩ = s3) (e4 : s3 ++ bz = s4) (e5 : s4 ++ ⟨#[10]⟩ = s5)
    (z0 : (bd.size : Int) ≤ 1000000) (zk : (bk.size : Int) ≤ 1000000) (zz : (bz.size : Int) ≤ 1000000) (z1 : (s1.size : Int) ≤ 1000000) (z2 : (s2.size : Int) ≤ 1000000) (z3 : (s3.size : Int) ≤ 1000000) (z4 : (s4.size : Int) ≤ 1000000) (z5 : s5.size ≤ 1000000)
    (ho : OwnBy B w b T) (hB : B ≤ w.heap.size) (hT : T.length ≤ 100000000) (Q : Exit → Act → World → Prop)
    (hQ : ∀ v' W, W.ownsRow B 5 1 v' (T.length + s5.size) (bl T ++ Lib.strCells s5) → Below B w W → Q .normal (putAll a0 [(25, b), (26, .slice (some ⟨g, o, none⟩) n cap), (27, .int .i64 (j : Int)), (28, .pointer (some ⟨g, o + j * 2, none⟩)), (29, .agg #[.string bk, .string bz]), (30, .int .i64 (q : Int)), (31, .int .u64 (q : Int)), (32, .string bd), (33, .string s1), (34, .slice (some ⟨g, o, none⟩) n cap), (35, .int .i64 (j : Int)), (36, .pointer (some ⟨g, o + j * 2, none⟩)), (37, .pointer (some ⟨g, o + j * 2, none⟩)), (38, .string bk), (39, .string s2), (40, .string s3), (41, .slice (some ⟨g, o, none⟩) n cap), (42, .int .i64 (j : Int)), (43, .pointer (some ⟨g, o + j * 2, none⟩)), (44, .pointer (some ⟨g, o + j * 2 + 1, none⟩)), (45, .string bz), (46, .string s4), (47, .string s5), (48, v'), (4, v')]) W) : (Code.region 10 opsP true).wp Tryd.prog Q a0 w := by
  obtain ⟨i0, hi0, hz0, hz1, hz2⟩ := info_parts info5
  refine wp_region_K (by kernel_rfl) (by rw [hn]; kernel_rfl) (fun i o ho => ?_) (valP b g o n cap j q bk bz bd s1 s2 s3 s4 s5) (MP w B b T (bl T ++ Lib.strCells s5) (T.length + s5.size)) (fun L hL => ?_) (fun L L' a W i oo hoo hLi hdep J hL' => ?_) (fun L a' W hall J => ?_)
  · have hi := (Array.getElem?_eq_some_iff.1 ho).1
    rw [opsP_size] at hi
    rcases (by omega : i = 0 ∨ i = 1 ∨ i = 2 ∨ i = 3 ∨ i = 4 ∨ i = 5 ∨ i = 6 ∨ i = 7 ∨ i = 8 ∨ i = 9 ∨ i = 10 ∨ i = 11 ∨ i = 12 ∨ i = 13 ∨ i = 14 ∨ i = 15 ∨ i = 16 ∨ i = 17 ∨ i = 18 ∨ i = 19 ∨ i = 20 ∨ i = 21 ∨ i = 22 ∨ i = 23 ∨ i = 24) with rfl | rfl | rfl | rfl | rfl | rfl | rfl | rfl | rfl | rfl | rfl | rfl | rfl | rfl | rfl | rfl | rfl | rfl | rfl | rfl | rfl | rfl | rfl | rfl | rfl <;> (cases ho; rfl)
  · have hf : ∀ j, ¬ L j = true := fun j h => by rw [hL] at h; cases h
    exact ⟨⟨rfl, rfl, rfl, Nat.le_refl _, fun _ _ => rfl⟩, fun h => (hf _ h).elim, fun _ => own_staysK ho (fun _ _ => rfl), fun h => (hf _ h).elim, fun _ => h4, fun h => (hf _ h).elim⟩
  · have hi := (Array.getElem?_eq_some_iff.1 hoo).1
    rw [opsP_size] at hi
    have hm : ∀ j, L j = true → L' j = true := fun j h => by rw [hL' j]; split <;> first | rfl | exact h
    have nn : ∀ j, L' j = false → L j = false := fun j h => by cases h2 : L j with | false => rfl | true => rw [hm j h2] at h; cases h
    have hsz : Hid (a.tmps.size = 53) := Lib.hid (J.like.size.trans hn)
    have hBW : Below W.heap.size W W := Below.refl _ _
    have hu : IntKind.u64.wrap (q : Int) = (q : Int) := by rw [IntKind.wrap_u64]; omega
    have k0 : a.eval (.tmp 0) = .slice (some ⟨g, o, none⟩) n cap := (J.like.rest 0 (by kernel_rfl)).trans h0
    have k6 : a.eval (.tmp 6) = .int .i64 (j : Int) := (J.like.rest 6 (by kernel_rfl)).trans h6
    have k4 : L 0 = false → a.eval (.tmp 4) = b := fun h => J.m.g4 (by cases h2 : L 24 with | false => rfl | true => have h9 := (J.m.d4 h2).1; rw [h] at h9; cases h9)
    have c0 := hc0 W J.m.below
    have c1 := hc1 W J.m.below
    rcases (by omega : i = 0 ∨ i = 1 ∨ i = 2 ∨ i = 3 ∨ i = 4 ∨ i = 5 ∨ i = 6 ∨ i = 7 ∨ i = 8 ∨ i = 9 ∨ i = 10 ∨ i = 11 ∨ i = 12 ∨ i = 13 ∨ i = 14 ∨ i = 15 ∨ i = 16 ∨ i = 17 ∨ i = 18 ∨ i = 19 ∨ i = 20 ∨ i = 21 ∨ i = 22 ∨ i = 23 ∨ i = 24) with rfl | rfl | rfl | rfl | rfl | rfl | rfl | rfl | rfl | rfl | rfl | rfl | rfl | rfl | rfl | rfl | rfl | rfl | rfl | rfl | rfl | rfl | rfl | rfl | rfl
    · have hds : oo.dst = some 25 := by cases hoo; rfl
      have hop : oo.op = Go.Op.move (Go.Operand.tmp 4) := by cases hoo; rfl
      refine wp_of_run (run_move _ hop _ (k4 hLi)) ?_
      exact ⟨_, rfl, (fun u hu => by rw [hds]; cases hu; rfl), by rw [hds]; exact (J.m.pure hB 0 25 _ hL' (by decide) (by decide) (by decide) (by decide) hBW)⟩
    · have hds : oo.dst = some 26 := by cases hoo; rfl
      have hop : oo.op = Go.Op.move (Go.Operand.tmp 0) := by cases hoo; rfl
      refine wp_of_run (run_move _ hop _ k0) ?_
      exact ⟨_, rfl, (fun u hu => by rw [hds]; cases hu; rfl), by rw [hds]; exact (J.m.pure hB 1 26 _ hL' (by decide) (by decide) (by decide) (by decide) hBW)⟩
    · have hds : oo.dst = some 27 := by cases hoo; rfl
      have hop : oo.op = Go.Op.move (Go.Operand.tmp 6) := by cases hoo; rfl
      refine wp_of_run (run_move _ hop _ k6) ?_
      exact ⟨_, rfl, (fun u hu => by rw [hds]; cases hu; rfl), by rw [hds]; exact (J.m.pure hB 2 27 _ hL' (by decide) (by decide) (by decide) (by decide) hBW)⟩
    · have hds : oo.dst = some 28 := by cases hoo; rfl
      have hop : oo.op = Go.Op.indexAddr 23 (Go.Operand.tmp 26) (Go.Operand.tmp 27) := by cases hoo; rfl
      have d1 : a.eval (.tmp 26) = .slice (some ⟨g, o, none⟩) n cap := J.val 1 _ rfl (hdep ⟨1, .data⟩ (Array.mem_of_getElem? (i := 0) (by cases hoo; rfl)) (by decide))
      have d2 : a.eval (.tmp 27) = .int .i64 (j : Int) := J.val 2 _ rfl (hdep ⟨2, .data⟩ (Array.mem_of_getElem? (i := 1) (by cases hoo; rfl)) (by decide))
      refine wp_of_run (v := .pointer (some ⟨g, o + j * 2, none⟩)) (w' := W) (by unfold execOp; rw [hop]; have x1 := ev_get d1; have x2 := ev_get d2; go_simp) ?_
      exact ⟨_, rfl, (fun u hu => by rw [hds]; cases hu; rfl), by rw [hds]; exact (J.m.pure hB 3 28 _ hL' (by decide) (by decide) (by decide) (by decide) hBW)⟩
    · have hds : oo.dst = some 29 := by cases hoo; rfl
      have hop : oo.op = Go.Op.load 39 (Go.Operand.tmp 28) := by cases hoo; rfl
      have d3 : a.eval (.tmp 28) = .pointer (some ⟨g, o + j * 2, none⟩) := J.val 3 _ rfl (hdep ⟨3, .data⟩ (Array.mem_of_getElem? (i := 0) (by cases hoo; rfl)) (by decide))
      refine wp_of_run (v := .agg #[.string bk, .string bz]) (w' := W) (by unfold execOp; rw [hop]; have x3 := ev_get d3; go_simp) ?_
      exact ⟨_, rfl, (fun u hu => by rw [hds]; cases hu; rfl), by rw [hds]; exact (J.m.pure hB 4 29 _ hL' (by decide) (by decide) (by decide) (by decide) hBW)⟩
    · have hds : oo.dst = some 30 := by cases hoo; rfl
      have hop : oo.op = Go.Op.call { callee := Go.Callee.value (Go.Operand.func 16), args := #[Go.Operand.tmp 29], argTypes := #[39] } := by cases hoo; rfl
      have d4 : a.eval (.tmp 29) = .agg #[.string bk, .string bz] := J.val 4 _ rfl (hdep ⟨4, .data⟩ (Array.mem_of_getElem? (i := 0) (by cases hoo; rfl)) (by decide))
      refine wp_of_callK (v := .int .i64 (q : Int)) (by unfold execOp; rw [hop]; have x := ev_get d4; go_simp) (hS W) (fun w1 hw1 => ?_)
      exact ⟨_, rfl, (fun u hu => by rw [hds]; cases hu; rfl), by rw [hds]; exact (J.m.pure hB 5 30 _ hL' (by decide) (by decide) (by decide) (by decide) hw1)⟩
    · have hds : oo.dst = some 31 := by cases hoo; rfl
      have hop : oo.op = Go.Op.convert 3 60 (Go.Operand.tmp 30) := by cases hoo; rfl
      have d5 : a.eval (.tmp 30) = .int .i64 (q : Int) := J.val 5 _ rfl (hdep ⟨5, .data⟩ (Array.mem_of_getElem? (i := 0) (by cases hoo; rfl)) (by decide))
      refine wp_of_run (v := .int .u64 (q : Int)) (w' := W) (by unfold execOp; rw [hop]; have x5 := ev_get d5; go_simp) ?_
      exact ⟨_, rfl, (fun u hu => by rw [hds]; cases hu; rfl), by rw [hds]; exact (J.m.pure hB 6 31 _ hL' (by decide) (by decide) (by decide) (by decide) hBW)⟩
    · have hds : oo.dst = some 32 := by cases hoo; rfl
      have hop : oo.op = Go.Op.call { callee := Go.Callee.value (Go.Operand.func 26), args := #[Go.Operand.tmp 31], argTypes := #[60] } := by cases hoo; rfl
      have d6 : a.eval (.tmp 31) = .int .u64 (q : Int) := J.val 6 _ rfl (hdep ⟨6, .data⟩ (Array.mem_of_getElem? (i := 0) (by cases hoo; rfl)) (by decide))
      refine wp_of_callK (v := .string bd) (by unfold execOp; rw [hop]; have x := ev_get d6; go_simp) (hD W) (fun w1 hw1 => ?_)
      exact ⟨_, rfl, (fun u hu => by rw [hds]; cases hu; rfl), by rw [hds]; exact (J.m.pure hB 7 32 _ hL' (by decide) (by decide) (by decide) (by decide) hw1)⟩
    · have hds : oo.dst = some 33 := by cases hoo; rfl
      have hop : oo.op = Go.Op.binOp Go.BinOp.add 9 (Go.Operand.tmp 32) (Go.Operand.const (Go.Value.string { data := #[32] })) 9 := by cases hoo; rfl
      have d7 : a.eval (.tmp 32) = .string bd := J.val 7 _ rfl (hdep ⟨7, .data⟩ (Array.mem_of_getElem? (i := 0) (by cases hoo; rfl)) (by decide))
      refine wp_of_run (run_concat _ _ hop _ _ _ d7 rfl e1 z0 (by decide)) ?_
      exact ⟨_, rfl, (fun u hu => by rw [hds]; cases hu; rfl), by rw [hds]; exact (J.m.pure hB 8 33 _ hL' (by decide) (by decide) (by decide) (by decide) hBW)⟩
    · have hds : oo.dst = some 34 := by cases hoo; rfl
      have hop : oo.op = Go.Op.move (Go.Operand.tmp 0) := by cases hoo; rfl
      refine wp_of_run (run_move _ hop _ k0) ?_
      exact ⟨_, rfl, (fun u hu => by rw [hds]; cases hu; rfl), by rw [hds]; exact (J.m.pure hB 9 34 _ hL' (by decide) (by decide) (by decide) (by decide) hBW)⟩
    · have hds : oo.dst = some 35 := by cases hoo; rfl
      have hop : oo.op = Go.Op.move (Go.Operand.tmp 6) := by cases hoo; rfl
      refine wp_of_run (run_move _ hop _ k6) ?_
      exact ⟨_, rfl, (fun u hu => by rw [hds]; cases hu; rfl), by rw [hds]; exact (J.m.pure hB 10 35 _ hL' (by decide) (by decide) (by decide) (by decide) hBW)⟩
    · have hds : oo.dst = some 36 := by cases hoo; rfl
      have hop : oo.op = Go.Op.indexAddr 23 (Go.Operand.tmp 34) (Go.Operand.tmp 35) := by cases hoo; rfl
      have d9 : a.eval (.tmp 34) = .slice (some ⟨g, o, none⟩) n cap := J.val 9 _ rfl (hdep ⟨9, .data⟩ (Array.mem_of_getElem? (i := 0) (by cases hoo; rfl)) (by decide))
      have d10 : a.eval (.tmp 35) = .int .i64 (j : Int) := J.val 10 _ rfl (hdep ⟨10, .data⟩ (Array.mem_of_getElem? (i := 1) (by cases hoo; rfl)) (by decide))
      refine wp_of_run (v := .pointer (some ⟨g, o + j * 2, none⟩)) (w' := W) (by unfold execOp; rw [hop]; have x9 := ev_get d9; have x10 := ev_get d10; go_simp) ?_
      exact ⟨_, rfl, (fun u hu => by rw [hds]; cases hu; rfl), by rw [hds]; exact (J.m.pure hB 11 36 _ hL' (by decide) (by decide) (by decide) (by decide) hBW)⟩
    · have hds : oo.dst = some 37 := by cases hoo; rfl
      have hop : oo.op = Go.Op.fieldAddr 39 (Go.Operand.tmp 36) 0 := by cases hoo; rfl
      have d11 : a.eval (.tmp 36) = .pointer (some ⟨g, o + j * 2, none⟩) := J.val 11 _ rfl (hdep ⟨11, .data⟩ (Array.mem_of_getElem? (i := 0) (by cases hoo; rfl)) (by decide))
      refine wp_of_run (v := .pointer (some ⟨g, o + j * 2, none⟩)) (w' := W) (by unfold execOp; rw [hop]; have x11 := ev_get d11; go_simp) ?_
      exact ⟨_, rfl, (fun u hu => by rw [hds]; cases hu; rfl), by rw [hds]; exact (J.m.pure hB 12 37 _ hL' (by decide) (by decide) (by decide) (by decide) hBW)⟩
    · have hds : oo.dst = some 38 := by cases hoo; rfl
      have hop : oo.op = Go.Op.load 9 (Go.Operand.tmp 37) := by cases hoo; rfl
      have d12 : a.eval (.tmp 37) = .pointer (some ⟨g, o + j * 2, none⟩) := J.val 12 _ rfl (hdep ⟨12, .data⟩ (Array.mem_of_getElem? (i := 0) (by cases hoo; rfl)) (by decide))
      refine wp_of_run (v := .string bk) (w' := W) (by unfold execOp; rw [hop]; have x12 := ev_get d12; go_simp) ?_
      exact ⟨_, rfl, (fun u hu => by rw [hds]; cases hu; rfl), by rw [hds]; exact (J.m.pure hB 13 38 _ hL' (by decide) (by decide) (by decide) (by decide) hBW)⟩
    · have hds : oo.dst = some 39 := by cases hoo; rfl
      have hop : oo.op = Go.Op.binOp Go.BinOp.add 9 (Go.Operand.tmp 33) (Go.Operand.tmp 38) 9 := by cases hoo; rfl
      have d8 : a.eval (.tmp 33) = .string s1 := J.val 8 _ rfl (hdep ⟨8, .data⟩ (Array.mem_of_getElem? (i := 0) (by cases hoo; rfl)) (by decide))
      have d13 : a.eval (.tmp 38) = .string bk := J.val 13 _ rfl (hdep ⟨13, .data⟩ (Array.mem_of_getElem? (i := 1) (by cases hoo; rfl)) (by decide))
      refine wp_of_run (run_concat _ _ hop _ _ _ d8 d13 e2 z1 zk) ?_
      exact ⟨_, rfl, (fun u hu => by rw [hds]; cases hu; rfl), by rw [hds]; exact (J.m.pure hB 14 39 _ hL' (by decide) (by decide) (by decide) (by decide) hBW)⟩
    · have hds : oo.dst = some 40 := by cases hoo; rfl
      have hop : oo.op = Go.Op.binOp Go.BinOp.add 9 (Go.Operand.tmp 39) (Go.Operand.const (Go.Value.string { data := #[61] })) 9 := by cases hoo; rfl
      have d14 : a.eval (.tmp 39) = .string s2 := J.val 14 _ rfl (hdep ⟨14, .data⟩ (Array.mem_of_getElem? (i := 0) (by cases hoo; rfl)) (by decide))
      refine wp_of_run (run_concat _ _ hop _ _ _ d14 rfl e3 z2 (by decide)) ?_
      exact ⟨_, rfl, (fun u hu => by rw [hds]; cases hu; rfl), by rw [hds]; exact (J.m.pure hB 15 40 _ hL' (by decide) (by decide) (by decide) (by decide) hBW)⟩
    · have hds : oo.dst = some 41 := by cases hoo; rfl
      have hop : oo.op = Go.Op.move (Go.Operand.tmp 0) := by cases hoo; rfl
      refine wp_of_run (run_move _ hop _ k0) ?_
      exact ⟨_, rfl, (fun u hu => by rw [hds]; cases hu; rfl), by rw [hds]; exact (J.m.pure hB 16 41 _ hL' (by decide) (by decide) (by decide) (by decide) hBW)⟩
    · have hds : oo.dst = some 42 := by cases hoo; rfl
      have hop : oo.op = Go.Op.move (Go.Operand.tmp 6) := by cases hoo; rfl
      refine wp_of_run (run_move _ hop _ k6) ?_
      exact ⟨_, rfl, (fun u hu => by rw [hds]; cases hu; rfl), by rw [hds]; exact (J.m.pure hB 17 42 _ hL' (by decide) (by decide) (by decide) (by decide) hBW)⟩
    · have hds : oo.dst = some 43 := by cases hoo; rfl
      have hop : oo.op = Go.Op.indexAddr 23 (Go.Operand.tmp 41) (Go.Operand.tmp 42) := by cases hoo; rfl
      have d16 : a.eval (.tmp 41) = .slice (some ⟨g, o, none⟩) n cap := J.val 16 _ rfl (hdep ⟨16, .data⟩ (Array.mem_of_getElem? (i := 0) (by cases hoo; rfl)) (by decide))
      have d17 : a.eval (.tmp 42) = .int .i64 (j : Int) := J.val 17 _ rfl (hdep ⟨17, .data⟩ (Array.mem_of_getElem? (i := 1) (by cases hoo; rfl)) (by decide))
      refine wp_of_run (v := .pointer (some ⟨g, o + j * 2, none⟩)) (w' := W) (by unfold execOp; rw [hop]; have x16 := ev_get d16; have x17 := ev_get d17; go_simp) ?_
      exact ⟨_, rfl, (fun u hu => by rw [hds]; cases hu; rfl), by rw [hds]; exact (J.m.pure hB 18 43 _ hL' (by decide) (by decide) (by decide) (by decide) hBW)⟩
    · have hds : oo.dst = some 44 := by cases hoo; rfl
      have hop : oo.op = Go.Op.fieldAddr 39 (Go.Operand.tmp 43) 1 := by cases hoo; rfl
      have d18 : a.eval (.tmp 43) = .pointer (some ⟨g, o + j * 2, none⟩) := J.val 18 _ rfl (hdep ⟨18, .data⟩ (Array.mem_of_getElem? (i := 0) (by cases hoo; rfl)) (by decide))
      refine wp_of_run (v := .pointer (some ⟨g, o + j * 2 + 1, none⟩)) (w' := W) (by unfold execOp; rw [hop]; have x18 := ev_get d18; go_simp) ?_
      exact ⟨_, rfl, (fun u hu => by rw [hds]; cases hu; rfl), by rw [hds]; exact (J.m.pure hB 19 44 _ hL' (by decide) (by decide) (by decide) (by decide) hBW)⟩
    · have hds : oo.dst = some 45 := by cases hoo; rfl
      have hop : oo.op = Go.Op.load 9 (Go.Operand.tmp 44) := by cases hoo; rfl
      have d19 : a.eval (.tmp 44) = .pointer (some ⟨g, o + j * 2 + 1, none⟩) := J.val 19 _ rfl (hdep ⟨19, .data⟩ (Array.mem_of_getElem? (i := 0) (by cases hoo; rfl)) (by decide))
      refine wp_of_run (v := .string bz) (w' := W) (by unfold execOp; rw [hop]; have x19 := ev_get d19; go_simp) ?_
      exact ⟨_, rfl, (fun u hu => by rw [hds]; cases hu; rfl), by rw [hds]; exact (J.m.pure hB 20 45 _ hL' (by decide) (by decide) (by decide) (by decide) hBW)⟩
    · have hds : oo.dst = some 46 := by cases hoo; rfl
      have hop : oo.op = Go.Op.binOp Go.BinOp.add 9 (Go.Operand.tmp 40) (Go.Operand.tmp 45) 9 := by cases hoo; rfl
      have d15 : a.eval (.tmp 40) = .string s3 := J.val 15 _ rfl (hdep ⟨15, .data⟩ (Array.mem_of_getElem? (i := 0) (by cases hoo; rfl)) (by decide))
      have d20 : a.eval (.tmp 45) = .string bz := J.val 20 _ rfl (hdep ⟨20, .data⟩ (Array.mem_of_getElem? (i := 1) (by cases hoo; rfl)) (by decide))
      refine wp_of_run (run_concat _ _ hop _ _ _ d15 d20 e4 z3 zz) ?_
      exact ⟨_, rfl, (fun u hu => by rw [hds]; cases hu; rfl), by rw [hds]; exact (J.m.pure hB 21 46 _ hL' (by decide) (by decide) (by decide) (by decide) hBW)⟩
    · have hds : oo.dst = some 47 := by cases hoo; rfl
      have hop : oo.op = Go.Op.binOp Go.BinOp.add 9 (Go.Operand.tmp 46) (Go.Operand.const (Go.Value.string { data := #[10] })) 9 := by cases hoo; rfl
      have d21 : a.eval (.tmp 46) = .string s4 := J.val 21 _ rfl (hdep ⟨21, .data⟩ (Array.mem_of_getElem? (i := 0) (by cases hoo; rfl)) (by decide))
      refine wp_of_run (run_concat _ _ hop _ _ _ d21 rfl e5 z4 (by decide)) ?_
      exact ⟨_, rfl, (fun u hu => by rw [hds]; cases hu; rfl), by rw [hds]; exact (J.m.pure hB 22 47 _ hL' (by decide) (by decide) (by decide) (by decide) hBW)⟩
    · have hds : oo.dst = some 48 := by cases hoo; rfl
      have hop : oo.op = Go.Op.call { callee := Go.Callee.builtin Go.Builtin.append, args := #[Go.Operand.tmp 25, Go.Operand.tmp 47], argTypes := #[26, 9] } := by cases hoo; rfl
      have d0 : a.eval (.tmp 25) = b := J.val 0 _ rfl (hdep ⟨0, .data⟩ (Array.mem_of_getElem? (i := 0) (by cases hoo; rfl)) (by decide))
      have d22 : a.eval (.tmp 47) = .string s5 := J.val 22 _ rfl (hdep ⟨22, .data⟩ (Array.mem_of_getElem? (i := 1) (by cases hoo; rfl)) (by decide))
      have hown := J.m.g hLi
      obtain ⟨v', w', hr, h2, h3, _⟩ := Lib.run_append_own_string (P := Tryd.prog) W B 26 9 oo.type 5 i0 Tryd.underlying26 Tryd.underlying9 hi0 hz0 hz1 hz2 b T.length (bl T) hown s5 (by unfold maxLen; omega) (by omega) (Nat.le_trans hB J.m.below.size)
      refine wp_of_run (v := v') (w' := w') (by unfold execOp; simp only [hop, resolve, invoke, builtin, Sem.run_bind, Sem.run_pure, Result.andThen_ok, List.map_toArray, List.map_cons, List.map_nil, d0, d22, hr]) ?_
      have e48 : (a.put (some 48) v').eval (.tmp 48) = v' := eval_put_same (by rw [hsz.out]; decide)
      have e4 : (a.put (some 48) v').eval (.tmp 4) = a.eval (.tmp 4) := eval_put_other (by decide)
      have l24 : L' 24 = L 24 := by rw [hL' 24, if_neg (by decide)]
      exact ⟨_, rfl, (fun u hu => by cases hu), by rw [hds]; exact ⟨J.m.below.grown h3 (Nat.le_trans hB J.m.below.size) (fun j hj => (hown.lt j hj).1), fun _ => by rw [e48]; exact h2, (fun h => by rw [hL' 23, if_pos rfl] at h; cases h), (fun h => by rw [l24] at h; have h9 := (J.m.d4 h).2; rw [hLi] at h9; cases h9), (fun h => by rw [e4]; exact J.m.g4 (l24 ▸ h)), (fun h => ⟨hm _ (J.m.d4 (l24 ▸ h)).1, hm _ (J.m.d4 (l24 ▸ h)).2⟩)⟩⟩
    · have hds : oo.dst = some 4 := by cases hoo; rfl
      have hop : oo.op = Go.Op.assign (Go.Operand.tmp 48) := by cases hoo; rfl
      refine wp_of_run (run_assign _ hop _ rfl) ?_
      have e48 : ∀ v, (a.put (some 4) v).eval (.tmp 48) = a.eval (.tmp 48) := fun v => eval_put_other (by decide)
      have e4 : ∀ v, (a.put (some 4) v).eval (.tmp 4) = v := fun v => eval_put_same (by rw [hsz.out]; decide)
      have l23 : L 23 = true := (hdep ⟨23, .data⟩ (Array.mem_of_getElem? (i := 0) (by cases hoo; rfl)) (by decide))
      have l0 : L 0 = true := (hdep ⟨0, .phase⟩ (Array.mem_of_getElem? (i := 2) (by cases hoo; rfl)) (by decide))
      exact ⟨_, rfl, (fun u hu => by cases hu), by rw [hds]; exact ⟨J.m.below, fun _ => by rw [e48]; exact J.m.f l23, (fun h => by rw [hm _ l23] at h; cases h), fun _ => by rw [e4, e48], (fun h => by rw [hL' 24, if_pos rfl] at h; cases h), fun _ => ⟨hm _ l0, hm _ l23⟩⟩⟩
  · have ha : ∀ j, j < 25 → L j = true := hall
    rw [J.like.puts [(25, b), (26, .slice (some ⟨g, o, none⟩) n cap), (27, .int .i64 (j : Int)), (28, .pointer (some ⟨g, o + j * 2, none⟩)), (29, .agg #[.string bk, .string bz]), (30, .int .i64 (q : Int)), (31, .int .u64 (q : Int)), (32, .string bd), (33, .string s1), (34, .slice (some ⟨g, o, none⟩) n cap), (35, .int .i64 (j : Int)), (36, .pointer (some ⟨g, o + j * 2, none⟩)), (37, .pointer (some ⟨g, o + j * 2, none⟩)), (38, .string bk), (39, .string s2), (40, .string s3), (41, .slice (some ⟨g, o, none⟩) n cap), (42, .int .i64 (j : Int)), (43, .pointer (some ⟨g, o + j * 2, none⟩)), (44, .pointer (some ⟨g, o + j * 2 + 1, none⟩)), (45, .string bz), (46, .string s4), (47, .string s5), (48, a'.eval (.tmp 48)), (4, a'.eval (.tmp 48))] (by
      intro z hz
      simp only [List.mem_cons, List.not_mem_nil, or_false] at hz
      rcases hz with rfl | rfl | rfl | rfl | rfl | rfl | rfl | rfl | rfl | rfl | rfl | rfl | rfl | rfl | rfl | rfl | rfl | rfl | rfl | rfl | rfl | rfl | rfl | rfl | rfl
      · exact J.val 0 _ rfl (ha 0 (by decide))
      · exact J.val 1 _ rfl (ha 1 (by decide))
      · exact J.val 2 _ rfl (ha 2 (by decide))
      · exact J.val 3 _ rfl (ha 3 (by decide))
      · exact J.val 4 _ rfl (ha 4 (by decide))
      · exact J.val 5 _ rfl (ha 5 (by decide))
      · exact J.val 6 _ rfl (ha 6 (by decide))
      · exact J.val 7 _ rfl (ha 7 (by decide))
      · exact J.val 8 _ rfl (ha 8 (by decide))
      · exact J.val 9 _ rfl (ha 9 (by decide))
      · exact J.val 10 _ rfl (ha 10 (by decide))
      · exact J.val 11 _ rfl (ha 11 (by decide))
      · exact J.val 12 _ rfl (ha 12 (by decide))
      · exact J.val 13 _ rfl (ha 13 (by decide))
      · exact J.val 14 _ rfl (ha 14 (by decide))
      · exact J.val 15 _ rfl (ha 15 (by decide))
      · exact J.val 16 _ rfl (ha 16 (by decide))
      · exact J.val 17 _ rfl (ha 17 (by decide))
      · exact J.val 18 _ rfl (ha 18 (by decide))
      · exact J.val 19 _ rfl (ha 19 (by decide))
      · exact J.val 20 _ rfl (ha 20 (by decide))
      · exact J.val 21 _ rfl (ha 21 (by decide))
      · exact J.val 22 _ rfl (ha 22 (by decide))
      · rfl
      · exact J.m.f4 (ha 24 (by decide))) (by kernel_rfl)]
    exact hQ _ W (J.m.f (ha 23 (by decide))) J.m.below
end Go.Proofs.YtjgphicmkmdeiaaDoor
