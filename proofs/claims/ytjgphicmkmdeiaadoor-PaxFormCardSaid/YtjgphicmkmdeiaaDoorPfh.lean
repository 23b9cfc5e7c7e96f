/-
  The statement that holds both sizes against one another, whatever its order.
-/
import Derived.Test.YtjgphicmkmdeiaaDoorPfg
import Derived.Test.YtjgphicmkmdeiaaDoorPfd
namespace Go.Proofs.YtjgphicmkmdeiaaDoor
open Go.RowKit Go.Maps Inv

def opsQ : Array Oper := #[{ dst := some 49, op := Go.Op.move (Go.Operand.tmp 5), type := 22, pos := "law.go:51", after := #[], guard := none },
  { dst := some 50, op := Go.Op.move (Go.Operand.tmp 15), type := 3, pos := "law.go:51", after := #[], guard := none },
  { dst := some 51, op := Go.Op.indexAddr 22 (Go.Operand.tmp 49) (Go.Operand.tmp 50), type := 0, pos := "law.go:51", after := #[{ on := 0, ground := Go.Ground.data }, { on := 1, ground := Go.Ground.data }], guard := none },
  { dst := some 52, op := Go.Op.load 37 (Go.Operand.tmp 51), type := 37, pos := "law.go:51", after := #[{ on := 2, ground := Go.Ground.data }], guard := none },
  { dst := some 53, op := Go.Op.call { callee := Go.Callee.value (Go.Operand.func 15), args := #[Go.Operand.tmp 52], argTypes := #[37] }, type := 3, pos := "law.go:51", after := #[{ on := 3, ground := Go.Ground.data }], guard := none },
  { dst := some 54, op := Go.Op.move (Go.Operand.tmp 6), type := 23, pos := "law.go:51", after := #[], guard := none },
  { dst := some 55, op := Go.Op.move (Go.Operand.tmp 15), type := 3, pos := "law.go:51", after := #[], guard := none },
  { dst := some 56, op := Go.Op.indexAddr 23 (Go.Operand.tmp 54) (Go.Operand.tmp 55), type := 0, pos := "law.go:51", after := #[{ on := 5, ground := Go.Ground.data }, { on := 6, ground := Go.Ground.data }], guard := none },
  { dst := some 57, op := Go.Op.load 39 (Go.Operand.tmp 56), type := 39, pos := "law.go:51", after := #[{ on := 7, ground := Go.Ground.data }], guard := none },
  { dst := some 58, op := Go.Op.call { callee := Go.Callee.value (Go.Operand.func 16), args := #[Go.Operand.tmp 57], argTypes := #[39] }, type := 3, pos := "law.go:51", after := #[{ on := 8, ground := Go.Ground.data }, { on := 4, ground := Go.Ground.chain }], guard := none },
  { dst := some 59, op := Go.Op.binOp Go.BinOp.neq 3 (Go.Operand.tmp 53) (Go.Operand.tmp 58) 3, type := 4, pos := "law.go:51", after := #[{ on := 4, ground := Go.Ground.data }, { on := 9, ground := Go.Ground.data }], guard := none }]
theorem opsQ_size : opsQ.size = 11 := rfl
def opsQ_val (g o h p n c1 c2 j q : Nat) (bk bz : ByteArray) : Nat → Option Value
  | 0 => some (.slice (some ⟨g, o, none⟩) n c1)
  | 1 => some (.int .i64 (j : Int))
  | 2 => some (.pointer (some ⟨g, o + j * 2, none⟩))
  | 3 => some (.agg #[.string bk, .string bz])
  | 4 => some (.int .i64 (q : Int))
  | 5 => some (.slice (some ⟨h, p, none⟩) n c2)
  | 6 => some (.int .i64 (j : Int))
  | 7 => some (.pointer (some ⟨h, p + j * 2, none⟩))
  | 8 => some (.agg #[.string bk, .string bz])
  | 9 => some (.int .i64 (q : Int))
  | 10 => some (.bool false)
  | _ => none
set_option maxRecDepth 100000 in
set_option maxHeartbeats 4000000 in
theorem puts_region (a0 : Act) (hn : a0.tmps.size = 83) (w : World) (B : Nat) (hB : B ≤ w.heap.size) (g o h p n c1 c2 j q : Nat) (bk bz : ByteArray) (hj : (j : Int) < (n : Int))
    (ha : ∀ W, Below B w W → W.cell? ⟨g, o + j * 2, none⟩ = some (.string bk) ∧ W.cell? ⟨g, o + j * 2 + 1, none⟩ = some (.string bz)) (hb : ∀ W, Below B w W → W.cell? ⟨h, p + j * 2, none⟩ = some (.string bk) ∧ W.cell? ⟨h, p + j * 2 + 1, none⟩ = some (.string bz))
    (hS : ∀ W, Below B w W → Calls Tryd.prog 15 #[.agg #[.string bk, .string bz]] W fun e w' => e = .returned (.int .i64 (q : Int)) ∧ Below W.heap.size W w')
    (hR : ∀ W, Calls Tryd.prog 16 #[.agg #[.string bk, .string bz]] W fun e w' => e = .returned (.int .i64 (q : Int)) ∧ Below W.heap.size W w')
    (h5 : a0.eval (.tmp 5) = .slice (some ⟨g, o, none⟩) n c1)
    (h6 : a0.eval (.tmp 6) = .slice (some ⟨h, p, none⟩) n c2)
    (h15 : a0.eval (.tmp 15) = .int .i64 (j : Int))
    (Q : Exit → Act → World → Prop) (hQ : ∀ W, Below B w W → Q .normal (putAll a0 [(49, .slice (some ⟨g, o, none⟩) n c1), (50, .int .i64 (j : Int)), (51, .pointer (some ⟨g, o + j * 2, none⟩)), (52, .agg #[.string bk, .string bz]), (53, .int .i64 (q : Int)), (54, .slice (some ⟨h, p, none⟩) n c2), (55, .int .i64 (j : Int)), (56, .pointer (some ⟨h, p + j * 2, none⟩)), (57, .agg #[.string bk, .string bz]), (58, .int .i64 (q : Int)), (59, .bool false)]) W) : (Code.region 9 opsQ true).wp Tryd.prog Q a0 w := by
  refine wp_region_K (by kernel_rfl) (by rw [hn]; kernel_rfl) (fun i o ho => ?_) (opsQ_val g o h p n c1 c2 j q bk bz) (fun _ _ W => Below B w W) (fun L hL => ⟨rfl, rfl, rfl, Nat.le_refl _, fun _ _ => rfl⟩) (fun L L' a W i oo hoo hLi hdep J hL' => ?_) (fun L a' W hall J => ?_)
  · have hi := (Array.getElem?_eq_some_iff.1 ho).1
    rw [opsQ_size] at hi
    rcases (by omega : i = 0 ∨ i = 1 ∨ i = 2 ∨ i = 3 ∨ i = 4 ∨ i = 5 ∨ i = 6 ∨ i = 7 ∨ i = 8 ∨ i = 9 ∨ i = 10) with rfl | rfl | rfl | rfl | rfl | rfl | rfl | rfl | rfl | rfl | rfl <;> (cases ho; rfl)
  · have hi := (Array.getElem?_eq_some_iff.1 hoo).1
    rw [opsQ_size] at hi
    have hW : Below B w W := J.m
    have hBW : B ≤ W.heap.size := Nat.le_trans hB hW.size
    have k5 : a.eval (.tmp 5) = .slice (some ⟨g, o, none⟩) n c1 := (J.like.rest 5 (by kernel_rfl)).trans h5
    have k6 : a.eval (.tmp 6) = .slice (some ⟨h, p, none⟩) n c2 := (J.like.rest 6 (by kernel_rfl)).trans h6
    have k15 : a.eval (.tmp 15) = .int .i64 (j : Int) := (J.like.rest 15 (by kernel_rfl)).trans h15
    have y0 := (ha W hW).1
    have y1 := (ha W hW).2
    have y2 := (hb W hW).1
    have y3 := (hb W hW).2
    rcases (by omega : i = 0 ∨ i = 1 ∨ i = 2 ∨ i = 3 ∨ i = 4 ∨ i = 5 ∨ i = 6 ∨ i = 7 ∨ i = 8 ∨ i = 9 ∨ i = 10) with rfl | rfl | rfl | rfl | rfl | rfl | rfl | rfl | rfl | rfl | rfl
    · have hds : oo.dst = some 49 := by cases hoo; rfl
      have hop : oo.op = Go.Op.move (Go.Operand.tmp 5) := by cases hoo; rfl
      refine wp_of_run (run_move _ hop _ k5) ?_
      exact ⟨_, rfl, (fun u hu => by rw [hds]; cases hu; rfl), hW⟩
    · have hds : oo.dst = some 50 := by cases hoo; rfl
      have hop : oo.op = Go.Op.move (Go.Operand.tmp 15) := by cases hoo; rfl
      refine wp_of_run (run_move _ hop _ k15) ?_
      exact ⟨_, rfl, (fun u hu => by rw [hds]; cases hu; rfl), hW⟩
    · have hds : oo.dst = some 51 := by cases hoo; rfl
      have hop : oo.op = Go.Op.indexAddr 22 (Go.Operand.tmp 49) (Go.Operand.tmp 50) := by cases hoo; rfl
      have d0 : a.eval (.tmp 49) = .slice (some ⟨g, o, none⟩) n c1 := J.val 0 _ rfl (hdep ⟨0, .data⟩ (Array.mem_of_getElem? (i := 0) (by cases hoo; rfl)) (by decide))
      have d1 : a.eval (.tmp 50) = .int .i64 (j : Int) := J.val 1 _ rfl (hdep ⟨1, .data⟩ (Array.mem_of_getElem? (i := 1) (by cases hoo; rfl)) (by decide))
      refine wp_of_run (v := .pointer (some ⟨g, o + j * 2, none⟩)) (w' := W) (by unfold execOp; rw [hop]; have x0 := ev_get d0; have x1 := ev_get d1; go_simp) ?_
      exact ⟨_, rfl, (fun u hu => by rw [hds]; cases hu; rfl), hW⟩
    · have hds : oo.dst = some 52 := by cases hoo; rfl
      have hop : oo.op = Go.Op.load 37 (Go.Operand.tmp 51) := by cases hoo; rfl
      have d2 : a.eval (.tmp 51) = .pointer (some ⟨g, o + j * 2, none⟩) := J.val 2 _ rfl (hdep ⟨2, .data⟩ (Array.mem_of_getElem? (i := 0) (by cases hoo; rfl)) (by decide))
      refine wp_of_run (v := .agg #[.string bk, .string bz]) (w' := W) (by unfold execOp; rw [hop]; have x2 := ev_get d2; go_simp) ?_
      exact ⟨_, rfl, (fun u hu => by rw [hds]; cases hu; rfl), hW⟩
    · have hds : oo.dst = some 53 := by cases hoo; rfl
      have hop : oo.op = Go.Op.call { callee := Go.Callee.value (Go.Operand.func 15), args := #[Go.Operand.tmp 52], argTypes := #[37] } := by cases hoo; rfl
      have d3 : a.eval (.tmp 52) = .agg #[.string bk, .string bz] := J.val 3 _ rfl (hdep ⟨3, .data⟩ (Array.mem_of_getElem? (i := 0) (by cases hoo; rfl)) (by decide))
      refine wp_of_callK (v := .int .i64 (q : Int)) (by unfold execOp; rw [hop]; have x3 := ev_get d3; go_simp) (hS W hW) (fun w1 hw1 => ?_)
      exact ⟨_, rfl, (fun u hu => by rw [hds]; cases hu; rfl), hW.trans (hw1.mono hBW)⟩
    · have hds : oo.dst = some 54 := by cases hoo; rfl
      have hop : oo.op = Go.Op.move (Go.Operand.tmp 6) := by cases hoo; rfl
      refine wp_of_run (run_move _ hop _ k6) ?_
      exact ⟨_, rfl, (fun u hu => by rw [hds]; cases hu; rfl), hW⟩
    · have hds : oo.dst = some 55 := by cases hoo; rfl
      have hop : oo.op = Go.Op.move (Go.Operand.tmp 15) := by cases hoo; rfl
      refine wp_of_run (run_move _ hop _ k15) ?_
      exact ⟨_, rfl, (fun u hu => by rw [hds]; cases hu; rfl), hW⟩
    · have hds : oo.dst = some 56 := by cases hoo; rfl
      have hop : oo.op = Go.Op.indexAddr 23 (Go.Operand.tmp 54) (Go.Operand.tmp 55) := by cases hoo; rfl
      have d5 : a.eval (.tmp 54) = .slice (some ⟨h, p, none⟩) n c2 := J.val 5 _ rfl (hdep ⟨5, .data⟩ (Array.mem_of_getElem? (i := 0) (by cases hoo; rfl)) (by decide))
      have d6 : a.eval (.tmp 55) = .int .i64 (j : Int) := J.val 6 _ rfl (hdep ⟨6, .data⟩ (Array.mem_of_getElem? (i := 1) (by cases hoo; rfl)) (by decide))
      refine wp_of_run (v := .pointer (some ⟨h, p + j * 2, none⟩)) (w' := W) (by unfold execOp; rw [hop]; have x5 := ev_get d5; have x6 := ev_get d6; go_simp) ?_
      exact ⟨_, rfl, (fun u hu => by rw [hds]; cases hu; rfl), hW⟩
    · have hds : oo.dst = some 57 := by cases hoo; rfl
      have hop : oo.op = Go.Op.load 39 (Go.Operand.tmp 56) := by cases hoo; rfl
      have d7 : a.eval (.tmp 56) = .pointer (some ⟨h, p + j * 2, none⟩) := J.val 7 _ rfl (hdep ⟨7, .data⟩ (Array.mem_of_getElem? (i := 0) (by cases hoo; rfl)) (by decide))
      refine wp_of_run (v := .agg #[.string bk, .string bz]) (w' := W) (by unfold execOp; rw [hop]; have x7 := ev_get d7; go_simp) ?_
      exact ⟨_, rfl, (fun u hu => by rw [hds]; cases hu; rfl), hW⟩
    · have hds : oo.dst = some 58 := by cases hoo; rfl
      have hop : oo.op = Go.Op.call { callee := Go.Callee.value (Go.Operand.func 16), args := #[Go.Operand.tmp 57], argTypes := #[39] } := by cases hoo; rfl
      have d8 : a.eval (.tmp 57) = .agg #[.string bk, .string bz] := J.val 8 _ rfl (hdep ⟨8, .data⟩ (Array.mem_of_getElem? (i := 0) (by cases hoo; rfl)) (by decide))
      refine wp_of_callK (v := .int .i64 (q : Int)) (by unfold execOp; rw [hop]; have x8 := ev_get d8; go_simp) (hR W) (fun w1 hw1 => ?_)
      exact ⟨_, rfl, (fun u hu => by rw [hds]; cases hu; rfl), hW.trans (hw1.mono hBW)⟩
    · have hds : oo.dst = some 59 := by cases hoo; rfl
      have hop : oo.op = Go.Op.binOp Go.BinOp.neq 3 (Go.Operand.tmp 53) (Go.Operand.tmp 58) 3 := by cases hoo; rfl
      have d4 : a.eval (.tmp 53) = .int .i64 (q : Int) := J.val 4 _ rfl (hdep ⟨4, .data⟩ (Array.mem_of_getElem? (i := 0) (by cases hoo; rfl)) (by decide))
      have d9 : a.eval (.tmp 58) = .int .i64 (q : Int) := J.val 9 _ rfl (hdep ⟨9, .data⟩ (Array.mem_of_getElem? (i := 1) (by cases hoo; rfl)) (by decide))
      refine wp_of_run (v := .bool false) (w' := W) (by unfold execOp; rw [hop]; have x4 := ev_get d4; have x9 := ev_get d9; go_simp) ?_
      exact ⟨_, rfl, (fun u hu => by rw [hds]; cases hu; rfl), hW⟩
  · have ha : ∀ j, j < 11 → L j = true := hall
    rw [J.like.puts [(49, .slice (some ⟨g, o, none⟩) n c1), (50, .int .i64 (j : Int)), (51, .pointer (some ⟨g, o + j * 2, none⟩)), (52, .agg #[.string bk, .string bz]), (53, .int .i64 (q : Int)), (54, .slice (some ⟨h, p, none⟩) n c2), (55, .int .i64 (j : Int)), (56, .pointer (some ⟨h, p + j * 2, none⟩)), (57, .agg #[.string bk, .string bz]), (58, .int .i64 (q : Int)), (59, .bool false)] (by
      intro z hz
      simp only [List.mem_cons, List.not_mem_nil, or_false] at hz
      rcases hz with rfl | rfl | rfl | rfl | rfl | rfl | rfl | rfl | rfl | rfl | rfl
      · exact J.val 0 _ rfl (ha 0 (by decide))
      · exact J.val 1 _ rfl (ha 1 (by decide))
      · exact J.val 2 _ rfl (ha 2 (by decide))
      · exact J.val 3 _ rfl (ha 3 (by decide))
      · exact J.val 4 _ rfl (ha 4 (by decide))
      · exact J.val 5 _ rfl (ha 5 (by decide))
      · exact J.val 6 _ rfl (ha 6 (by decide))
      · exact J.val 7 _ rfl (ha 7 (by decide))
      · exact J.val 8 _ rfl (ha 8 (by decide))
      · exact J.val 9 _ rfl (ha 9 (by decide))
      · exact J.val 10 _ rfl (ha 10 (by decide))) (by kernel_rfl)]
    exact hQ W J.m
end Go.Proofs.YtjgphicmkmdeiaaDoor
