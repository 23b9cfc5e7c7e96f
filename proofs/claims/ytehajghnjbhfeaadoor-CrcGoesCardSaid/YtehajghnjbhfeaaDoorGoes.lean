/-
  The law CrcGoes walked.
-/
import Derived.Test.YtehajghnjbhfeaaDoorRows2
import Derived.Test.YtehajghnjbhfeaaDoorPuts
import Derived.IntWalk
import Derived.Deep.RegionHeld3
namespace Go.Proofs.YtehajghnjbhfeaaDoor
open Go.RowKit Crc Inv

/-- Parts that came in. -/
def PsAt (w : World) (v : Value) (ps : List (Bool × Value × List UInt8)) : Prop :=
  (∃ g o cap, v = .slice (some ⟨g, o, none⟩) ps.length cap ∧ ∀ i x, ps[i]? = some x → w.cell? ⟨g, o + i * 2, none⟩ = some (.bool x.1) ∧ w.cell? ⟨g, o + i * 2 + 1, none⟩ = some x.2.1 ∧ SlW w x.2.1 x.2.2) ∨ (v = .slice none 0 0 ∧ ps = [])
theorem PsAt.below {w w' : World} {v : Value} {ps : List (Bool × Value × List UInt8)} (h : PsAt w v ps) (hb : Below w.heap.size w w') : PsAt w' v ps := by
  rcases h with ⟨g, o, cap, h1, h2⟩ | h
  · refine .inl ⟨g, o, cap, h1, fun i x hx => ⟨?_, ?_, (h2 i x hx).2.2.below hb (Nat.le_refl _)⟩⟩
    · rw [hb.cell (p := ⟨g, o + i * 2, none⟩) (block_lt_of_cell (h2 i x hx).1)]; exact (h2 i x hx).1
    · rw [hb.cell (p := ⟨g, o + i * 2 + 1, none⟩) (block_lt_of_cell (h2 i x hx).2.1)]; exact (h2 i x hx).2.1
  · exact .inr h
theorem PsAt.shape {w : World} {v : Value} {ps : List (Bool × Value × List UInt8)} (h : PsAt w v ps) : ∃ p cap, v = .slice p ps.length cap := by
  rcases h with ⟨g, o, cap, h, _⟩ | ⟨h, rfl⟩
  · exact ⟨_, _, h⟩
  · exact ⟨_, _, h⟩
structure GoesIn (w : World) (k : Nat) (S : W) (M : Nat) (v6 : Value) (AL : List (Value × List UInt8)) (wr : World) : Prop where
  run : RunAt w.heap.size 25 wr S M
  own : OwnS (w.heap.size + 1) wr v6 AL
  sum : S = crcL (cat AL)
  many : M = (cat AL).length
  manyLe : M ≤ 300 * k
  len : AL.length ≤ k
  below : Below w.heap.size w wr
theorem GoesIn.zero {w : World} {k : Nat} {S : W} {M : Nat} {v6 : Value} {AL : List (Value × List UInt8)} {wr w' : World} (h : GoesIn w k S M v6 AL wr) (ho : Only w.heap.size wr w') (hr : RunAt w.heap.size 25 w' 0#32 0) : GoesIn w k 0#32 0 (.slice none 0 0) [] w' :=
  ⟨hr, OwnS.nil _ _, by rw [show cat [] = [] from rfl, ex0], rfl, by omega, by simp, h.below.trans (Below.of_only ho (Nat.le_refl _) h.below.size)⟩
theorem GoesIn.later {w : World} {k : Nat} {S : W} {M : Nat} {v6 : Value} {AL : List (Value × List UInt8)} {wr w' : World} (h : GoesIn w k S M v6 AL wr) (hb : Below wr.heap.size wr w') : GoesIn w k S M v6 AL w' :=
  ⟨(hb.block _ h.run.lt).trans h.run, h.own.below hb, h.sum, h.many, h.manyLe, h.len, h.below.trans (hb.mono h.below.size)⟩
theorem still_run {ops : Array Oper} {o : Oper} {rest : List Oper} {a : Act} {w : World} {Q : Act → Prop} (hg : o.guard = none) (v : Value) (hr : (execOp a.eval o).run Tryd.prog w = .ok (.value v) w) (h : wpStill Tryd.prog ops w Q rest (a.put o.dst v)) : wpStill Tryd.prog ops w Q (o :: rest) a := by
  refine wpStill_step fun K hK => ?_
  have hw : Region.wanted o (yielded ops a.tmps) = true := by simp [Region.wanted, hg]
  rw [if_pos hw]
  unfold Oper.still
  rw [hr]
  exact ⟨rfl, hK _ h⟩
theorem run_slice27f {o : Oper} {a : Act} {w : World} (x y : Operand) (ho : o.op = .slice 27 x (some y) none none) (v u : Value) (k : Nat) (hx : a.eval x = v) (hy : a.eval y = .int .i64 (k : Int)) (h : (Instr.sliceAt 27 v (some (.int .i64 (k : Int))) none none).run Tryd.prog w = .ok u w) : (execOp a.eval o).run Tryd.prog w = .ok (.value u) w := by
  unfold execOp; rw [ho]; simp only [hx, hy, Option.map_some, Option.map_none, Sem.run_bind, h]; rfl
theorem OwnB.shapeN {base : Nat} {w : World} {v : Value} {l : List UInt8} (h : OwnB base w v l) {n : Nat} (hn : l.length = n) : ∃ p cap, v = .slice p n cap := by
  subst hn; exact h.toW.shape
/-- Behind Add: what is there. -/
structure GoesAdd (w : World) (k : Nat) (S : W) (M : Nat) (v6 : Value) (AL : List (Value × List UInt8)) (v9 : Value) (B : List UInt8) (w5 : World) : Prop where
  run : RunAt w.heap.size 25 w5 (on S B) (M + B.length)
  own : OwnS (w.heap.size + 1) w5 v6 AL
  nine : OwnB (w.heap.size + 1) w5 v9 B
  below : Below w.heap.size w w5
theorem GoesIn.added {w : World} {k : Nat} {S : W} {M : Nat} {v6 v9 : Value} {AL : List (Value × List UInt8)} {B : List UInt8} {w3 w5 : World} {o : Obj} (h : GoesIn w k S M v6 AL w3) (h9 : OwnB (w.heap.size + 1) w3 v9 B) {n : Nat} (hn : n = B.length)
    (ho : Only w.heap.size (w3.alloc o) w5) (hr : RunAt w.heap.size 25 w5 (on S B) (M + n)) : GoesAdd w k S M v6 AL v9 B w5 := by
  subst hn
  have hR := h.run.alloc o
  exact ⟨hr, (h.own.alloc o).only ho hR (by decide) (by decide), (h9.alloc o).only ho ((h9.alloc o).apart hR (by decide)), (h.below.alloc h.below.size o).trans (Below.of_only ho (Nat.le_refl _) (by have := h.below.size; simp; omega))⟩
theorem SlB.take {G : Nat} {w : World} {p : Option Addr} {n cap : Nat} {bs : List UInt8} (h : SlB G w (.slice p n cap) bs) (k : Nat) (hk : k ≤ n) : SlB G w (.slice p k cap) (bs.take k) := by
  rcases h with ⟨g, o, cap, h, h2, h3, hB⟩ | ⟨p', h, rfl⟩
  · cases h
    exact .inl ⟨g, o, cap, by rw [List.length_take]; congr 1; omega, by simp; omega, fun h0 => h3 (by simp at h0; omega), hB.take k⟩
  · cases h
    obtain rfl : k = 0 := by omega
    exact .inr ⟨p, rfl, by simp⟩
theorem SlB.from {G : Nat} {w : World} {p : Option Addr} {n cap : Nat} {bs : List UInt8} (h : SlB G w (.slice p n cap) bs) (k : Nat) (hk : k ≤ n) :
    ∃ v', (∀ w', (Instr.sliceAt 27 (.slice p n cap) (some (.int .i64 (k : Int))) none none).run Tryd.prog w' = .ok v' w') ∧ SlB G w v' (bs.drop k) := by
  rcases h with ⟨g, o, cap, h, h2, h3, hB⟩ | ⟨p', h, rfl⟩
  · cases h
    have h1 : (0 : Int) ≤ (k : Int) := by omega
    have h1' : (k : Int) ≤ (bs.length : Int) := by omega
    by_cases hc : cap = k
    · have hn : bs.length = k := by omega
      refine ⟨.slice (some ⟨g, o, none⟩) 0 0, fun w' => ?_, .inl ⟨g, o, 0, by simp [hn], by simp [hn], fun h0 => by simp [hn] at h0, fun i hi => by simp [hn] at hi⟩⟩
      rw [hn, hc]
      go_simp
    · refine ⟨.slice (some ⟨g, o + k, none⟩) (bs.length - k) (cap - k), fun w' => ?_, .inl ⟨g, o + k, cap - k, by simp, by simp; omega, fun h0 => h3 (by simp at h0; omega), hB.drop k⟩⟩
      generalize bs.length = L at *
      go_simp
  · cases h
    obtain rfl : k = 0 := by omega
    refine ⟨.slice p 0 0, fun w' => ?_, .inr ⟨p, rfl, by simp⟩⟩
    show (Instr.sliceAt 27 (.slice p 0 0) (some (.int .i64 0)) none none).run Tryd.prog w' = .ok (.slice p 0 0) w'
    cases p with
    | none => kernel_rfl
    | some a => kernel_rfl
theorem PB.two {gs : Nat} {w : World} {v u : Value} {bs cs : List UInt8} (h : SlB gs w v bs) (k : SlB gs w u cs) (hg : gs < w.heap.size) (T : Nat) : PB gs (w.alloc (.cells #[v, u] T)) (.slice (some ⟨w.heap.size, 0, none⟩) 2 2) [(v, bs), (u, cs)] :=
  .inl ⟨w.heap.size, 0, 2, rfl, fun _ => by omega, fun i x hx => by
    match i, hx with
    | 0, hx =>
      simp at hx; subst hx
      exact ⟨(cell_of_row _ _ _ _ _ _ (heap_alloc_new _ _)).trans rfl, h.only ((Only.refl _ _).alloc _)⟩
    | 1, hx =>
      simp at hx; subst hx
      exact ⟨(cell_of_row _ _ _ _ _ _ (heap_alloc_new _ _)).trans rfl, k.only ((Only.refl _ _).alloc _)⟩
    | i + 2, hx => simp at hx⟩
theorem cat_halves (v u : Value) (B : List UInt8) (k : Nat) : cat [(v, B.take k), (u, B.drop k)] = B := by
  simp [cat]
theorem cat_snoc (l : List (Value × List UInt8)) (v : Value) (B : List UInt8) : cat (l ++ [(v, B)]) = cat l ++ B := by
  simp [cat]
theorem sum_next {w : World} {k : Nat} {S : W} {M : Nat} {v6 : Value} {AL : List (Value × List UInt8)} {wr : World} (h : GoesIn w k S M v6 AL wr) (v : Value) (B : List UInt8) : crcL (cat (AL ++ [(v, B)])) = on S B := by
  rw [cat_snoc, h.sum]; exact on_append _ _ _
theorem GoesAdd.next {w : World} {k : Nat} {S : W} {M : Nat} {v6 v6' v9 : Value} {AL : List (Value × List UInt8)} {B : List UInt8} {w5 w6 : World} (h : GoesAdd w k S M v6 AL v9 B w5) (_hS : OwnS (w.heap.size + 1) w6 v6' (AL ++ [(v9, B)]))
    (hg : (w5.alloc (.cells #[v9] 27)).grownBy w6 v6.ownBlock) (hT : TAt w5) (h0 : 0 < w.heap.size) : RunAt w.heap.size 25 w6 (on S B) (M + B.length) ∧ Below w.heap.size w w6 ∧ TAt w6 := by
  have hlt := h.run.lt
  have hb : Below (w.heap.size + 1) w5 w6 := ((Below.refl _ _).alloc (by omega) _).trans (grown_below hg (by simp; omega) (fun k hk => by
    obtain ⟨_, ⟨e1, _⟩ | ⟨g, cap, cur, e1, e2, _⟩⟩ := h.own.row
    · rw [e1] at hk; cases hk
    · rw [e1] at hk
      simp [Value.ownBlock] at hk
      omega))
  exact ⟨(hb.block _ (by omega)).trans h.run, h.below.trans (hb.mono (by omega)), hT.below hb (by omega)⟩
theorem GoesIn.next {w : World} {k : Nat} {S : W} {M : Nat} {v6 v6' v9 : Value} {AL : List (Value × List UInt8)} {B : List UInt8} {wr w6 : World} (h : GoesIn w k S M v6 AL wr) {m : Nat} (hr : RunAt w.heap.size 25 w6 (on S B) (M + m)) (hS : OwnS (w.heap.size + 1) w6 v6' (AL ++ [(v9, B)]))
    (hb : Below w.heap.size w w6) (hm : B.length = m) (hm1 : m ≤ 300) : GoesIn w (k + 1) (on S B) (M + m) v6' (AL ++ [(v9, B)]) w6 :=
  ⟨hr, hS, (sum_next h v9 B).symm, by rw [cat_snoc, List.length_append, h.many, hm], by have := h.manyLe; omega, by have := h.len; simp; omega, hb⟩
def GoesRel (w : World) (n : Nat) (v4 v5 v6 v7 : Value) (wr : World) : Prop :=
  ∃ (k : Nat) (S : W) (M : Nat) (AL : List (Value × List UInt8)), k ≤ n ∧ k ≤ 30 ∧ v4 = .int .u32 (iv S) ∧ v5 = .int .i64 M ∧ v7 = .int .i64 k ∧ GoesIn w k S M v6 AL wr
set_option maxRecDepth 100000 in
set_option maxHeartbeats 2000000 in
theorem goes_walk (w : World) (p : Option Addr) (cap : Nat) (ps : List (Bool × Value × List UInt8)) (hp : PsAt w (.slice p ps.length cap) ps) (hlen : ps.length ≤ 9223372036854775807) (hT : TAt w) :
    Calls Tryd.prog 3 #[.slice p ps.length cap] w (BoolPost true w) := by
  have h0 := hT.lt
  have HP := Lib.hid hp
  clear hp
  have HG0 : Hid (GoesIn w 0 0#32 0 (.slice none 0 0) [] (w.alloc (.cells #[.int .u32 0, .int .i64 0] 25))) := Lib.hid ⟨run0 w, OwnS.nil _ _, by rw [show cat [] = [] from rfl, ex0], rfl, by omega, by simp, (Below.refl _ _).alloc (Nat.le_refl _) _⟩
  generalize hL : ps.length = L at *
  have HL := Lib.hid hL
  clear hL
  go_enter Tryd.func3, Tryd.ntmps3
  go_wp2_with fail
  go_loopw [4, 5, 6, 7, 8, 9] (fun v4 v5 v6 v7 _ _ wr => GoesRel w L v4 v5 v6 v7 wr) (fun _ _ _ v7 _ _ _ => 30 - (intOf v7).toNat)
  case atStart => exact ⟨0, 0#32, 0, [], by omega, by omega, rfl, rfl, rfl, HG0.out⟩
  case round =>
    clear HG0
    obtain ⟨k, S, M, AL, hk1, hk2, rfl, rfl, rfl, hG⟩ := hrel
    by_cases hlt : k < L ∧ k < 30
    · obtain ⟨hl1, hl2⟩ := hlt
      obtain ⟨gp, op, cap', e1, h2⟩ | ⟨e1, e2⟩ := HP.out
      rotate_left
      · have := HL.out; rw [e2] at this; simp at this; omega
      obtain ⟨rfl, e3, rfl⟩ : p = some ⟨gp, op, none⟩ ∧ L = ps.length ∧ cap = cap' := by simpa using e1
      obtain ⟨x, hx⟩ : ∃ x, ps[k]? = some x := ⟨ps[k]'(by omega), List.getElem?_eq_getElem _⟩
      obtain ⟨rst, bv, bb⟩ := x
      obtain ⟨q1, q2, q3⟩ := h2 k _ hx
      simp only at q1 q2 q3
      have c1 : wr.cell? ⟨gp, op + k * 2, none⟩ = some (.bool rst) := by rw [hG.below.cell (p := ⟨gp, op + k * 2, none⟩) (block_lt_of_cell q1)]; exact q1
      have c2 : wr.cell? ⟨gp, op + k * 2 + 1, none⟩ = some bv := by rw [hG.below.cell (p := ⟨gp, op + k * 2 + 1, none⟩) (block_lt_of_cell q2)]; exact q2
      obtain ⟨pb, cb, rfl⟩ := q3.shape
      obtain ⟨m, hm⟩ : ∃ m, m = min bb.length 300 := ⟨_, rfl⟩
      have hmi : min (bb.length : Int) 300 = (m : Int) := by omega
      have hmb : m ≤ bb.length := by omega
      have hm1 : m ≤ 300 := by omega
      have hsl := slice_to pb bb.length cb m bb q3 hmb
      have HB := Lib.hid (q3.take m hmb)
      have HLT : Hid ((bb.take m).length = m) := Lib.hid (by simp; omega)
      clear hm q1 q2 q3 hx h2 e1 e3
      generalize bb.take m = B at *
      generalize bb.length = lb at *
      have hi1 : (k : Int) < (L : Int) := by omega
      have hi2 : (k : Int) < 30 := by omega
      have HC2 : Hid (∀ y, Below wr.heap.size wr y → y.cell? ⟨gp, op + k * 2 + 1, none⟩ = some (.slice pb lb cb)) := Lib.hid (fun y hy => by rw [hy.cell (p := ⟨gp, op + k * 2 + 1, none⟩) (block_lt_of_cell c2)]; exact c2)
      have HC1 : Hid (∀ y, Below wr.heap.size wr y → y.cell? ⟨gp, op + k * 2, none⟩ = some (.bool rst)) := Lib.hid (fun y hy => by rw [hy.cell (p := ⟨gp, op + k * 2, none⟩) (block_lt_of_cell c1)]; exact c1)
      clear c1 c2
      go_wp2_with fail
      refine wp_region_inv (by kernel_rfl) (by kernel_rfl) (BaseW wr.drew) StepW (VV [.eq (.slice (some ⟨gp, op, none⟩) L cap), .eq (.int .i64 (k : Int)), .eq (.pointer (some ⟨gp, op + k * 2, none⟩)), .eq (.pointer (some ⟨gp, op + k * 2 + 1, none⟩)), .eq (.slice pb lb cb), .eq (.slice (some ⟨gp, op, none⟩) L cap), .eq (.int .i64 (k : Int)), .eq (.pointer (some ⟨gp, op + k * 2, none⟩)), .eq (.pointer (some ⟨gp, op + k * 2 + 1, none⟩)), .eq (.slice pb lb cb), .eq (.int .i64 (lb : Int)), .eq (.int .i64 (m : Int)), .eq (.slice pb m cb), .eq (.slice pb m cb)]) (VV.mono _) (Below.refl _ _) ?_ ?_
      · refine ⟨ok_move (.inl rfl) _ rfl _ rfl rfl fun x y hL _ hD => hL.rest 0 (by kernel_rfl),
          ok_move (.inl rfl) _ rfl _ rfl rfl fun x y hL _ hD => hL.rest 7 (by kernel_rfl),
          ok_run (.inl rfl) _ rfl rfl fun x y hL hB hD => run_index22 (.tmp 20) (.tmp 21) rfl gp op L cap k (hD.1 rfl) (hD.2.1 rfl) hl1,
          ok_run (.inl rfl) _ rfl rfl fun x y hL hB hD => run_field29 (.tmp 22) rfl gp (op + k * 2) (hD.1 rfl),
          ok_run (.inl rfl) _ rfl rfl fun x y hL hB hD => run_load27 (.tmp 23) rfl gp (op + k * 2 + 1) (.slice pb lb cb) (hD.1 rfl) (HC2.out y (of_drew hB)),
          ok_move (.inl rfl) _ rfl _ rfl rfl fun x y hL _ hD => hL.rest 0 (by kernel_rfl),
          ok_move (.inl rfl) _ rfl _ rfl rfl fun x y hL _ hD => hL.rest 7 (by kernel_rfl),
          ok_run (.inl rfl) _ rfl rfl fun x y hL hB hD => run_index22 (.tmp 25) (.tmp 26) rfl gp op L cap k (hD.1 rfl) (hD.2.1 rfl) hl1,
          ok_run (.inl rfl) _ rfl rfl fun x y hL hB hD => run_field29 (.tmp 27) rfl gp (op + k * 2) (hD.1 rfl),
          ok_run (.inl rfl) _ rfl rfl fun x y hL hB hD => run_load27 (.tmp 28) rfl gp (op + k * 2 + 1) (.slice pb lb cb) (hD.1 rfl) (HC2.out y (of_drew hB)),
          ok_run (.inl rfl) _ rfl rfl fun x y hL hB hD => run_len27 (.tmp 29) rfl pb lb cb (hD.1 rfl),
          ok_run (.inl rfl) _ rfl rfl fun x y hL hB hD => run_min2 (.tmp 30) (.const (.int .i64 300)) rfl (lb : Int) 300 (m : Int) (hD.1 rfl) rfl hmi,
          ok_run (.inl rfl) _ rfl rfl fun x y hL hB hD => run_slice27 (.tmp 24) (.tmp 31) rfl (.slice pb lb cb) _ m (hD.1 rfl) (hD.2.1 rfl) (hsl y),
          ok_assign (.inl rfl) _ rfl _ rfl rfl fun x y hL _ hD => hD.1 rfl, trivial⟩
      intro a' w2 hL hB2 hV
      have hb2 : Below wr.heap.size wr w2 := of_drew hB2
      obtain rfl := hL.puts [(20, (.slice (some ⟨gp, op, none⟩) L cap)), (21, (.int .i64 (k : Int))), (22, (.pointer (some ⟨gp, op + k * 2, none⟩))), (23, (.pointer (some ⟨gp, op + k * 2 + 1, none⟩))), (24, (.slice pb lb cb)), (25, (.slice (some ⟨gp, op, none⟩) L cap)), (26, (.int .i64 (k : Int))), (27, (.pointer (some ⟨gp, op + k * 2, none⟩))), (28, (.pointer (some ⟨gp, op + k * 2 + 1, none⟩))), (29, (.slice pb lb cb)), (30, (.int .i64 (lb : Int))), (31, (.int .i64 (m : Int))), (32, (.slice pb m cb)), (8, (.slice pb m cb))] (by
        simp only [List.forall_mem_cons, List.not_mem_nil, false_implies, implies_true, and_true]
        exact ⟨hV 0 (of_decide_eq_true (by kernel_rfl)), hV 1 (of_decide_eq_true (by kernel_rfl)), hV 2 (of_decide_eq_true (by kernel_rfl)), hV 3 (of_decide_eq_true (by kernel_rfl)), hV 4 (of_decide_eq_true (by kernel_rfl)), hV 5 (of_decide_eq_true (by kernel_rfl)), hV 6 (of_decide_eq_true (by kernel_rfl)), hV 7 (of_decide_eq_true (by kernel_rfl)), hV 8 (of_decide_eq_true (by kernel_rfl)), hV 9 (of_decide_eq_true (by kernel_rfl)), hV 10 (of_decide_eq_true (by kernel_rfl)), hV 11 (of_decide_eq_true (by kernel_rfl)), hV 12 (of_decide_eq_true (by kernel_rfl)), hV 13 (of_decide_eq_true (by kernel_rfl))⟩) (by kernel_rfl)
      clear hL hV hB2
      simp only [putAll, Act.put, List.setIfInBounds_toArray, List.set_cons_zero, List.set_cons_succ]
      have hG2 := hG.later hb2
      have c1 := HC1.out w2 hb2
      clear hG HC1 HC2
      cases rst with
      | false =>
        have HSB : Hid (SlW w2 (.slice pb m cb) B) := Lib.hid (HB.out.below hG2.below (Nat.le_refl _))
        have HBS : Hid (w.heap.size + 1 ≤ w2.heap.size) := Lib.hid hG2.run.lt
        have hTw := hT.below hG2.below h0
        have hM := hG2.manyLe
        have hAl := hG2.len
        by_cases hpar : k % 2 = 0
        · have hpi : (k : Int) % 2 = 0 := by omega
          clear hpar
          go_wp2_with (refine wpList_appB rfl (.const (.slice none 0 0)) (.tmp 39) rfl (w.heap.size + 1) _ _ [] B rfl rfl (OwnB.nil _ _) HSB.out HBS.out (by rw [HLT.out]; simp; omega) ?_; intro v9 w3 hown3 hg3; rw [List.nil_append] at hown3; obtain ⟨p9, cap9, rfl⟩ := hown3.shapeN HLT.out)
          have hb3 : Below w2.heap.size w2 w3 := grown_below hg3 (Nat.le_refl _) (fun k hk => by cases hk)
          have hG3 := hG2.later hb3
          have hP := PB.one (hown3.toSlB hG3.run (by decide)) hG3.run.lt 27
          refine (add_walk w.heap.size 25 (S) (M) _ _ [(.slice p9 m cap9, B)] hP (hG3.run.alloc _) ((hTw.below hb3 hTw.lt).alloc _) (by omega) (by rw [cat_one, HLT.out]; omega) (by simp)).mono ?_
          rintro e w5 ⟨rfl, ho5, hr5⟩
          rw [cat_one, HLT.out] at hr5
          have hA := hG3.added hown3 HLT.out.symm ho5 hr5
          have HA := Lib.hid hA
          have HT5 := Lib.hid (hT.below hA.below h0)
          have HSB5 : Hid (SlW w5 (.slice pb m cb) B) := Lib.hid (HB.out.below hA.below (Nat.le_refl _))
          have HBS5 : Hid (w.heap.size + 1 ≤ w5.heap.size) := Lib.hid hA.run.lt
          have HAL : Hid ((AL : List (Value × List UInt8)).length ≤ 1000000) := Lib.hid (by first | (simp; done) | omega)
          have HEQ := Lib.hid (sum_next hG2 (.slice p9 m cap9) B)
          have hMi : ((M : Nat) : Int) + (m : Int) ≤ 1000000 := by omega
          clear hA HSB HBS hTw hpi c1 hsl hmi
          go_wp2_with fail
          refine (on_walk w5 (S) _ B HSB5.out (by rw [HLT.out]; omega)).mono ?_
          rintro e w' ⟨rfl, rfl⟩
          go_wp2_with (refine wpList_appS rfl (.tmp 66) (.tmp 68) rfl (w.heap.size + 1) (u6) (.slice p9 m cap9) (AL) B rfl rfl HA.out.own HA.out.nine HBS5.out HAL.out ?_; intro v6' w6 hS6 hg6)
          obtain ⟨hr6, hbel6, hT6⟩ := HA.out.next hS6 hg6 HT5.out h0
          have HR6 := Lib.hid hr6
          rw [HLT.out] at HR6
          have HS6 := Lib.hid hS6
          have HN := Lib.hid (hG2.next HR6.out HS6.out hbel6 HLT.out hm1)
          clear hr6 hS6 hg6 HSB5 HBS5 HAL HT5 HA
          generalize hS1 : on (S) B = S1 at *
          refine (runsum_walk _ 25 S1 _ w6 HR6.out).mono ?_
          rintro e w' ⟨rfl, rfl⟩
          go_wp2_with fail
          refine (runlen_walk _ 25 S1 _ w6 HR6.out).mono ?_
          rintro e w' ⟨rfl, rfl⟩
          go_wp2_with fail
          refine (of_walk w6 v6' _ HS6.out.toP hT6 (by rw [← HN.out.many]; omega) (by have := HN.out.len; omega)).mono ?_
          rintro e w7 ⟨rfl, hb7⟩
          rw [HEQ.out]
          have HN7 := Lib.hid (HN.out.later hb7)
          have cs1 := run_toString (HN7.out.own.each (.slice p9 m cap9, B) (by simp)).toW
          have cs2 := run_toString (HB.out.below HN7.out.below (Nat.le_refl _))
          clear hb7 HR6 HS6 HN hT6
          go_wp2_with fail
          exact ⟨⟨k + 1, S1, (M) + m, _, by omega, by omega, rfl, by first | rfl | go_num | simp, by go_num, HN7.out⟩, by simp [intOf]; omega⟩
        · have hpi : (k : Int) % 2 = 1 := by omega
          clear hpar
          go_wp2_with (refine wpList_appB rfl (.const (.slice none 0 0)) (.tmp 39) rfl (w.heap.size + 1) _ _ [] B rfl rfl (OwnB.nil _ _) HSB.out HBS.out (by rw [HLT.out]; simp; omega) ?_; intro v9 w3 hown3 hg3; rw [List.nil_append] at hown3; obtain ⟨p9, cap9, rfl⟩ := hown3.shapeN HLT.out)
          have hb3 : Below w2.heap.size w2 w3 := grown_below hg3 (Nat.le_refl _) (fun k hk => by cases hk)
          have hG3 := hG2.later hb3
          have hsb := hown3.toSlB hG3.run (by decide)
          have sl1 := slice_to p9 m cap9 (m / 2) B hsb.toW (by omega)
          have hs1 := hsb.take (m / 2) (by omega)
          obtain ⟨s2, sl2, hs2⟩ := hsb.from (m / 2) (by omega)
          obtain ⟨q2, c2, rfl⟩ := hs2.shape
          rw [show (B.drop (m / 2)).length = m - m / 2 by rw [List.length_drop, HLT.out]] at sl2 hs2
          have hq1 : IntKind.i64.wrap ((m : Int) / 2) = (m : Int) / 2 := IntWalk.i64_in _ (by omega)
          have hq2 : (m : Int) / 2 = ((m / 2 : Nat) : Int) := by omega
          have HS1 := Lib.hid hs1
          have HS2 := Lib.hid hs2
          have HO3 := Lib.hid hown3
          clear hs1 hs2 hown3 hsb hg3
          refine wp_region_still_tail (l := [_, _, _, _, _, _, _, _, _, _, _, _]) 10 (by kernel_rfl) (by kernel_rfl) ?_
          simp only [List.take_succ_cons, List.take_zero, List.drop_succ_cons, List.drop_zero]
          refine still_run rfl _ (run_move (.tmp 9) rfl (.slice p9 m cap9) rfl) ?_
          simp only [Act.put, List.setIfInBounds_toArray, List.set_cons_zero, List.set_cons_succ]
          refine still_run rfl _ (run_move (.tmp 9) rfl (.slice p9 m cap9) rfl) ?_
          simp only [Act.put, List.setIfInBounds_toArray, List.set_cons_zero, List.set_cons_succ]
          refine still_run rfl _ (run_len27 (.tmp 48) rfl p9 m cap9 rfl) ?_
          simp only [Act.put, List.setIfInBounds_toArray, List.set_cons_zero, List.set_cons_succ]
          refine still_run rfl _ (run_quo2 (.tmp 49) (.const (.int .i64 2)) rfl m rfl rfl (by omega)) ?_
          simp only [Act.put, List.setIfInBounds_toArray, List.set_cons_zero, List.set_cons_succ]
          refine still_run rfl _ (run_slice27 (.tmp 47) (.tmp 50) rfl (.slice p9 m cap9) _ (m / 2) rfl rfl (sl1 _)) ?_
          simp only [Act.put, List.setIfInBounds_toArray, List.set_cons_zero, List.set_cons_succ]
          refine still_run rfl _ (run_move (.tmp 9) rfl (.slice p9 m cap9) rfl) ?_
          simp only [Act.put, List.setIfInBounds_toArray, List.set_cons_zero, List.set_cons_succ]
          refine still_run rfl _ (run_move (.tmp 9) rfl (.slice p9 m cap9) rfl) ?_
          simp only [Act.put, List.setIfInBounds_toArray, List.set_cons_zero, List.set_cons_succ]
          refine still_run rfl _ (run_len27 (.tmp 53) rfl p9 m cap9 rfl) ?_
          simp only [Act.put, List.setIfInBounds_toArray, List.set_cons_zero, List.set_cons_succ]
          refine still_run rfl _ (run_quo2 (.tmp 54) (.const (.int .i64 2)) rfl m rfl rfl (by omega)) ?_
          simp only [Act.put, List.setIfInBounds_toArray, List.set_cons_zero, List.set_cons_succ]
          refine still_run rfl _ (run_slice27f (.tmp 52) (.tmp 55) rfl (.slice p9 m cap9) _ (m / 2) rfl rfl (sl2 _)) ?_
          simp only [Act.put, List.setIfInBounds_toArray, List.set_cons_zero, List.set_cons_succ]
          refine wpStill_nil ?_
          change wpList _ _ _ _ _ w3.drew
          have hb4 : Below w3.heap.size w3 w3.drew := below_drew (Below.refl _ _)
          have hG4 := hG3.later hb4
          have HS14 := Lib.hid (HS1.out.only (Only.of_below hb4))
          have HS24 := Lib.hid (HS2.out.only (Only.of_below hb4))
          have HO4 := Lib.hid HO3.out.drew
          have hT4 := (hTw.below hb3 hTw.lt).below hb4 (hTw.below hb3 hTw.lt).lt
          clear HS1 HS2 HO3 hG3 sl1 sl2 hb3 hb4 hq1 hq2
          generalize w3.drew = w4 at *
          go_wp2_with fail
          have hP := PB.two HS14.out HS24.out hG4.run.lt 27
          refine (add_walk w.heap.size 25 (S) (M) _ _ _ hP (hG4.run.alloc _) (hT4.alloc _) (by omega) (by rw [cat_halves, HLT.out]; omega) (by simp)).mono ?_
          rintro e w5 ⟨rfl, ho5, hr5⟩
          rw [cat_halves, HLT.out] at hr5
          have hA := hG4.added HO4.out HLT.out.symm ho5 hr5
          clear HS14 HS24 HO4 hT4 hP ho5 hr5 hG4
          have HA := Lib.hid hA
          have HT5 := Lib.hid (hT.below hA.below h0)
          have HSB5 : Hid (SlW w5 (.slice pb m cb) B) := Lib.hid (HB.out.below hA.below (Nat.le_refl _))
          have HBS5 : Hid (w.heap.size + 1 ≤ w5.heap.size) := Lib.hid hA.run.lt
          have HAL : Hid ((AL : List (Value × List UInt8)).length ≤ 1000000) := Lib.hid (by first | (simp; done) | omega)
          have HEQ := Lib.hid (sum_next hG2 (.slice p9 m cap9) B)
          have hMi : ((M : Nat) : Int) + (m : Int) ≤ 1000000 := by omega
          clear hA HSB HBS hTw hpi c1 hsl hmi
          go_wp2_with fail
          refine (on_walk w5 (S) _ B HSB5.out (by rw [HLT.out]; omega)).mono ?_
          rintro e w' ⟨rfl, rfl⟩
          go_wp2_with (refine wpList_appS rfl (.tmp 66) (.tmp 68) rfl (w.heap.size + 1) (u6) (.slice p9 m cap9) (AL) B rfl rfl HA.out.own HA.out.nine HBS5.out HAL.out ?_; intro v6' w6 hS6 hg6)
          obtain ⟨hr6, hbel6, hT6⟩ := HA.out.next hS6 hg6 HT5.out h0
          have HR6 := Lib.hid hr6
          rw [HLT.out] at HR6
          have HS6 := Lib.hid hS6
          have HN := Lib.hid (hG2.next HR6.out HS6.out hbel6 HLT.out hm1)
          clear hr6 hS6 hg6 HSB5 HBS5 HAL HT5 HA
          generalize hS1 : on (S) B = S1 at *
          refine (runsum_walk _ 25 S1 _ w6 HR6.out).mono ?_
          rintro e w' ⟨rfl, rfl⟩
          go_wp2_with fail
          refine (runlen_walk _ 25 S1 _ w6 HR6.out).mono ?_
          rintro e w' ⟨rfl, rfl⟩
          go_wp2_with fail
          refine (of_walk w6 v6' _ HS6.out.toP hT6 (by rw [← HN.out.many]; omega) (by have := HN.out.len; omega)).mono ?_
          rintro e w7 ⟨rfl, hb7⟩
          rw [HEQ.out]
          have HN7 := Lib.hid (HN.out.later hb7)
          have cs1 := run_toString (HN7.out.own.each (.slice p9 m cap9, B) (by simp)).toW
          have cs2 := run_toString (HB.out.below HN7.out.below (Nat.le_refl _))
          clear hb7 HR6 HS6 HN hT6
          go_wp2_with fail
          exact ⟨⟨k + 1, S1, (M) + m, _, by omega, by omega, rfl, by first | rfl | go_num | simp, by go_num, HN7.out⟩, by simp [intOf]; omega⟩
      | true =>
        have HR2 := Lib.hid hG2.run
        go_wp2_with fail
        refine (reset_walk w.heap.size 25 S M w2 HR2.out).mono ?_
        rintro e w2b ⟨rfl, ho2, hr2⟩
        have hG2b := hG2.zero ho2 hr2
        clear HR2 ho2 hr2 hG2 c1 hb2
        have c1 : True := trivial
        have HSB : Hid (SlW w2b (.slice pb m cb) B) := Lib.hid (HB.out.below hG2b.below (Nat.le_refl _))
        have HBS : Hid (w.heap.size + 1 ≤ w2b.heap.size) := Lib.hid hG2b.run.lt
        have hTw := hT.below hG2b.below h0
        have hM := hG2b.manyLe
        have hAl := hG2b.len
        by_cases hpar : k % 2 = 0
        · have hpi : (k : Int) % 2 = 0 := by omega
          clear hpar
          go_wp2_with (refine wpList_appB rfl (.const (.slice none 0 0)) (.tmp 39) rfl (w.heap.size + 1) _ _ [] B rfl rfl (OwnB.nil _ _) HSB.out HBS.out (by rw [HLT.out]; simp; omega) ?_; intro v9 w3 hown3 hg3; rw [List.nil_append] at hown3; obtain ⟨p9, cap9, rfl⟩ := hown3.shapeN HLT.out)
          have hb3 : Below w2b.heap.size w2b w3 := grown_below hg3 (Nat.le_refl _) (fun k hk => by cases hk)
          have hG3 := hG2b.later hb3
          have hP := PB.one (hown3.toSlB hG3.run (by decide)) hG3.run.lt 27
          refine (add_walk w.heap.size 25 (0#32) (0) _ _ [(.slice p9 m cap9, B)] hP (hG3.run.alloc _) ((hTw.below hb3 hTw.lt).alloc _) (by omega) (by rw [cat_one, HLT.out]; omega) (by simp)).mono ?_
          rintro e w5 ⟨rfl, ho5, hr5⟩
          rw [cat_one, HLT.out] at hr5
          have hA := hG3.added hown3 HLT.out.symm ho5 hr5
          have HA := Lib.hid hA
          have HT5 := Lib.hid (hT.below hA.below h0)
          have HSB5 : Hid (SlW w5 (.slice pb m cb) B) := Lib.hid (HB.out.below hA.below (Nat.le_refl _))
          have HBS5 : Hid (w.heap.size + 1 ≤ w5.heap.size) := Lib.hid hA.run.lt
          have HAL : Hid (([] : List (Value × List UInt8)).length ≤ 1000000) := Lib.hid (by first | (simp; done) | omega)
          have HEQ := Lib.hid (sum_next hG2b (.slice p9 m cap9) B)
          have hMi : ((0 : Nat) : Int) + (m : Int) ≤ 1000000 := by omega
          clear hA HSB HBS hTw hpi c1 hsl hmi
          go_wp2_with fail
          refine (on_walk w5 (0#32) _ B HSB5.out (by rw [HLT.out]; omega)).mono ?_
          rintro e w' ⟨rfl, rfl⟩
          go_wp2_with (refine wpList_appS rfl (.tmp 66) (.tmp 68) rfl (w.heap.size + 1) (.slice none 0 0) (.slice p9 m cap9) ([]) B rfl rfl HA.out.own HA.out.nine HBS5.out HAL.out ?_; intro v6' w6 hS6 hg6)
          obtain ⟨hr6, hbel6, hT6⟩ := HA.out.next hS6 hg6 HT5.out h0
          have HR6 := Lib.hid hr6
          rw [HLT.out] at HR6
          have HS6 := Lib.hid hS6
          have HN := Lib.hid (hG2b.next HR6.out HS6.out hbel6 HLT.out hm1)
          clear hr6 hS6 hg6 HSB5 HBS5 HAL HT5 HA
          generalize hS1 : on (0#32) B = S1 at *
          refine (runsum_walk _ 25 S1 _ w6 HR6.out).mono ?_
          rintro e w' ⟨rfl, rfl⟩
          go_wp2_with fail
          refine (runlen_walk _ 25 S1 _ w6 HR6.out).mono ?_
          rintro e w' ⟨rfl, rfl⟩
          go_wp2_with fail
          refine (of_walk w6 v6' _ HS6.out.toP hT6 (by rw [← HN.out.many]; omega) (by have := HN.out.len; omega)).mono ?_
          rintro e w7 ⟨rfl, hb7⟩
          rw [HEQ.out]
          have HN7 := Lib.hid (HN.out.later hb7)
          have cs1 := run_toString (HN7.out.own.each (.slice p9 m cap9, B) (by simp)).toW
          have cs2 := run_toString (HB.out.below HN7.out.below (Nat.le_refl _))
          clear hb7 HR6 HS6 HN hT6
          go_wp2_with fail
          exact ⟨⟨k + 1, S1, (0) + m, _, by omega, by omega, rfl, by first | rfl | go_num | simp, by go_num, HN7.out⟩, by simp [intOf]; omega⟩
        · have hpi : (k : Int) % 2 = 1 := by omega
          clear hpar
          go_wp2_with (refine wpList_appB rfl (.const (.slice none 0 0)) (.tmp 39) rfl (w.heap.size + 1) _ _ [] B rfl rfl (OwnB.nil _ _) HSB.out HBS.out (by rw [HLT.out]; simp; omega) ?_; intro v9 w3 hown3 hg3; rw [List.nil_append] at hown3; obtain ⟨p9, cap9, rfl⟩ := hown3.shapeN HLT.out)
          have hb3 : Below w2b.heap.size w2b w3 := grown_below hg3 (Nat.le_refl _) (fun k hk => by cases hk)
          have hG3 := hG2b.later hb3
          have hsb := hown3.toSlB hG3.run (by decide)
          have sl1 := slice_to p9 m cap9 (m / 2) B hsb.toW (by omega)
          have hs1 := hsb.take (m / 2) (by omega)
          obtain ⟨s2, sl2, hs2⟩ := hsb.from (m / 2) (by omega)
          obtain ⟨q2, c2, rfl⟩ := hs2.shape
          rw [show (B.drop (m / 2)).length = m - m / 2 by rw [List.length_drop, HLT.out]] at sl2 hs2
          have hq1 : IntKind.i64.wrap ((m : Int) / 2) = (m : Int) / 2 := IntWalk.i64_in _ (by omega)
          have hq2 : (m : Int) / 2 = ((m / 2 : Nat) : Int) := by omega
          have HS1 := Lib.hid hs1
          have HS2 := Lib.hid hs2
          have HO3 := Lib.hid hown3
          clear hs1 hs2 hown3 hsb hg3
          refine wp_region_still_tail (l := [_, _, _, _, _, _, _, _, _, _, _, _]) 10 (by kernel_rfl) (by kernel_rfl) ?_
          simp only [List.take_succ_cons, List.take_zero, List.drop_succ_cons, List.drop_zero]
          refine still_run rfl _ (run_move (.tmp 9) rfl (.slice p9 m cap9) rfl) ?_
          simp only [Act.put, List.setIfInBounds_toArray, List.set_cons_zero, List.set_cons_succ]
          refine still_run rfl _ (run_move (.tmp 9) rfl (.slice p9 m cap9) rfl) ?_
          simp only [Act.put, List.setIfInBounds_toArray, List.set_cons_zero, List.set_cons_succ]
          refine still_run rfl _ (run_len27 (.tmp 48) rfl p9 m cap9 rfl) ?_
          simp only [Act.put, List.setIfInBounds_toArray, List.set_cons_zero, List.set_cons_succ]
          refine still_run rfl _ (run_quo2 (.tmp 49) (.const (.int .i64 2)) rfl m rfl rfl (by omega)) ?_
          simp only [Act.put, List.setIfInBounds_toArray, List.set_cons_zero, List.set_cons_succ]
          refine still_run rfl _ (run_slice27 (.tmp 47) (.tmp 50) rfl (.slice p9 m cap9) _ (m / 2) rfl rfl (sl1 _)) ?_
          simp only [Act.put, List.setIfInBounds_toArray, List.set_cons_zero, List.set_cons_succ]
          refine still_run rfl _ (run_move (.tmp 9) rfl (.slice p9 m cap9) rfl) ?_
          simp only [Act.put, List.setIfInBounds_toArray, List.set_cons_zero, List.set_cons_succ]
          refine still_run rfl _ (run_move (.tmp 9) rfl (.slice p9 m cap9) rfl) ?_
          simp only [Act.put, List.setIfInBounds_toArray, List.set_cons_zero, List.set_cons_succ]
          refine still_run rfl _ (run_len27 (.tmp 53) rfl p9 m cap9 rfl) ?_
          simp only [Act.put, List.setIfInBounds_toArray, List.set_cons_zero, List.set_cons_succ]
          refine still_run rfl _ (run_quo2 (.tmp 54) (.const (.int .i64 2)) rfl m rfl rfl (by omega)) ?_
          simp only [Act.put, List.setIfInBounds_toArray, List.set_cons_zero, List.set_cons_succ]
          refine still_run rfl _ (run_slice27f (.tmp 52) (.tmp 55) rfl (.slice p9 m cap9) _ (m / 2) rfl rfl (sl2 _)) ?_
          simp only [Act.put, List.setIfInBounds_toArray, List.set_cons_zero, List.set_cons_succ]
          refine wpStill_nil ?_
          change wpList _ _ _ _ _ w3.drew
          have hb4 : Below w3.heap.size w3 w3.drew := below_drew (Below.refl _ _)
          have hG4 := hG3.later hb4
          have HS14 := Lib.hid (HS1.out.only (Only.of_below hb4))
          have HS24 := Lib.hid (HS2.out.only (Only.of_below hb4))
          have HO4 := Lib.hid HO3.out.drew
          have hT4 := (hTw.below hb3 hTw.lt).below hb4 (hTw.below hb3 hTw.lt).lt
          clear HS1 HS2 HO3 hG3 sl1 sl2 hb3 hb4 hq1 hq2
          generalize w3.drew = w4 at *
          go_wp2_with fail
          have hP := PB.two HS14.out HS24.out hG4.run.lt 27
          refine (add_walk w.heap.size 25 (0#32) (0) _ _ _ hP (hG4.run.alloc _) (hT4.alloc _) (by omega) (by rw [cat_halves, HLT.out]; omega) (by simp)).mono ?_
          rintro e w5 ⟨rfl, ho5, hr5⟩
          rw [cat_halves, HLT.out] at hr5
          have hA := hG4.added HO4.out HLT.out.symm ho5 hr5
          clear HS14 HS24 HO4 hT4 hP ho5 hr5 hG4
          have HA := Lib.hid hA
          have HT5 := Lib.hid (hT.below hA.below h0)
          have HSB5 : Hid (SlW w5 (.slice pb m cb) B) := Lib.hid (HB.out.below hA.below (Nat.le_refl _))
          have HBS5 : Hid (w.heap.size + 1 ≤ w5.heap.size) := Lib.hid hA.run.lt
          have HAL : Hid (([] : List (Value × List UInt8)).length ≤ 1000000) := Lib.hid (by first | (simp; done) | omega)
          have HEQ := Lib.hid (sum_next hG2b (.slice p9 m cap9) B)
          have hMi : ((0 : Nat) : Int) + (m : Int) ≤ 1000000 := by omega
          clear hA HSB HBS hTw hpi c1 hsl hmi
          go_wp2_with fail
          refine (on_walk w5 (0#32) _ B HSB5.out (by rw [HLT.out]; omega)).mono ?_
          rintro e w' ⟨rfl, rfl⟩
          go_wp2_with (refine wpList_appS rfl (.tmp 66) (.tmp 68) rfl (w.heap.size + 1) (.slice none 0 0) (.slice p9 m cap9) ([]) B rfl rfl HA.out.own HA.out.nine HBS5.out HAL.out ?_; intro v6' w6 hS6 hg6)
          obtain ⟨hr6, hbel6, hT6⟩ := HA.out.next hS6 hg6 HT5.out h0
          have HR6 := Lib.hid hr6
          rw [HLT.out] at HR6
          have HS6 := Lib.hid hS6
          have HN := Lib.hid (hG2b.next HR6.out HS6.out hbel6 HLT.out hm1)
          clear hr6 hS6 hg6 HSB5 HBS5 HAL HT5 HA
          generalize hS1 : on (0#32) B = S1 at *
          refine (runsum_walk _ 25 S1 _ w6 HR6.out).mono ?_
          rintro e w' ⟨rfl, rfl⟩
          go_wp2_with fail
          refine (runlen_walk _ 25 S1 _ w6 HR6.out).mono ?_
          rintro e w' ⟨rfl, rfl⟩
          go_wp2_with fail
          refine (of_walk w6 v6' _ HS6.out.toP hT6 (by rw [← HN.out.many]; omega) (by have := HN.out.len; omega)).mono ?_
          rintro e w7 ⟨rfl, hb7⟩
          rw [HEQ.out]
          have HN7 := Lib.hid (HN.out.later hb7)
          have cs1 := run_toString (HN7.out.own.each (.slice p9 m cap9, B) (by simp)).toW
          have cs2 := run_toString (HB.out.below HN7.out.below (Nat.le_refl _))
          clear hb7 HR6 HS6 HN hT6
          go_wp2_with fail
          exact ⟨⟨k + 1, S1, (0) + m, _, by omega, by omega, rfl, by first | rfl | go_num | simp, by go_num, HN7.out⟩, by simp [intOf]; omega⟩
    · have hG1 := hG
      have hTr := hT.below hG.below h0
      have hbel := hG.below
      clear hG hG1
      by_cases hl1 : k < L
      · have hi1 : (k : Int) < (L : Int) := by omega
        have hi2 : (30 : Int) ≤ (k : Int) := by omega
        clear HP hlt
        go_wp2_with fail
        refine (tells_walk _ hTr).mono ?_
        rintro e w5 ⟨rfl, hb5⟩
        go_wp2_with fail
        go_ret
        exact ⟨rfl, hbel.trans (hb5.mono hbel.size)⟩
      · have hi1 : (L : Int) ≤ (k : Int) := by omega
        clear HP hlt
        go_wp2_with fail
        refine (tells_walk _ hTr).mono ?_
        rintro e w5 ⟨rfl, hb5⟩
        go_wp2_with fail
        go_ret
        exact ⟨rfl, hbel.trans (hb5.mono hbel.size)⟩
end Go.Proofs.YtehajghnjbhfeaaDoor
