/-
  Merged, in the order in which they build: Wct Wsl Wsm.
-/
import Derived.Test.YtphdcgioeokfbaaDoorMg47
/-
  counted: a block's steps counted, and its heading.
-/
namespace Go.Proofs.YtphdcgioeokfbaaDoor
open Go.RowKit Hf

theorem wpList_buildG {w : World} {ops : Array Oper} {rest : List Oper} {o : Oper} {a : Act} {Q : Exit → Act → World → Prop} (hg : o.guard = none) (t : TypeId) (parts : Array (Nat × Operand)) (ho : o.op = .build t parts)
    (cs : Array Value) (hf : Tryd.prog.built t (parts.map fun (i, x) => (i, a.eval x)).toList = some cs)
    (h : wpList Tryd.prog ops Q rest (a.put o.dst (.agg cs)) w) : wpList Tryd.prog ops Q (o :: rest) a w :=
  wpList_build hg t parts ho (by rw [hf]; rfl) (by rw [hf]; exact h)
theorem wpList_boxG {w : World} {ops : Array Oper} {rest : List Oper} {o : Oper} {a : Act} {Q : Exit → Act → World → Prop} (hg : o.guard = none) (t : TypeId) (x : Operand) (ho : o.op = .box t x)
    (cells : Array Value) (hx : (a.eval x).cells = cells)
    (h : ∀ w2, w2.heap[w.heap.size]? = some (.cells cells t (0, 0)) → OnlyS (fun _ => False) w w2 → wpList Tryd.prog ops Q rest (a.put o.dst (.pointer (some ⟨w.heap.size, 0, none⟩))) w2) : wpList Tryd.prog ops Q (o :: rest) a w := by
  subst hx
  refine wpList_plain hg fun K hK => ?_
  unfold Oper.wp execOp
  simp only [ho, Sem.run_bind, Instr.box, newVar, newRow, run_newObj_alloc, Sem.run_pure, Result.andThen_ok]
  exact hK _ _ (h _ (heap_alloc_new _ _) (OnlyS.alloc _ _))
/-- A new block's cells. -/
def blkC (lv : Value) (n : Int) : Array Value := (([lv, Value.int .i64 n, Value.slice none 0 0] : List Value) ++ (ni (List.replicate 286 0) ++ (ni (List.replicate 30 0) ++ ([Value.int .i64 ((0 : Nat) : Int), Value.pointer none] : List Value)))).toArray
theorem built_blk (p : Option Addr) (k c : Nat) (n : Int) : Tryd.prog.built 59 [(0, Value.slice p k c), (1, Value.int .i64 n)] = some (blkC (.slice p k c) n) := by kernel_rfl
theorem CtAt.o_set {w : World} {g : Nat} {T : TypeId} {h0 h1 h2 ov : Value} {S D : List Int} {b : Nat} (h : CtAt w g T h0 h1 h2 ov S D b) (v : Value) : CtAt (w.setCell ⟨g, 320, none⟩ v) g T h0 h1 h2 v S D b := by
  have hs := h.sl
  have hd := h.dl
  refine ⟨?_, hs, hd⟩
  rw [heap_setCell_same _ _ _ _ _ _ h.row]
  congr 2
  rw [List.setIfInBounds_toArray]
  congr 1
  rw [List.set_append_right _ _ (by simp), List.set_append_right _ _ (by simp; omega), List.set_append_right _ _ (by simp; omega)]
  rw [show 320 - [h0, h1, h2].length - (ni S).length - (ni D).length = 1 by simp; omega]
  rfl
theorem CtAt.frozen {w : World} {g : Nat} {T : TypeId} {h0 h1 h2 ov : Value} {S D : List Int} {b : Nat} (h : CtAt w g T h0 h1 h2 ov S D b) (o : Nat) : w.frozen? ⟨g, o, none⟩ = false := frozen_of_row _ _ _ _ _ h.row
theorem CtAt.s_row {w : World} {g : Nat} {T : TypeId} {h0 h1 h2 ov : Value} {S D : List Int} {b : Nat} (h : CtAt w g T h0 h1 h2 ov S D b) : SlV w (.slice (some ⟨g, 3, none⟩) 286 286) (ni S) ∧ SlV w (.slice (some ⟨g, 289, none⟩) 30 30) (ni D) :=
  ⟨ni_row w g 3 S (fun i hi => h.s_cell i (by rw [← h.sl]; exact hi)) 286 h.sl, ni_row w g 289 D (fun i hi => h.d_cell i (by rw [← h.dl]; exact hi)) 30 h.dl⟩
theorem blk_ct {w : World} {g : Nat} {lv : Value} {n : Int} (h : w.heap[g]? = some (.cells (blkC lv n) 59 (0, 0))) : CtAt w g 59 lv (.int .i64 n) (.slice none 0 0) (.pointer none) (List.replicate 286 0) (List.replicate 30 0) 0 :=
  ⟨h, List.length_replicate, List.length_replicate⟩
theorem cS_ok (ts : List Tok) (h : ts.length ≤ 600000) : okC (Df.cS ts) = true := cnt_ok _ 286 (by decide) (by unfold Df.sgsL; rw [List.length_append, List.length_map, List.length_singleton]; omega)
theorem cD_ok (ts : List Tok) (h : ts.length ≤ 1000000) : okC (Df.cD ts) = true := cnt_ok _ 30 (by decide) (by have := ds_len ts; omega)
/-- What counted tells. -/
def CntPost (w : World) (lv : Value) (n : Nat) (l : List Df.Z) (e : Ending) (w' : World) : Prop := ∃ gb G va vb vr vt, e = .returned (.pointer (some ⟨gb, 0, none⟩)) ∧ OnlyS (fun _ => False) w w' ∧ w.heap.size ≤ gb ∧ gb < G ∧
  CtAt w' gb 59 lv (.int .i64 (n : Int)) (.slice none 0 0) (.pointer (some ⟨G, 0, none⟩)) (Df.cS (l.map Df.tok)) (Df.cD (l.map Df.tok)) (Df.cB (l.map Df.tok)) ∧
  w'.heap[G]? = some (.cells #[va, vb, vr, vt, .int .i64 (Df.tS (l.map Df.tok) : Int)] 95 (0, 0)) ∧ SlV w' va (ni (Df.zS (l.map Df.tok))) ∧ SlV w' vb (ni (Df.zD (l.map Df.tok))) ∧ SlK 3 w' vr (Df.gS (l.map Df.tok)).length (rs (Df.gS (l.map Df.tok))) ∧ SlV w' vt (ni (Df.fS (l.map Df.tok))) ∧ Far4 (gb + 1) va vb vr vt
set_option maxRecDepth 100000 in
set_option maxHeartbeats 1000000 in
theorem counted_walk (w : World) (lv : Value) (n : Nat) (l : List Df.Z) (hs : SlZ w lv l) (hz : ∀ s ∈ l, Df.okZ s) (hl : l.length ≤ 600000) (hlo : TabAt 0 Df.longs w ∧ TabAt 1 Df.fars w) (hO : OrdAt w) (h8 : 0 < w.heap.size ∧ 1 < w.heap.size) (hlt : ∀ p m c, lv = .slice (some p) m c → 0 < m → p.block < w.heap.size) :
    Calls Tryd.prog 19 #[lv, .int .i64 (n : Int)] w (CntPost w lv n l) := by
  have HT : Hid (∀ w1, w1.heap[w.heap.size]? = some (.cells (blkC lv (n : Int)) 59 (0, 0)) → OnlyS (fun _ => False) w w1 → Calls Tryd.prog 26 #[lv, .iface 78 (.pointer (some ⟨w.heap.size, 3, none⟩))] w1 fun e w' => e = .returned (.tuple #[]) ∧ OnlyS (fun i => i = w.heap.size) w1 w' ∧ CtAt w' w.heap.size 59 lv (.int .i64 (n : Int)) (.slice none 0 0) (.pointer none) (Df.cS (l.map Df.tok)) (Df.cD (l.map Df.tok)) (Df.cB (l.map Df.tok))) := Lib.hid (fun w1 hr ho =>
    count_walk w1 w.heap.size lv (.int .i64 (n : Int)) (.slice none 0 0) (.pointer none) lv l 59 (blk_ct hr) (hs.only ho (fun _ _ _ _ _ h => h)) (fun p m c e hm h => by have := hlt p m c e hm; omega) ⟨hlo.1.only ho (fun h => h), hlo.2.only ho (fun h => h)⟩ h8 (by have := hl; omega) hz)
  have HH : Hid (∀ w2, OnlyS (fun i => i = w.heap.size) w w2 → CtAt w2 w.heap.size 59 lv (.int .i64 (n : Int)) (.slice none 0 0) (.pointer none) (Df.cS (l.map Df.tok)) (Df.cD (l.map Df.tok)) (Df.cB (l.map Df.tok)) →
      Calls Tryd.prog 27 #[.pointer (some ⟨w.heap.size, 3, none⟩)] w2 fun e w' => ∃ G va vb vr vt, e = .returned (.pointer (some ⟨G, 0, none⟩)) ∧ OnlyS (fun _ => False) w2 w' ∧ w2.heap.size ≤ G ∧
      w'.heap[G]? = some (.cells #[va, vb, vr, vt, .int .i64 (Df.tS (l.map Df.tok) : Int)] 95 (0, 0)) ∧ SlV w' va (ni (Df.zS (l.map Df.tok))) ∧ SlV w' vb (ni (Df.zD (l.map Df.tok))) ∧ SlK 3 w' vr (Df.gS (l.map Df.tok)).length (rs (Df.gS (l.map Df.tok))) ∧ SlV w' vt (ni (Df.fS (l.map Df.tok))) ∧ Far4 w2.heap.size va vb vr vt) := Lib.hid (fun w2 ho hc =>
    headed_walk w2 w.heap.size 3 (Df.cS (l.map Df.tok)) (Df.cD (l.map Df.tok)) (fun k hk => ho.cell (hO k hk) (by have := block_lt_of_cell (hO k hk); exact Nat.ne_of_lt this)) hc.s_row.1 hc.s_row.2 hc.sl hc.dl (cS_ok _ (by rw [List.length_map]; exact hl)) (cD_ok _ (by rw [List.length_map]; omega)) (Df.zS (l.map Df.tok)) (Df.zD (l.map Df.tok)) (Df.fS (l.map Df.tok)) (Df.gS (l.map Df.tok)) rfl rfl rfl rfl)
  obtain ⟨p, c, hsh⟩ := hs.shape
  have HBT : Hid (Tryd.prog.built 59 [(0, .slice p l.length c), (1, .int .i64 (n : Int))] = some (blkC lv (n : Int))) := Lib.hid (by rw [hsh]; exact built_blk p l.length c n)
  have HSH := Lib.hid hsh
  obtain ⟨ln, hln⟩ : ∃ ln, l.length = ln := ⟨_, rfl⟩
  rw [hln] at hsh HBT
  subst hsh
  clear hs hz hl hlo hO h8 hlt hln HSH
  go_enter Tryd.func19, Tryd.ntmps19
  go_wp2_with (first
    | (refine wpList_buildG rfl 59 _ rfl (blkC (.slice p ln c) (n : Int)) HBT.out ?_)
    | (refine wpList_boxG rfl 59 _ rfl (blkC (.slice p ln c) (n : Int)) rfl ?_; intro w1 hr1 ho1; have HO1 := Lib.hid ho1; have HC1 := Lib.hid (HT.out w1 hr1 ho1); clear hr1 ho1)
    | ((with_reducible refine HC1.out.mono ?_); rintro e w2 ⟨rfl, ho, hc⟩; have HO2 : Hid (OnlyS (fun i => i = w.heap.size) w w2) := Lib.hid ((HO1.out.mono (fun _ _ h => h.elim)).trans ho); have HC2 := Lib.hid hc; have HC3 := Lib.hid (HH.out w2 HO2.out hc); clear ho hc)
    | ((with_reducible refine HC3.out.mono ?_); rintro e w3 ⟨G, va, vb, vr, vt, rfl, ho, hG, hrow, ha, hb, hr, ht, hf⟩; have HO3 := Lib.hid ho; have hc3 := HC2.out.only ho; have c320 := hc3.h_cells.2.2.2; have f320 := hc3.frozen 320; have HC4 := Lib.hid hc3; have HX := Lib.hid (And.intro hG (And.intro hrow (And.intro ha (And.intro hb (And.intro hr (And.intro ht hf)))))); clear ho hG hrow ha hb hr ht hf hc3))
  go_ret
  obtain ⟨hG, hrow, ha, hb, hr, ht, hf⟩ := HX.out
  have hw2 := HO2.out.size
  have hgb : w.heap.size < w2.heap.size := (Array.getElem?_eq_some_iff.1 HC2.out.row).1
  have hst : OnlyS (fun i => i = w.heap.size) w3 (w3.setCell ⟨w.heap.size, 320, none⟩ (.pointer (some ⟨G, 0, none⟩))) := OnlyS.setCell _ _ _ _ rfl
  have hno : ∀ v, v = va ∨ v = vb ∨ v = vr ∨ v = vt → ∀ p n c, v = .slice (some p) n c → 0 < n → ¬ p.block = w.heap.size := fun v hv p n c e _ h => by have := hf v hv p n c e; omega
  refine ⟨w.heap.size, G, va, vb, vr, vt, rfl, ?_, Nat.le_refl _, by omega, HC4.out.o_set _, (hst.block G (Array.getElem?_eq_some_iff.1 hrow).1 (by omega)).trans hrow, ha.only hst (hno va (.inl rfl)), hb.only hst (hno vb (.inr (.inl rfl))), SlK.only hr hst (hno vr (.inr (.inr (.inl rfl)))), ht.only hst (hno vt (.inr (.inr (.inr rfl)))), fun v hv p n c e => by have := hf v hv p n c e; omega⟩
  exact ((OnlyS.refl (fun _ => False) w).trans' ((HO2.out.trans (HO3.out.mono (fun _ _ h => h.elim))).trans hst) (fun i hi => .inr (by omega)))
end Go.Proofs.YtphdcgioeokfbaaDoor
/-
  Parts of rows of steps.
-/
namespace Go.Proofs.YtphdcgioeokfbaaDoor
open Go.RowKit Hf

/-- A step of natural numbers, as the writer has it. -/
def zOf (s : Mt.St) : Df.Z := ((s.1 : Int), (s.2.1 : Int), s.2.2)
theorem zc_ns (ss : List Mt.St) : zc (ss.map zOf) = ns ss := by
  induction ss with
  | nil => rfl
  | cons s t ih =>
    rw [List.map_cons]
    show _ ++ zc (t.map zOf) = _ ++ ns t
    rw [ih]; rfl
theorem slz_of {w : World} {v : Value} {ss : List Mt.St} (h : SlS w v ss) : SlZ w v (ss.map zOf) := by
  unfold SlZ; rw [zc_ns, List.length_map]; exact h
theorem size_z (ss : List Mt.St) : Df.sizeZ (ss.map zOf) = Mt.sizeL ss := by
  unfold Df.sizeZ Mt.sizeL
  rw [List.map_map]
  congr 1
  apply List.map_congr_left
  intro s _
  show (max (s.1 : Int) 1).toNat = max s.1 1
  omega
theorem ns_take (ss : List Mt.St) (k : Nat) : ns (ss.take k) = (ns ss).take (k * 3) := by
  induction ss generalizing k with
  | nil => simp [ns]
  | cons s t ih =>
    cases k with
    | zero => simp [ns]
    | succ k =>
      rw [List.take_succ_cons, show (k + 1) * 3 = k * 3 + 3 by omega]
      show _ :: _ :: _ :: ns (t.take k) = List.take (k * 3 + 3) (_ :: _ :: _ :: ns t)
      rw [ih]; rfl
theorem ns_drop (ss : List Mt.St) (k : Nat) : ns (ss.drop k) = (ns ss).drop (k * 3) := by
  induction ss generalizing k with
  | nil => simp [ns]
  | cons s t ih =>
    cases k with
    | zero => simp [ns]
    | succ k =>
      rw [List.drop_succ_cons, show (k + 1) * 3 = k * 3 + 3 by omega]
      show ns (t.drop k) = List.drop (k * 3 + 3) (_ :: _ :: _ :: ns t)
      rw [ih]; rfl
theorem SlS.takeS {w : World} {p : Option Addr} {n c : Nat} {ss : List Mt.St} (h : SlS w (.slice p n c) ss) (k : Nat) (hk : k ≤ n) : SlS w (.slice p k c) (ss.take k) := by
  obtain ⟨h0, ⟨g, o, cap, he, hc, hr⟩ | ⟨q, he, hm⟩⟩ := h
  · have hl : ss.length = n := by cases he; rfl
    have hp : p = some ⟨g, o, none⟩ ∧ c = cap := by cases he; exact ⟨rfl, rfl⟩
    obtain ⟨rfl, rfl⟩ := hp
    have hlt : (ss.take k).length = k := by rw [List.length_take]; omega
    refine ⟨ns_length _, .inl ⟨g, o, c, by rw [hlt], by rw [hlt]; omega, fun i v hi => hr i v ?_⟩⟩
    rw [ns_take] at hi
    have hlt2 := (List.getElem?_eq_some_iff.1 hi).1
    rw [List.length_take] at hlt2
    rw [List.getElem?_take, if_pos (by omega)] at hi
    exact hi
  · have hl : n = 0 ∧ c = 0 ∧ p = q := by cases he; exact ⟨rfl, rfl, rfl⟩
    obtain ⟨rfl, rfl, rfl⟩ := hl
    obtain rfl : k = 0 := by omega
    exact ⟨rfl, .inr ⟨p, rfl, rfl⟩⟩
theorem SlS.leS {w : World} {p : Option Addr} {n c : Nat} {ss : List Mt.St} (h : SlS w (.slice p n c) ss) : n ≤ c := by
  obtain ⟨_, ⟨g, o, cap, he, h2, _⟩ | ⟨q, he, h2⟩⟩ := h
  · obtain ⟨_, h3, h4⟩ := Value.slice.inj he; omega
  · obtain ⟨_, h3, h4⟩ := Value.slice.inj he; omega
theorem SlS.lenS {w : World} {p : Option Addr} {n c : Nat} {ss : List Mt.St} (h : SlS w (.slice p n c) ss) : ss.length = n := by
  obtain ⟨_, ⟨g, o, cap, he, h2, _⟩ | ⟨q, he, h2⟩⟩ := h
  · cases he; rfl
  · cases he; exact h2
theorem toS {w : World} {p : Option Addr} {n cap : Nat} {ss : List Mt.St} (h : SlS w (.slice p n cap) ss) (k : Nat) (hk : k ≤ n) : ∀ w', (Instr.sliceAt 40 (.slice p n cap) none (some (.int .i64 (k : Int))) none).run Tryd.prog w' = .ok (.slice p k cap) w' := by
  intro w'
  have hc := h.leS
  obtain ⟨h0, ⟨g, o, cap', he, _, _⟩ | ⟨q, he, hm⟩⟩ := h
  · have hp : p = some ⟨g, o, none⟩ := by cases he; rfl
    subst hp
    clear he h0
    have h1 : (0 : Int) ≤ (k : Int) := by omega
    have h2 : (k : Int) ≤ (cap : Int) := by omega
    go_simp
  · have hc : cap = 0 ∧ p = q ∧ n = 0 := by cases he; exact ⟨rfl, rfl, rfl⟩
    obtain ⟨rfl, rfl, rfl⟩ := hc
    obtain rfl : k = 0 := by omega
    show (Instr.sliceAt 40 (.slice p 0 0) none (some (.int .i64 0)) none).run Tryd.prog w' = .ok (.slice p 0 0) w'
    cases p with
    | none => kernel_rfl
    | some a => kernel_rfl
theorem fromS {w : World} {p : Option Addr} {n cap : Nat} {ss : List Mt.St} (h : SlS w (.slice p n cap) ss) (i : Nat) (hj : i ≤ n) :
    ∃ p', (∀ w', (Instr.sliceAt 40 (.slice p n cap) (some (.int .i64 (i : Int))) none none).run Tryd.prog w' = .ok (.slice p' (n - i) (cap - i)) w') ∧ SlS w (.slice p' (n - i) (cap - i)) (ss.drop i) ∧ ∀ b, p' = some b → ∃ a, p = some a ∧ a.block = b.block := by
  have hle := h.leS
  have hln := h.lenS
  obtain ⟨h0, ⟨g, o, cap', he, h2, hB⟩ | ⟨q, he, hm⟩⟩ := h
  · have hp : p = some ⟨g, o, none⟩ ∧ cap = cap' := by cases he; exact ⟨rfl, rfl⟩
    obtain ⟨rfl, rfl⟩ := hp
    have hl : (ss.drop i).length = n - i := by simp; omega
    have h1 : (0 : Int) ≤ (i : Int) := by omega
    have h3 : (i : Int) ≤ (n : Int) := by omega
    have h4 : (n : Int) ≤ (cap : Int) := by omega
    clear he
    by_cases hck : cap = i
    · have hji : n = i := by omega
      have hz : n - i = 0 := by omega
      have hd : ss.drop i = [] := List.drop_eq_nil_of_le (by omega)
      have hc : cap - i = 0 := by omega
      rw [hz, hd, hc]
      refine ⟨some ⟨g, o, none⟩, fun w' => ?_, ⟨rfl, .inr ⟨some ⟨g, o, none⟩, rfl, rfl⟩⟩, fun b hb => ⟨_, rfl, by cases hb; rfl⟩⟩
      subst hck
      subst hji
      go_simp
    · refine ⟨some ⟨g, o + i * 3, none⟩, fun w' => ?_, ⟨ns_length _, .inl ⟨g, o + i * 3, cap - i, by rw [hl], by rw [hl]; omega, by rw [ns_drop]; exact hB.drop (i * 3)⟩⟩, fun b hb => ⟨_, rfl, by cases hb; rfl⟩⟩
      go_simp
  · have hc : n = 0 ∧ cap = 0 ∧ q = p := by cases he; exact ⟨rfl, rfl, rfl⟩
    obtain ⟨rfl, rfl, rfl⟩ := hc
    obtain rfl : i = 0 := by omega
    refine ⟨q, fun w' => ?_, ⟨by rw [List.drop_zero]; exact h0, .inr ⟨q, rfl, by rw [List.drop_zero]; exact hm⟩⟩, fun b hb => ⟨b, hb, rfl⟩⟩
    show (Instr.sliceAt 40 (.slice q 0 0) (some (.int .i64 0)) none none).run Tryd.prog w' = .ok (.slice q 0 0) w'
    cases q with
    | none => kernel_rfl
    | some a => kernel_rfl
end Go.Proofs.YtphdcgioeokfbaaDoor
/-
  A stream: block by block.
-/
namespace Go.Proofs.YtphdcgioeokfbaaDoor
open Go.RowKit Hf

theorem CtAt.v_set {w : World} {g : Nat} {T : TypeId} {h0 h1 h2 ov : Value} {S D : List Int} {b : Nat} (h : CtAt w g T h0 h1 h2 ov S D b) (v : Value) : CtAt (w.setCell ⟨g, 2, none⟩ v) g T h0 h1 v ov S D b := by
  refine ⟨?_, h.sl, h.dl⟩
  rw [heap_setCell_same _ _ _ _ _ _ h.row]
  congr 2
theorem WrAt.old {w : World} {B g : Nat} {sv : Value} {L : List Bool} (h : WrAt w B g sv L) {i : Nat} (hi : i < B) : ¬ wrX g sv i := fun hx => by have := (h.x_lt _ hx).1; omega
theorem WrAt.new {w : World} {B g : Nat} {sv : Value} {L : List Bool} (h : WrAt w B g sv L) {i : Nat} (hi : w.heap.size ≤ i) : ¬ wrX g sv i := fun hx => by have := (h.x_lt _ hx).2; omega
/-- The globals that a block reads. -/
structure Glb (w : World) (B : Nat) : Prop where
  lo : TabAt 0 Df.longs w ∧ TabAt 1 Df.fars w
  ord : OrdAt w
  lt : 0 < B ∧ 1 < B ∧ 2 < B
theorem Glb.go {w w' : World} {B : Nat} (h : Glb w B) (ho : OnlyS (fun i => B ≤ i) w w') : Glb w' B :=
  ⟨⟨h.lo.1.only ho (by have := h.lt.1; omega), h.lo.2.only ho (by have := h.lt.2.1; omega)⟩, fun i hi => ho.cell (h.ord i hi) (by have := h.lt.2.2; show ¬ B ≤ 2; omega), h.lt⟩
/-- A block's cells, counted, and its bytes laid in. -/
theorem blk_ready {w1 w2 : World} {B g gb G : Nat} {sv lv bv va vb vr vt : Value} {L : List Bool} {l : List Df.Z} {bs : List UInt8} (hW : WrAt w1 B g sv L) (hB : B ≤ w1.heap.size) (ho : OnlyS (fun _ => False) w1 w2) (h1 : w1.heap.size ≤ gb) (h2 : gb < G)
    (ct : CtAt w2 gb 59 lv (.int .i64 (bs.length : Int)) (.slice none 0 0) (.pointer (some ⟨G, 0, none⟩)) (Df.cS (l.map Df.tok)) (Df.cD (l.map Df.tok)) (Df.cB (l.map Df.tok)))
    (hrow : w2.heap[G]? = some (.cells #[va, vb, vr, vt, .int .i64 (Df.tS (l.map Df.tok) : Int)] 95 (0, 0))) (ha : SlV w2 va (ni (Df.zS (l.map Df.tok)))) (hb : SlV w2 vb (ni (Df.zD (l.map Df.tok)))) (hr : SlK 3 w2 vr (Df.gS (l.map Df.tok)).length (rs (Df.gS (l.map Df.tok)))) (ht : SlV w2 vt (ni (Df.fS (l.map Df.tok)))) (hf : Far4 (gb + 1) va vb vr vt)
    (hst : SlZ w1 lv l) (hsn : ∀ p n c, lv = .slice (some p) n c → 0 < n → p.block < B) (hbv : SlV w1 bv (bl bs)) (hbn : ∀ p n c, bv = .slice (some p) n c → 0 < n → p.block < B) (hG : Glb w1 B) (hok : ∀ s ∈ l, Df.okZ s) (hl : l.length ≤ 1000000) (hbl : bs.length ≤ 100000000) :
    BlkSt (w2.setCell ⟨gb, 2, none⟩ bv) g gb G sv lv bv va vb vr vt l bs ∧ WrAt (w2.setCell ⟨gb, 2, none⟩ bv) B g sv L ∧ OnlyS (fun _ => False) w1 (w2.setCell ⟨gb, 2, none⟩ bv) := by
  have hst2 : OnlyS (fun i => i = gb) w2 (w2.setCell ⟨gb, 2, none⟩ bv) := OnlyS.setCell _ _ _ _ rfl
  have hall : OnlyS (fun _ => False) w1 (w2.setCell ⟨gb, 2, none⟩ bv) := ho.trans' hst2 (fun i hi => .inr (by omega))
  have hGl := (Array.getElem?_eq_some_iff.1 hrow).1
  have hg0 := hG.go (hall.mono (fun _ _ h => h.elim))
  have hno : ∀ v, v = va ∨ v = vb ∨ v = vr ∨ v = vt → ∀ p n c, v = .slice (some p) n c → 0 < n → ¬ p.block = gb := fun v hv p n c e _ h => by have := hf v hv p n c e; omega
  have hwd : WdSt (w2.setCell ⟨gb, 2, none⟩ bv) g gb sv lv l := ⟨(ct.v_set bv).h_cells.1, hW.new h1, hst.only hall (fun _ _ _ _ _ h => h), fun p n c e hn => hW.old (hsn p n c e hn), hg0.lo, ⟨hW.old hG.lt.1, hW.old hG.lt.2.1⟩, hok⟩
  have hhd : HdSt (w2.setCell ⟨gb, 2, none⟩ bv) g G sv va vb vr vt (l.map Df.tok) := ⟨(hst2.block G hGl (by omega)).trans hrow, hW.new (by omega), ha.only hst2 (hno va (.inl rfl)), hb.only hst2 (hno vb (.inr (.inl rfl))), SlK.only hr hst2 (hno vr (.inr (.inr (.inl rfl)))), ht.only hst2 (hno vt (.inr (.inr (.inr rfl)))),
    fun v hv p n c e _ => hW.new (by have := hf v hv p n c e; omega), hg0.ord, hW.old hG.lt.2.2⟩
  exact ⟨⟨ct.v_set bv, hwd, hhd, hbv.only hall (fun _ _ _ _ _ h => h), fun p n c e hn => hW.old (hbn p n c e hn), fun p n c e hn => Nat.lt_of_lt_of_le (hsn p n c e hn) (Nat.le_trans hB hall.size), hl, hbl⟩, hW.stay hall (fun _ h => h.elim), hall⟩
end Go.Proofs.YtphdcgioeokfbaaDoor
