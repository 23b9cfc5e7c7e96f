/-
  Merged, in the order in which they build: Lists.
-/
import Derived.Deep.RegionLaw
import Derived.Test.YtphdcgioeokfbaaDoorMg4
/-
  The contracts of packages, merged, lists.
-/
namespace Go.Proofs.YtphdcgioeokfbaaDoor
open Go.RowKit Hf

/-- Entries, as cells. -/
def ne (es : List (Int × Bool)) : List Value := es.flatMap fun e => [.int .i64 e.1, .bool e.2]
theorem ne_length (es : List (Int × Bool)) : (ne es).length = es.length * 2 := by
  induction es with
  | nil => rfl
  | cons e t ih => simp [ne, List.flatMap_cons] at ih ⊢; omega
theorem ne_append (a b : List (Int × Bool)) : ne (a ++ b) = ne a ++ ne b := by simp [ne]
theorem ne_cons (e : Int × Bool) (t : List (Int × Bool)) : ne (e :: t) = .int .i64 e.1 :: .bool e.2 :: ne t := rfl
theorem ne_drop (es : List (Int × Bool)) (k : Nat) : (ne es).drop (k * 2) = ne (es.drop k) := by
  induction k generalizing es with
  | zero => simp
  | succ k ih =>
    cases es with
    | nil => simp [ne]
    | cons e t => rw [ne_cons, show (k + 1) * 2 = k * 2 + 1 + 1 by omega, List.drop_succ_cons, List.drop_succ_cons, ih, List.drop_succ_cons]
theorem ne_one (es : List (Int × Bool)) : ∀ v ∈ ne es, v.oneCell' = true := by
  intro v hv
  unfold ne at hv
  obtain ⟨e, _, he⟩ := List.mem_flatMap.1 hv
  simp only [List.mem_cons, List.not_mem_nil, or_false] at he
  rcases he with rfl | rfl <;> rfl
def SlE (w : World) (v : Value) (es : List (Int × Bool)) : Prop := SlK 2 w v es.length (ne es)
theorem SlE.shape {w : World} {v : Value} {es : List (Int × Bool)} (h : SlE w v es) : ∃ p cap, v = .slice p es.length cap := by
  obtain ⟨_, ⟨g, o, cap, h, _⟩ | ⟨p, h, h0⟩⟩ := h
  · exact ⟨_, _, h⟩
  · rw [h0]; exact ⟨_, _, h⟩
theorem SlE.at {w : World} {p : Option Addr} {n cap : Nat} {es : List (Int × Bool)} (h : SlE w (.slice p n cap) es) (h0 : 0 < n) : ∃ g o, p = some ⟨g, o, none⟩ ∧ n ≤ cap ∧
    ∀ i e, es[i]? = some e → w.cell? ⟨g, o + i * 2, none⟩ = some (.int .i64 e.1) ∧ w.cell? ⟨g, o + i * 2 + 1, none⟩ = some (.bool e.2) := by
  obtain ⟨_, ⟨g, o, cap, h, h2, hB⟩ | ⟨p', h, h3⟩⟩ := h
  · cases h
    refine ⟨g, o, rfl, h2, fun i e he => ?_⟩
    have hi := (List.getElem?_eq_some_iff.1 he).1
    have hd : (ne es).drop (i * 2) = .int .i64 e.1 :: .bool e.2 :: ne (es.drop (i + 1)) := by
      rw [ne_drop, List.drop_eq_getElem_cons hi, ne_cons]
      have := (List.getElem?_eq_some_iff.1 he).2
      rw [this]
    have h0 : (ne es)[i * 2]? = some (.int .i64 e.1) := by
      have := congrArg (fun l => l[0]?) hd
      simpa [List.getElem?_drop] using this
    have h1 : (ne es)[i * 2 + 1]? = some (.bool e.2) := by
      have := congrArg (fun l => l[1]?) hd
      simpa [List.getElem?_drop] using this
    exact ⟨hB _ _ h0, by rw [Nat.add_assoc]; exact hB _ _ h1⟩
  · cases h; omega
theorem SlE.below {w w' : World} {v : Value} {es : List (Int × Bool)} (h : SlE w v es) {B : Nat} (hb : Below B w w') (hB : w.heap.size ≤ B) : SlE w' v es := by
  obtain ⟨hl, ⟨g, o, cap, h, h2, h3⟩ | h⟩ := h
  · refine ⟨hl, .inl ⟨g, o, cap, h, h2, fun i v hi => ?_⟩⟩
    have h0 := h3.lt (by have := (List.getElem?_eq_some_iff.1 hi).1; omega)
    rw [hb.cell (p := ⟨g, o + i, none⟩) (by show g < B; omega)]; exact h3 i v hi
  · exact ⟨hl, .inr h⟩
theorem SlE.nil (w : World) (p : Option Addr) : SlE w (.slice p 0 0) [] := ⟨rfl, .inr ⟨p, rfl, rfl⟩⟩
/-- The rest of a slice of entries, as the walk writes it. -/
theorem SlE_tail {w : World} {g o n cap : Nat} {es : List (Int × Bool)} (h : SlE w (.slice (some ⟨g, o, none⟩) n cap) es) (hn : es.length = n) (k : Nat) (hk : k ≤ n) :
    SlE w (.slice (if cap = k then some ⟨g, o, none⟩ else some ⟨g, o + k * 2, none⟩) (n - k) (cap - k)) (es.drop k) := by
  have hl : (ne (es.drop k)).length = (n - k) * 2 := by rw [ne_length, List.length_drop, hn]
  have hd : (es.drop k).length = n - k := by rw [List.length_drop, hn]
  obtain ⟨hl0, ⟨g', o', cap', h, h2, hB⟩ | ⟨p', h, h3⟩⟩ := h
  · have hsl : (some ⟨g, o, none⟩ : Option Addr) = some ⟨g', o', none⟩ ∧ cap = cap' := by cases h; exact ⟨rfl, rfl⟩
    obtain ⟨he, rfl⟩ := hsl
    cases he
    refine ⟨by rw [hl, hd], ?_⟩
    by_cases hc : cap = k
    · refine .inr ⟨some ⟨g, o, none⟩, ?_, by omega⟩
      rw [if_pos hc, show n - k = 0 by omega, show cap - k = 0 by omega]
    · refine .inl ⟨g, o + k * 2, cap - k, by rw [if_neg hc, hd], by omega, ?_⟩
      rw [← ne_drop]; exact hB.drop _
  · have h0 : n = 0 ∧ cap = 0 := by cases h; exact ⟨rfl, rfl⟩
    obtain ⟨rfl, rfl⟩ := h0
    obtain rfl : k = 0 := by omega
    rw [if_pos rfl]
    exact ⟨by rw [hl, hd], .inr ⟨_, rfl, by omega⟩⟩
theorem info140 : (Tryd.prog.info? 140).map (fun i => (i.zero, i.size, i.bytes)) = some (some (.agg #[.int .i64 0, .bool false]), 2, 16) := by kernel_rfl
/-- Two each together. -/
def pk : List (Int × Bool) → List (Int × Bool)
  | a :: b :: t => (a.1 + b.1, true) :: pk t
  | _ => []
/-- Both as one list. -/
def mg (items : List (Int × Bool)) : List (Int × Bool) → List (Int × Bool)
  | [] => items
  | p :: ps => items.takeWhile (fun e => decide (e.1 ≤ p.1)) ++ p :: mg (items.dropWhile (fun e => decide (e.1 ≤ p.1))) ps
theorem own_E {base : Nat} {w : World} {v : Value} {n : Nat} {es : List (Int × Bool)} (h : w.ownsRow base 140 2 v n (ne es)) (hn : es.length = n) : SlE w v es := by
  obtain ⟨h0, ⟨h1, h2⟩ | ⟨g, cap, cur, h1, h2, h3, h4, h5, h6, h7⟩⟩ := h
  · exact ⟨ne_length es, .inr ⟨none, h1, by omega⟩⟩
  · refine ⟨ne_length es, .inl ⟨g, 0, cap, by rw [hn]; exact h1, by omega, fun i u hi => ?_⟩⟩
    rw [Nat.zero_add, cell_of_row _ _ _ _ _ _ h3]
    have hi' := (List.getElem?_eq_some_iff.1 hi).1
    have e : cur.toList[i]? = (ne es)[i]? := by
      rw [← h7, List.getElem?_take, if_pos (by omega)]
    rw [← Array.getElem?_toList, e, hi]
def sliceLen : Value → Nat
  | .slice _ n _ => n
  | _ => 0
theorem step_appK (t e : TypeId) (i0 : TypeInfo) (z : Value) (k by0 : Nat) (hu : Tryd.prog.underlying t = some (.slice e)) (hi : Tryd.prog.info? e = some i0) (hz0 : i0.zero = some z) (hz1 : i0.size = k) (hz2 : i0.bytes = by0) (hzc : z.cells.size = k) (hk : 0 < k) (hby : by0 ≤ 64)
    {ops : Array Oper} {o : Oper} {a : Act} {w : World} {K : Act → World → Prop} {Q : Exit → Act → World → Prop} {E : Prop} (hgd : o.guard = none) (d x : Operand)
    (ho : o.op = .call { callee := .builtin .append, args := #[d, x], argTypes := #[t, t] }) (base : Nat) (v src : Value) (n m : Nat) (l ys : List Value) (hd : a.eval d = v) (hx : a.eval x = src) (hone : ∀ y ∈ ys, y.oneCell' = true)
    (hown : w.ownsRow base e k v n l) (hsrc : SlK k w src m ys) (hbase : base ≤ w.heap.size) (hsz : n + m ≤ 1099511627776)
    (h : ∀ v' w', w'.ownsRow base e k v' (n + m) (l ++ ys) → w.grownBy w' v.ownBlock → (v'.ownBlock = v.ownBlock ∨ v'.ownBlock = some w.heap.size) → K (a.put o.dst v') w') :
    if Region.wanted o (yielded ops a.tmps) = true then Oper.wp Tryd.prog o a w K Q else E := by
  have hw : Region.wanted o (yielded ops a.tmps) = true := by simp [Region.wanted, hgd]
  rw [if_pos hw]
  obtain ⟨v', w', hrun, h1, h2, h3⟩ := run_appK t e i0 z k by0 hu hi hz0 hz1 hz2 hzc hk hby o.type hone hown hsrc hbase hsz
  unfold Oper.wp
  simp only [execOp, ho, resolve, invoke, builtin, hd, hx, hrun, Result.andThen, List.map_toArray, List.map_cons, List.map_nil, Sem.run_bind, Sem.run_pure]
  exact h v' w' h1 h2 h3
theorem SlE_lit (w : World) (c : Int) (b : Bool) : SlK 2 (w.alloc (.cells #[.int .i64 c, .bool b] 140)) (.slice (some ⟨w.heap.size, 0, none⟩) 1 1) 1 (ne [(c, b)]) := by
  refine ⟨rfl, .inl ⟨w.heap.size, 0, 1, rfl, Nat.le_refl _, fun i v hi => ?_⟩⟩
  rw [Nat.zero_add]
  exact (cell_of_row _ _ _ _ _ _ (heap_alloc_new w _)).trans (by simpa [ne] using hi)
theorem SlK.drew {k : Nat} {w : World} {v : Value} {m : Nat} {vs : List Value} (h : SlK k w v m vs) : SlK k w.drew v m vs := h
theorem own_shape {base k : Nat} {e : TypeId} {w : World} {v : Value} {n : Nat} {l : List Value} (h : w.ownsRow base e k v n l) : ∃ p cap, v = .slice p n cap := by
  obtain ⟨_, ⟨h1, h2⟩ | ⟨g, cap, cur, h1, _⟩⟩ := h
  · exact ⟨_, _, by rw [h2]; exact h1⟩
  · exact ⟨_, _, h1⟩
theorem Below.drew' {B : Nat} {a w : World} (h : Below B a w) : Below B a w.drew := ⟨h.os, h.tape, h.output, h.size, h.block⟩
def PkPost (es : List (Int × Bool)) (w : World) (e : Ending) (w' : World) : Prop :=
  ∃ v, e = .returned v ∧ w'.ownsRow w.heap.size 140 2 v (pk es).length (ne (pk es)) ∧ Below w.heap.size w w'
def PkLoop (w : World) (es : List (Int × Bool)) (v0 v3 : Value) (wr : World) : Prop :=
  ∃ acc rest p cap, v0 = .slice p (rest : List (Int × Bool)).length cap ∧ SlE w v0 rest ∧ wr.ownsRow w.heap.size 140 2 v3 (acc : List (Int × Bool)).length (ne acc) ∧ acc ++ pk rest = pk es ∧ Below w.heap.size w wr ∧ acc.length + rest.length ≤ es.length ∧ ∀ e ∈ rest, 0 ≤ e.1 ∧ e.1 ≤ 1125899906842624
set_option maxRecDepth 100000 in
set_option maxHeartbeats 1000000 in
theorem packages_walk (w : World) (v : Value) (es : List (Int × Bool)) (hv : SlE w v es) (hb : ∀ e ∈ es, 0 ≤ e.1 ∧ e.1 ≤ 1125899906842624) (hl : es.length ≤ 4096) : Calls Tryd.prog 79 #[v] w (PkPost es w) := by
  obtain ⟨p, cap, rfl⟩ := hv.shape
  have HV := Lib.hid hv
  have HB := Lib.hid hb
  clear hv hb
  obtain ⟨n, hn⟩ : ∃ n, n = es.length := ⟨_, rfl⟩
  rw [← hn] at HV hl ⊢
  have HN := Lib.hid hn
  clear hn
  obtain ⟨i0, hi, hz0, hz1, hz2⟩ := info_parts info140
  have HI0 := Lib.hid (And.intro hi (And.intro hz0 (And.intro hz1 hz2)))
  clear hi hz0 hz1 hz2
  have hq : (n : Int).tdiv 2 = ((n / 2 : Nat) : Int) := by simp
  go_enter Tryd.func79, Tryd.ntmps79
  go_wp2_with (refine wpList_make_own w rfl _ _ 138 rfl w.heap.size 140 i0 (.agg #[.int .i64 0, .bool false]) 2 Tryd.underlying138 HI0.out.1 HI0.out.2.1 HI0.out.2.2.1 .i64 .i64 _ (n / 2) rfl rfl (by omega) (by rw [HI0.out.2.2.2]; omega) (by unfold maxLen; omega) (Nat.le_refl _) ?_; intro w1 hown hgrow)
  have HS : Hid (PkLoop w es (.slice p n cap) (.slice (some ⟨w.heap.size, 0, none⟩) 0 (n / 2)) w1) := Lib.hid ⟨[], es, p, cap, by rw [HN.out], HV.out, hown, rfl, (Below.refl _ _).grown hgrow (Nat.le_refl _) (fun k e => by cases e), by simp, HB.out⟩
  clear hown hgrow HV HB
  go_loopw [0, 3] (fun v0 v3 wr => PkLoop w es v0 v3 wr) (fun v0 _ _ => sliceLen v0)
  case atStart => exact HS.out
  case round =>
    clear HS
    obtain ⟨acc, rest, p', cap', rfl, hR, hO, hA, hBl, hLe, hBd⟩ := hrel
    obtain ⟨p3, cap3, rfl⟩ := own_shape hO
    have HR := Lib.hid hR
    have HO := Lib.hid hO
    have HBl := Lib.hid hBl
    match rest, hA, hLe, hBd, HR with
    | [], hA, hLe, hBd, HR =>
      have HA := Lib.hid hA
      clear hR hO hBl hBd hA
      rw [List.length_nil]
      go_wp2_with fail
      go_ret
      have e : acc = pk es := by have := HA.out; simpa [pk] using this
      exact ⟨_, rfl, by rw [← e]; exact HO.out, HBl.out⟩
    | [x], hA, hLe, hBd, HR =>
      have HA := Lib.hid hA
      clear hR hO hBl hBd hA
      rw [show [x].length = 1 from rfl]
      go_wp2_with fail
      go_ret
      have e : acc = pk es := by have := HA.out; simpa [pk] using this
      exact ⟨_, rfl, by rw [← e]; exact HO.out, HBl.out⟩
    | x :: y :: t, hA, hLe, hBd, HR =>
      have h2 : acc.length + (t.length + 2) ≤ es.length := by simpa using hLe
      have hbx := hBd x (by simp)
      have hby := hBd y (by simp)
      have HBd := Lib.hid (fun e (h : e ∈ t) => hBd e (by simp [h]))
      have HA := Lib.hid hA
      obtain ⟨q, hq⟩ : ∃ q, q = t.length := ⟨_, rfl⟩
      rw [show (x :: y :: t).length = q + 2 by rw [hq]; rfl] at *
      obtain ⟨g, o, rfl, hcap, hat⟩ := HR.out.at (by omega)
      have hsE := SlE_tail HR.out (by rw [hq]; rfl) 2 (by omega)
      have c0 := ((HBl.out.cell (p := ⟨g, o + 0 * 2, none⟩) (block_lt_of_cell (hat 0 x rfl).1)).trans (hat 0 x rfl).1)
      have c1 := ((HBl.out.cell (p := ⟨g, o + 1 * 2, none⟩) (block_lt_of_cell (hat 1 y rfl).1)).trans (hat 1 y rfl).1)
      rw [Nat.zero_mul, Nat.add_zero] at c0
      rw [Nat.one_mul] at c1
      have HSE := Lib.hid hsE
      have hsm : acc.length ≤ 4096 := by have := HN.out; omega
      have hq4 : q ≤ 4096 := by have := HN.out; omega
      have HQ := Lib.hid hq
      have HLE := Lib.hid h2
      clear hR hO hBl hBd hA hsE hat hq h2 hLe
      have hx1 : wrap64 (x.1 + y.1) = x.1 + y.1 := by unfold wrap64; omega
      have hwa : Below wr.heap.size wr (wr.alloc (.cells #[.int .i64 (x.1 + y.1), .bool true] 140)) := (Below.refl _ _).alloc (Nat.le_refl _) _
      have c0a := (hwa.cell (p := ⟨g, o, none⟩) (block_lt_of_cell c0)).trans c0
      have c1a := (hwa.cell (p := ⟨g, o + 2, none⟩) (block_lt_of_cell c1)).trans c1
      have HWA := Lib.hid (Below.drew' (HBl.out.trans (hwa.mono HBl.out.size)))
      have hb0 : w.heap.size ≤ wr.heap.size := HBl.out.size
      clear hwa
      have hp0 : (0 : Int) < (q : Int) + 2 := by omega
      have hx2 : IntKind.i64.wrap (x.1 + y.1) = x.1 + y.1 := IntWalk.i64_in _ (by omega)
      go_wp2_with fail
      go_region_law (refine step_appK 138 140 i0 (.agg #[.int .i64 0, .bool false]) 2 16 Tryd.underlying138 HI0.out.1 HI0.out.2.1 HI0.out.2.2.1 HI0.out.2.2.2 rfl (by decide) (by decide) rfl (.tmp 13) (.tmp 24) rfl w.heap.size (.slice p3 acc.length cap3) (.slice (some ⟨wr.heap.size, 0, none⟩) 1 1) acc.length 1 (ne acc) (ne [(x.1 + y.1, true)]) rfl rfl (ne_one _) (HO.out.alloc _).drew (SlE_lit wr _ _).drew (by simp; omega) (by omega) ?_; intro v' w6 hown hgrow _; obtain ⟨p6, cap6, hv'⟩ := own_shape hown; have HOW := Lib.hid hown; have HGR := Lib.hid hgrow; clear hown hgrow; subst hv')
      all_goals go_wp2_with fail
      all_goals
        refine ⟨⟨acc ++ [(x.1 + y.1, true)], t, _, _, by rw [← HQ.out], HSE.out, by rw [ne_append, List.length_append]; exact HOW.out, by rw [← HA.out, List.append_assoc]; rfl, HWA.out.grown HGR.out HWA.out.size (fun k e => ((HO.out.lt k e).1)), by have := HLE.out; simp; omega, HBd.out⟩, by simp [sliceLen]⟩

theorem mg_length (items packs : List (Int × Bool)) : (mg items packs).length = items.length + packs.length := by
  induction packs generalizing items with
  | nil => simp [mg]
  | cons p t ih =>
    rw [mg, List.length_append, List.length_cons, ih, List.length_cons]
    have := congrArg List.length (List.takeWhile_append_dropWhile (p := fun e : Int × Bool => decide (e.1 ≤ p.1)) (l := items))
    rw [List.length_append] at this
    omega
def MgPost (items packs : List (Int × Bool)) (w : World) (e : Ending) (w' : World) : Prop :=
  ∃ v, e = .returned v ∧ w'.ownsRow w.heap.size 140 2 v (mg items packs).length (ne (mg items packs)) ∧ Below w.heap.size w w'
theorem mg_take (x : Int × Bool) (t : List (Int × Bool)) (e : Int × Bool) (ps : List (Int × Bool)) (h : x.1 ≤ e.1) : mg (x :: t) (e :: ps) = x :: mg t (e :: ps) := by
  rw [mg, mg, List.takeWhile_cons, List.dropWhile_cons]
  simp [h]
theorem mg_put (x : Int × Bool) (t : List (Int × Bool)) (e : Int × Bool) (ps : List (Int × Bool)) (h : ¬ x.1 ≤ e.1) : mg (x :: t) (e :: ps) = e :: mg (x :: t) ps := by
  rw [mg, List.takeWhile_cons, List.dropWhile_cons]
  simp [h]
theorem mg_none (e : Int × Bool) (ps : List (Int × Bool)) : mg [] (e :: ps) = e :: mg [] ps := by
  rw [mg]; rfl
structure MgRel (w wr : World) (n : Nat) (tot : List (Int × Bool)) (v0 v5 : Value) (acc rest packs : List (Int × Bool)) : Prop where
  sl : SlE w v0 rest
  own : wr.ownsRow w.heap.size 140 2 v5 acc.length (ne acc)
  eq : acc ++ mg rest packs = tot
  below : Below w.heap.size w wr
  le : acc.length + rest.length ≤ n
theorem MgRel.drewN {w wr : World} {n : Nat} {tot : List (Int × Bool)} {v0 v5 : Value} {acc rest packs : List (Int × Bool)} (h : MgRel w wr n tot v0 v5 acc rest packs) (q : Nat) : MgRel w (wr.drewN q) n tot v0 v5 acc rest packs :=
  ⟨h.sl, h.own, h.eq, ⟨h.below.os, h.below.tape, h.below.output, h.below.size, h.below.block⟩, h.le⟩
/-- A pack in a block of its own, apart from the list. -/
structure PackAt (wr : World) (gp : Nat) (e : Int × Bool) (v5 : Value) : Prop where
  row : wr.heap[gp]? = some (.cells #[.int .i64 e.1, .bool e.2] 140 (0, 0))
  ne : v5.ownBlock ≠ some gp
theorem PackAt.drewN {wr : World} {gp : Nat} {e : Int × Bool} {v5 : Value} (h : PackAt wr gp e v5) (q : Nat) : PackAt (wr.drewN q) gp e v5 := ⟨h.row, h.ne⟩
theorem PackAt.grown {wr wa w6 : World} {gp : Nat} {e : Int × Bool} {v5 v6 : Value} (h : PackAt wr gp e v5) (hwa : Below wr.heap.size wr wa) (hg : wa.grownBy w6 v5.ownBlock) (hat : v6.ownBlock = v5.ownBlock ∨ v6.ownBlock = some wa.heap.size) : PackAt w6 gp e v6 := by
  have hl : gp < wr.heap.size := (Array.getElem?_eq_some_iff.1 h.row).1
  refine ⟨(hg.block gp (Nat.lt_of_lt_of_le hl hwa.size) (fun e => h.ne e.symm)).trans ((hwa.block gp hl).trans h.row), ?_⟩
  rcases hat with h1 | h1
  · rw [h1]; exact h.ne
  · rw [h1]; intro e; cases e; have := hwa.size; omega
theorem SlE_two (w : World) (c : Int) (b : Bool) : SlK 2 (w.alloc (.cells #[.int .i64 c, .bool b] 140)) (.slice (some ⟨w.heap.size, 0, none⟩) 1 1) 1 (ne [(c, b)]) := SlE_lit w c b
set_option maxRecDepth 100000 in
set_option maxHeartbeats 1000000 in
theorem merged_walk (w : World) (v u : Value) (items packs : List (Int × Bool)) (hv : SlE w v items) (hu : SlE w u packs) (hl : items.length + packs.length ≤ 8192) : Calls Tryd.prog 78 #[v, u] w (MgPost items packs w) := by
  obtain ⟨p, cap, rfl⟩ := hv.shape
  obtain ⟨p2, cap2, rfl⟩ := hu.shape
  have HV := Lib.hid hv
  have HU := Lib.hid hu
  clear hv hu
  obtain ⟨n, hn⟩ : ∃ n, n = items.length := ⟨_, rfl⟩
  obtain ⟨m, hm⟩ : ∃ m, m = packs.length := ⟨_, rfl⟩
  rw [← hn] at HV hl ⊢
  rw [← hm] at HU hl ⊢
  have HN := Lib.hid hn
  have HM := Lib.hid hm
  clear hn hm
  obtain ⟨i0, hi, hz0, hz1, hz2⟩ := info_parts info140
  have HI0 := Lib.hid (And.intro hi (And.intro hz0 (And.intro hz1 hz2)))
  clear hi hz0 hz1 hz2
  go_enter Tryd.func78, Tryd.ntmps78
  go_wp2_with (refine wpList_make_own w rfl _ _ 138 rfl w.heap.size 140 i0 (.agg #[.int .i64 0, .bool false]) 2 Tryd.underlying138 HI0.out.1 HI0.out.2.1 HI0.out.2.2.1 .i64 .i64 _ (n + m) rfl rfl (by omega) (by rw [HI0.out.2.2.2]; omega) (by unfold maxLen; omega) (Nat.le_refl _) ?_; intro w1 hown hgrow)
  have HS : Hid (MgRel w w1 (n + m) (mg items packs) (.slice p n cap) (.slice (some ⟨w.heap.size, 0, none⟩) 0 (n + m)) [] items packs) := Lib.hid ⟨HV.out, hown, rfl, (Below.refl _ _).grown hgrow (Nat.le_refl _) (fun k e => by cases e), by rw [HN.out]; simp⟩
  clear hown hgrow HV
  go_loopw [0, 5, 7, 16] (fun v0 v5 _ v16 wr => ∃ k acc rest, k ≤ m ∧ v16 = .int .i64 ((k : Nat) : Int) ∧ MgRel w wr (n + k) (mg items packs) v0 v5 acc rest (packs.drop k)) (fun _ _ _ v16 _ => m - (intOf v16).toNat)
  case atStart => exact ⟨0, [], items, Nat.zero_le _, rfl, HS.out.sl, HS.out.own, HS.out.eq, HS.out.below, by rw [HN.out]; simp⟩
  case round =>
    clear HS
    obtain ⟨k, acc, rest, hk, rfl, hR⟩ := hrel
    obtain ⟨p0, cap0, rfl⟩ := hR.sl.shape
    obtain ⟨p5, cap5, rfl⟩ := own_shape hR.own
    have HR := Lib.hid hR
    clear hR
    by_cases hlt : k < m
    · have hlti : (k : Int) < (m : Int) := by omega
      obtain ⟨gu, ou, rfl, hcu, hat⟩ := HU.out.at (by omega)
      have hkp : k < packs.length := by rw [← HM.out]; exact hlt
      obtain ⟨e, he⟩ : ∃ e, packs[k]? = some e := ⟨_, List.getElem?_eq_getElem hkp⟩
      have hc0 := (HR.out.below.cell (p := ⟨gu, ou + k * 2, none⟩) (block_lt_of_cell (hat k e he).1)).trans (hat k e he).1
      have hc1 := (HR.out.below.cell (p := ⟨gu, ou + k * 2 + 1, none⟩) (block_lt_of_cell (hat k e he).2)).trans (hat k e he).2
      have hdr : packs.drop k = e :: packs.drop (k + 1) := by rw [List.drop_eq_getElem_cons hkp]; congr 1; exact (List.getElem?_eq_some_iff.1 he).2
      have HD := Lib.hid hdr
      clear hat hdr he hkp
      go_wp2_with fail
      have HPK : Hid (PackAt (wr.alloc (.cells #[.int .i64 e.1, .bool e.2] 140)) wr.heap.size e (.slice p5 acc.length cap5)) := Lib.hid ⟨heap_alloc_new _ _, fun h => by have := (HR.out.own.lt _ h).2; omega⟩
      have HR1 : Hid (MgRel w (wr.alloc (.cells #[.int .i64 e.1, .bool e.2] 140)) (n + k) (mg items packs) (.slice p0 rest.length cap0) (.slice p5 acc.length cap5) acc rest (e :: packs.drop (k + 1))) := Lib.hid ⟨HR.out.sl, HR.out.own.alloc _, by rw [← HD.out]; exact HR.out.eq, HR.out.below.alloc HR.out.below.size _, HR.out.le⟩
      generalize wr.heap.size = gp at *
      generalize wr.alloc (.cells #[.int .i64 e.1, .bool e.2] 140) = wr1 at *
      clear HR hc0 hc1
      go_loopw [0, 5] (fun v0 v5 wq => ∃ acc' rest', MgRel w wq (n + k) (mg items packs) v0 v5 acc' rest' (e :: packs.drop (k + 1)) ∧ PackAt wq gp e v5) (fun v0 _ _ => sliceLen v0)
      case atStart => exact ⟨acc, rest, HR1.out, HPK.out⟩
      case round =>
        clear HR1 HPK
        obtain ⟨acc', rest', hR2, hP⟩ := hrel
        obtain ⟨q0, cq0, rfl⟩ := hR2.sl.shape
        obtain ⟨q5, cq5, rfl⟩ := own_shape hR2.own
        have HR2 := Lib.hid hR2
        have HP := Lib.hid hP
        clear hR2 hP
        have hsz : acc'.length ≤ 16384 := by have := HR2.out.le; omega
        have hb0 : wr.cell? ⟨gp, 0, none⟩ = some (.int .i64 e.1) := cell_of_row _ _ _ _ _ _ HP.out.row
        have hb00 : wr.cell? ⟨gp, 1, none⟩ = some (.bool e.2) := cell_of_row _ _ _ _ _ _ HP.out.row
        match rest', HR2 with
        | [], HR2 =>
          rw [List.length_nil] at *
          go_wp2_with fail
          go_quiet (fail)
          have HR3 := Lib.hid (HR2.out.drewN nq)
          have HP3 := Lib.hid (HP.out.drewN nq)
          clear HR2 HP hb0 hb00
          have hb2 : (wr.drewN nq).cell? ⟨gp, 0, none⟩ = some (.int .i64 e.1) := cell_of_row _ _ _ _ _ _ HP3.out.row
          have hb3 : (wr.drewN nq).cell? ⟨gp, 1, none⟩ = some (.bool e.2) := cell_of_row _ _ _ _ _ _ HP3.out.row
          generalize wr.drewN nq = wz at *
          have HWA : Hid (Below wz.heap.size wz (wz.alloc (.cells #[.int .i64 e.1, .bool e.2] 140))) := Lib.hid ((Below.refl _ _).alloc (Nat.le_refl _) _)
          have hb1 : (wz.alloc (.cells #[.int .i64 e.1, .bool e.2] 140)).cell? ⟨gp, 0, none⟩ = some (.int .i64 e.1) := (HWA.out.cell (p := ⟨gp, 0, none⟩) (block_lt_of_cell hb2)).trans hb2
          go_wp2_with (refine wpList_appK 138 140 i0 (.agg #[.int .i64 0, .bool false]) 2 16 Tryd.underlying138 HI0.out.1 HI0.out.2.1 HI0.out.2.2.1 HI0.out.2.2.2 rfl (by decide) (by decide) rfl _ _ rfl w.heap.size (.slice q5 acc'.length cq5) (.slice (some ⟨wz.heap.size, 0, none⟩) 1 1) acc'.length 1 (ne acc') (ne [(e.1, e.2)]) rfl rfl (ne_one _) (HR3.out.own.alloc _) (SlE_lit wz _ _) (Nat.le_trans HR3.out.below.size (by simp)) (by omega) ?_; intro v' w6 hown hgrow hat; have hP6 := HP3.out.grown HWA.out hgrow hat; obtain ⟨p6, cap6, hv'⟩ := own_shape hown; have HOW := Lib.hid hown; have HGR := Lib.hid hgrow; have HP6 := Lib.hid hP6; clear hown hgrow hat hP6; subst hv')
          exact ⟨⟨k + 1, acc' ++ [(e.1, e.2)], [], by omega, by go_num, ⟨HR3.out.sl, by rw [ne_append, List.length_append]; exact HOW.out, by have := HR3.out.eq; rw [mg_none] at this; rw [← this, List.append_assoc]; rfl, (HR3.out.below.trans (HWA.out.mono HR3.out.below.size)).grown HGR.out (Nat.le_trans HR3.out.below.size HWA.out.size) (fun k e => ((HR3.out.own.lt k e).1)), by have := HR3.out.le; simp at this ⊢; omega⟩⟩, by simp [intOf]; omega⟩
        | x :: t, HR2 =>
          obtain ⟨g, o, rfl, hcap, hat⟩ := HR2.out.sl.at (by simp)
          have c0 := (HR2.out.below.cell (p := ⟨g, o + 0 * 2, none⟩) (block_lt_of_cell (hat 0 x rfl).1)).trans (hat 0 x rfl).1
          have c1 := (HR2.out.below.cell (p := ⟨g, o + 0 * 2 + 1, none⟩) (block_lt_of_cell (hat 0 x rfl).2)).trans (hat 0 x rfl).2
          rw [Nat.zero_mul, Nat.add_zero] at c0 c1
          have HSE := Lib.hid (SlE_tail HR2.out.sl rfl 1 (by simp))
          obtain ⟨q, hq⟩ : ∃ q, q = t.length := ⟨_, rfl⟩
          have hlen : (x :: t).length = q + 1 := by rw [hq]; rfl
          have hq4 : q ≤ 16384 := by have := HR2.out.le; rw [hlen] at this; omega
          have HQ := Lib.hid hq
          rw [hlen] at hcap HSE ⊢
          have hlen := Lib.hid hlen
          clear hat hq
          by_cases hx : x.1 ≤ e.1
          · go_wp2_with fail
            go_quiet (fail)
            have HR3 := Lib.hid (HR2.out.drewN nq)
            have HP3 := Lib.hid (HP.out.drewN nq)
            have hc2 : (wr.drewN nq).cell? ⟨g, o, none⟩ = some (.int .i64 x.1) := c0
            have hc3 : (wr.drewN nq).cell? ⟨g, o + 1, none⟩ = some (.bool x.2) := c1
            clear HR2 HP hb0 hb00 c0 c1
            generalize wr.drewN nq = wz at *
            have HWA : Hid (Below wz.heap.size wz (wz.alloc (.cells #[.int .i64 x.1, .bool x.2] 140))) := Lib.hid ((Below.refl _ _).alloc (Nat.le_refl _) _)
            go_wp2_with (refine wpList_appK 138 140 i0 (.agg #[.int .i64 0, .bool false]) 2 16 Tryd.underlying138 HI0.out.1 HI0.out.2.1 HI0.out.2.2.1 HI0.out.2.2.2 rfl (by decide) (by decide) rfl _ _ rfl w.heap.size (.slice q5 acc'.length cq5) (.slice (some ⟨wz.heap.size, 0, none⟩) 1 1) acc'.length 1 (ne acc') (ne [(x.1, x.2)]) rfl rfl (ne_one _) (HR3.out.own.alloc _) (SlE_lit wz _ _) (Nat.le_trans HR3.out.below.size (by simp)) (by omega) ?_; intro v' w6 hown hgrow hat; have hP6 := HP3.out.grown HWA.out hgrow hat; obtain ⟨p6, cap6, hv'⟩ := own_shape hown; have HOW := Lib.hid hown; have HGR := Lib.hid hgrow; have HP6 := Lib.hid hP6; clear hown hgrow hat hP6; subst hv')
            refine ⟨⟨acc' ++ [(x.1, x.2)], t, ⟨HSE.out, by rw [ne_append, List.length_append]; exact HOW.out, ?_, (HR3.out.below.trans (HWA.out.mono HR3.out.below.size)).grown HGR.out (Nat.le_trans HR3.out.below.size HWA.out.size) (fun k e => ((HR3.out.own.lt k e).1)), by have := HR3.out.le; simp at this ⊢; omega⟩, HP6.out⟩, by simp [sliceLen]⟩
            have := HR3.out.eq
            rw [mg_take _ _ _ _ (by omega)] at this
            rw [← this, List.append_assoc]; rfl
          · have hx' : e.1 < x.1 := by omega
            go_wp2_with fail
            go_quiet (fail)
            have HR3 := Lib.hid (HR2.out.drewN nq)
            have HP3 := Lib.hid (HP.out.drewN nq)
            clear HR2 HP hb0 hb00
            have hb2 : (wr.drewN nq).cell? ⟨gp, 0, none⟩ = some (.int .i64 e.1) := cell_of_row _ _ _ _ _ _ HP3.out.row
            have hb3 : (wr.drewN nq).cell? ⟨gp, 1, none⟩ = some (.bool e.2) := cell_of_row _ _ _ _ _ _ HP3.out.row
            generalize wr.drewN nq = wz at *
            have HWA : Hid (Below wz.heap.size wz (wz.alloc (.cells #[.int .i64 e.1, .bool e.2] 140))) := Lib.hid ((Below.refl _ _).alloc (Nat.le_refl _) _)
            have hb1 : (wz.alloc (.cells #[.int .i64 e.1, .bool e.2] 140)).cell? ⟨gp, 0, none⟩ = some (.int .i64 e.1) := (HWA.out.cell (p := ⟨gp, 0, none⟩) (block_lt_of_cell hb2)).trans hb2
            go_wp2_with (refine wpList_appK 138 140 i0 (.agg #[.int .i64 0, .bool false]) 2 16 Tryd.underlying138 HI0.out.1 HI0.out.2.1 HI0.out.2.2.1 HI0.out.2.2.2 rfl (by decide) (by decide) rfl _ _ rfl w.heap.size (.slice q5 acc'.length cq5) (.slice (some ⟨wz.heap.size, 0, none⟩) 1 1) acc'.length 1 (ne acc') (ne [(e.1, e.2)]) rfl rfl (ne_one _) (HR3.out.own.alloc _) (SlE_lit wz _ _) (Nat.le_trans HR3.out.below.size (by simp)) (by omega) ?_; intro v' w6 hown hgrow hat; have hP6 := HP3.out.grown HWA.out hgrow hat; obtain ⟨p6, cap6, hv'⟩ := own_shape hown; have HOW := Lib.hid hown; have HGR := Lib.hid hgrow; have HP6 := Lib.hid hP6; clear hown hgrow hat hP6; subst hv')
            exact ⟨⟨k + 1, acc' ++ [(e.1, e.2)], x :: t, by omega, by go_num, ⟨by have := HR3.out.sl; rw [hlen.out] at this; exact this, by rw [ne_append, List.length_append]; exact HOW.out, by have := HR3.out.eq; rw [mg_put _ _ _ _ (by omega)] at this; rw [← this, List.append_assoc]; rfl, (HR3.out.below.trans (HWA.out.mono HR3.out.below.size)).grown HGR.out (Nat.le_trans HR3.out.below.size HWA.out.size) (fun k e => ((HR3.out.own.lt k e).1)), by have := HR3.out.le; simp at this ⊢; omega⟩⟩, by simp [intOf]; omega⟩
    · have hlti : (m : Int) ≤ (k : Int) := by omega
      obtain rfl : k = m := by omega
      have heq := HR.out.eq
      rw [List.drop_of_length_le (by rw [← HM.out]; exact Nat.le_refl _), mg] at heq
      have HE := Lib.hid heq
      have hsz : acc.length + rest.length ≤ 16384 := by have := HR.out.le; omega
      have HLE := Lib.hid (HR.out.le)
      have HSL := Lib.hid (HR.out.sl.below HR.out.below (Nat.le_refl _))
      clear heq
      go_wp2_with (refine wpList_appK 138 140 i0 (.agg #[.int .i64 0, .bool false]) 2 16 Tryd.underlying138 HI0.out.1 HI0.out.2.1 HI0.out.2.2.1 HI0.out.2.2.2 rfl (by decide) (by decide) rfl _ _ rfl w.heap.size (.slice p5 acc.length cap5) (.slice p0 rest.length cap0) acc.length rest.length (ne acc) (ne rest) rfl rfl (ne_one _) HR.out.own HSL.out HR.out.below.size (by omega) ?_; intro v' w6 hown hgrow _; obtain ⟨p6, cap6, hv'⟩ := own_shape hown; have HOW := Lib.hid hown; have HGR := Lib.hid hgrow; clear hown hgrow; subst hv')
      go_ret
      refine ⟨_, rfl, ?_, HR.out.below.grown HGR.out HR.out.below.size (fun k e => ((HR.out.own.lt k e).1))⟩
      rw [← HE.out, ne_append, List.length_append]; exact HOW.out
end Go.Proofs.YtphdcgioeokfbaaDoor
