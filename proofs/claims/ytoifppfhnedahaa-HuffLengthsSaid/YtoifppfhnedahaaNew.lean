/-
  The contract of New.
-/
import Derived.Test.YtoifppfhnedahaaNext2
import Derived.Deep.RegionLaw
namespace Go.Proofs.Ytoifppfhnedahaa
open Go.RowKit Hf

/-- A book's cells: the most bits, first codes, a slice for each length. -/
def bk (d : Nat) (f : Nat → Nat) (vs : Nat → Value) : List Value := .int .i64 (d : Int) :: (fc f ++ (List.range 16).map vs)
theorem bk_length (d : Nat) (f : Nat → Nat) (vs : Nat → Value) : (bk d f vs).length = 33 := by simp [bk, fc_length]
theorem bk_0 (d : Nat) (f : Nat → Nat) (vs : Nat → Value) : (bk d f vs)[0]? = some (.int .i64 (d : Int)) := rfl
theorem bk_f (d : Nat) (f : Nat → Nat) (vs : Nat → Value) (n : Nat) (hn : n < 16) : (bk d f vs)[1 + n]? = some (.int .u32 ((f n : Nat) : Int)) := by
  unfold bk
  rw [Nat.add_comm, List.getElem?_cons_succ, List.getElem?_append_left (by rw [fc_length]; exact hn), fc_at f n hn]
theorem bk_s (d : Nat) (f : Nat → Nat) (vs : Nat → Value) (n : Nat) (hn : n < 16) : (bk d f vs)[17 + n]? = some (vs n) := by
  unfold bk
  rw [show 17 + n = (16 + n) + 1 by omega, List.getElem?_cons_succ, List.getElem?_append_right (by rw [fc_length]; omega), fc_length, show 16 + n - 16 = n by omega]
  simp [hn]
theorem bk_set0 (d e : Nat) (f : Nat → Nat) (vs : Nat → Value) : (bk d f vs).set 0 (.int .i64 (e : Int)) = bk e f vs := rfl
theorem bk_setS (d : Nat) (f : Nat → Nat) (vs : Nat → Value) (n : Nat) (hn : n < 16) (v : Value) : (bk d f vs).set (17 + n) v = bk d f (fun m => if m = n then v else vs m) := by
  unfold bk
  rw [show 17 + n = (16 + n) + 1 by omega, List.set_cons_succ, List.set_append_right _ _ (by rw [fc_length]; omega), fc_length, show 16 + n - 16 = n by omega]
  congr 2
  apply List.ext_getElem (by simp)
  intro i h1 h2
  simp only [List.getElem_set, List.getElem_map, List.getElem_range]
  by_cases h : n = i
  · rw [if_pos h, if_pos h.symm]
  · rw [if_neg h, if_neg (fun e => h e.symm)]
theorem wpList_wanted {P : Program} {ops : Array Oper} {rest : List Oper} {o : Oper} {a : Act} {w : World} {Q : Exit → Act → World → Prop} (hg : Region.wanted o (yielded ops a.tmps) = true)
    (h : ∀ K : Act → World → Prop, (∀ a w, wpList P ops Q rest a w → K a w) → o.wp P a w K Q) : wpList P ops Q (o :: rest) a w :=
  wpList_step fun K hK => by rw [hg]; simp only [if_true]; exact h K hK
theorem wpList_load_rowG {P : Program} {ops : Array Oper} {rest : List Oper} {o : Oper} {a : Act} {w : World} {Q : Exit → Act → World → Prop} (hgd : Region.wanted o (yielded ops a.tmps) = true) (ty : TypeId) (x : Operand) (ho : o.op = .load ty x)
    (g : Nat) (hx : a.eval x = .pointer (some ⟨g, 0, none⟩)) (t : TypeId) (cs : Array Value) (fr : Nat × Nat) (d : TypeDesc) (hg : w.heap[g]? = some (.cells cs t fr))
    (hu : P.underlying ty = some d) (hd : (match d with | .struct _ | .array _ _ => true | _ => false) = true) (hi : (P.info? ty).map (·.size) = some cs.size)
    (h : wpList P ops Q rest (a.put o.dst (.agg cs)) w) : wpList P ops Q (o :: rest) a w :=
  wpList_wanted hgd fun _ hK => wp_load_row ty x ho g hx t cs fr d hg hu hd hi (hK _ _ h)
theorem step_appI {ops : Array Oper} {o : Oper} {a : Act} {w : World} {K : Act → World → Prop} {Q : Exit → Act → World → Prop} {E : Prop} (hgd : o.guard = none) (d x : Operand)
    (ho : o.op = .call { callee := .builtin .append, args := #[d, x], argTypes := #[22, 22] }) (base : Nat) (v src : Value) (n m : Nat) (l ys : List Value) (hd : a.eval d = v) (hx : a.eval x = src) (hone : ∀ y ∈ ys, y.oneCell' = true)
    (hown : w.ownsRow base 3 1 v n l) (hsrc : SlK 1 w src m ys) (hbase : base ≤ w.heap.size) (hsz : n + m ≤ 1099511627776)
    (h : ∀ v' w', w'.ownsRow base 3 1 v' (n + m) (l ++ ys) → w.grownBy w' v.ownBlock → (v'.ownBlock = v.ownBlock ∨ v'.ownBlock = some w.heap.size) → K (a.put o.dst v') w') :
    if Region.wanted o (yielded ops a.tmps) = true then Oper.wp Try.prog o a w K Q else E := by
  have hw : Region.wanted o (yielded ops a.tmps) = true := by simp [Region.wanted, hgd]
  rw [if_pos hw]
  obtain ⟨i0, hi, hz0, hz1, hz2⟩ := info_parts info3
  obtain ⟨v', w', hrun, h1, h2, h3⟩ := run_appK 22 3 i0 (.int .i64 0) 1 8 Try.underlying22 hi hz0 hz1 hz2 rfl (by decide) (by decide) o.type hone hown hsrc hbase hsz
  unfold Oper.wp
  simp only [execOp, ho, resolve, invoke, builtin, hd, hx, hrun, Result.andThen, List.map_toArray, List.map_cons, List.map_nil, Sem.run_bind, Sem.run_pure]
  exact h v' w' h1 h2 h3
theorem SlK_lit (w : World) (x : Int) : SlK 1 (w.alloc (.cells #[.int .i64 x] 3)).drew (.slice (some ⟨w.heap.size, 0, none⟩) 1 1) 1 [.int .i64 x] := by
  refine ⟨rfl, .inl ⟨w.heap.size, 0, 1, rfl, Nat.le_refl _, fun i v hi => ?_⟩⟩
  rw [Nat.zero_add]
  exact (cell_of_row _ _ _ _ _ _ (heap_alloc_new w _)).trans (by simpa using hi)
theorem one_int (x : Int) : ∀ y ∈ [Value.int .i64 x], y.oneCell' = true := by
  intro y hy; simp at hy; subst hy; rfl
/-- A book under way: its cells; for each length a row of its own. -/
structure NR (w wr : World) (g : Nat) (f : Nat → Nat) (d : Nat) (vs : Nat → Value) (L : Nat → List Int) : Prop where
  below : Below w.heap.size w wr
  row : wr.heap[g]? = some (.cells (bk d f vs).toArray 83 (0, 0))
  own : ∀ n, n < 16 → wr.ownsRow w.heap.size 3 1 (vs n) (L n).length (ni (L n))
  apart : ∀ n m, n < 16 → m < 16 → n ≠ m → (vs n).ownBlock = none ∨ (vs n).ownBlock ≠ (vs m).ownBlock
  le : w.heap.size ≤ g
theorem own_ne {base : Nat} {w : World} {v : Value} {n : Nat} {l : List Value} {g : Nat} {cs : Array Value} (h : w.ownsRow base 3 1 v n l) (hg : w.heap[g]? = some (.cells cs 83 (0, 0))) : v.ownBlock ≠ some g := by
  obtain ⟨h0, ⟨h1, h2⟩ | ⟨g', cap, cur, h1, h2, h3, h4⟩⟩ := h
  · rw [h1]; intro e; cases e
  · rw [h1]
    intro e
    simp [Value.ownBlock] at e
    subst e
    rw [hg] at h3
    simp at h3
theorem NR.c {w wr : World} {g : Nat} {f : Nat → Nat} {d : Nat} {vs : Nat → Value} {L : Nat → List Int} (h : NR w wr g f d vs L) {i : Nat} {v : Value} (hv : (bk d f vs)[i]? = some v) : wr.cell? ⟨g, i, none⟩ = some v := by
  rw [cell_of_row _ _ _ _ _ _ h.row]; simpa using hv
theorem NR.free {w wr : World} {g : Nat} {f : Nat → Nat} {d : Nat} {vs : Nat → Value} {L : Nat → List Int} (h : NR w wr g f d vs L) (i : Nat) : wr.frozen? ⟨g, i, none⟩ = false := frozen_of_row _ _ _ _ _ h.row
theorem NR.setd {w wr : World} {g : Nat} {f : Nat → Nat} {d : Nat} {vs : Nat → Value} {L : Nat → List Int} (h : NR w wr g f d vs L) (e : Nat) : NR w (wr.setCell ⟨g, 0, none⟩ (.int .i64 (e : Int))) g f e vs L :=
  ⟨h.below.setCell h.le _, by rw [heap_setCell_same _ _ _ _ _ _ h.row, ← bk_set0 d e]; simp, fun n hn => own_stays (h.own n hn) (fun k hk => heap_setCell_other _ _ _ _ (fun e => own_ne (h.own n hn) h.row (by rw [hk, e]))), h.apart, h.le⟩
theorem NR.app {w wr wa w2 : World} {g : Nat} {f : Nat → Nat} {d : Nat} {vs : Nat → Value} {L : Nat → List Int} (h : NR w wr g f d vs L) (n : Nat) (hn : n < 16) (x : Int) (v' : Value) (hwa : Below wr.heap.size wr wa)
    (hown : w2.ownsRow w.heap.size 3 1 v' ((L n).length + 1) (ni (L n) ++ [.int .i64 x])) (hgrow : wa.grownBy w2 (vs n).ownBlock) (hat : v'.ownBlock = (vs n).ownBlock ∨ v'.ownBlock = some wa.heap.size) :
    w2.cell? ⟨g, 17 + n, none⟩ = some (vs n) ∧ w2.frozen? ⟨g, 17 + n, none⟩ = false ∧ NR w (w2.setCell ⟨g, 17 + n, none⟩ v') g f d (fun m => if m = n then v' else vs m) (fun m => if m = n then L n ++ [x] else L m) := by
  have hgl : g < wr.heap.size := (Array.getElem?_eq_some_iff.1 h.row).1
  have hrow : w2.heap[g]? = some (.cells (bk d f vs).toArray 83 (0, 0)) := by
    rw [hgrow.block g (Nat.lt_of_lt_of_le hgl hwa.size) (fun e => own_ne (h.own n hn) h.row e.symm), hwa.block g hgl]; exact h.row
  have hbl : Below w.heap.size w w2 := (h.below.trans (hwa.mono h.below.size)).grown hgrow (Nat.le_trans h.below.size hwa.size) (fun k hk => ((h.own n hn).lt k hk).1)
  refine ⟨by rw [cell_of_row _ _ _ _ _ _ hrow]; simpa using bk_s d f vs n hn, frozen_of_row _ _ _ _ _ hrow, hbl.setCell h.le _, ?_, ?_, ?_, h.le⟩
  · rw [heap_setCell_same _ _ _ _ _ _ hrow, ← bk_setS d f vs n hn]; simp
  · intro m hm
    by_cases e : m = n
    · subst e
      rw [if_pos rfl, if_pos rfl, ni_append, List.length_append]
      refine own_stays hown fun k hk => heap_setCell_other _ _ _ _ (fun e => own_ne hown hrow (by rw [hk, e]))
    · rw [if_neg e, if_neg e]
      have h0 := h.own m hm
      refine own_stays h0 fun k hk => ?_
      rw [heap_setCell_other _ _ _ _ (fun e => own_ne h0 h.row (by rw [hk, e]))]
      have hkl := (h0.lt k hk).2
      rw [hgrow.block k (Nat.lt_of_lt_of_le hkl hwa.size) (fun e2 => by
        rcases h.apart m n hm hn e with h1 | h1
        · rw [h1] at hk; cases hk
        · exact h1 (by rw [hk, e2])), hwa.block k hkl]
  · intro a b ha hb hab
    have key : ∀ c, c < 16 → c ≠ n → (vs c).ownBlock = none ∨ ((vs c).ownBlock ≠ v'.ownBlock) := fun c hc hcn => by
      rcases hat with h1 | h1
      · rw [h1]; exact h.apart c n hc hn hcn
      · rcases hc' : (vs c).ownBlock with _ | k
        · exact .inl rfl
        · refine .inr ?_
          rw [h1]
          intro e
          cases e
          have := ((h.own c hc).lt _ hc').2
          have := hwa.size
          omega
    show (if a = n then v' else vs a).ownBlock = none ∨ (if a = n then v' else vs a).ownBlock ≠ (if b = n then v' else vs b).ownBlock
    by_cases e1 : a = n
    · rw [if_pos e1, if_neg (by omega)]
      rcases key b hb (by omega) with h1 | h1
      · rcases hv : v'.ownBlock with _ | k
        · exact .inl rfl
        · exact .inr (by rw [h1]; exact fun e => by cases e)
      · exact .inr (fun e => h1 e.symm)
    · rw [if_neg e1]
      by_cases e2 : b = n
      · rw [if_pos e2]; exact key a ha e1
      · rw [if_neg e2]; exact h.apart a b ha hb hab
/-- What a book holds behind k symbols. -/
def LK (zs : List Int) (k n : Nat) : List Int := if n = 0 then [] else (placesTo zs n k).map fun (i : Nat) => (i : Int)
def dk (zs : List Int) (k : Nat) : Nat := ((zs.take k).foldl max 1).toNat
theorem LK_zero (zs : List Int) : LK zs 0 = fun _ => [] := by funext n; unfold LK; split <;> simp [placesTo]
theorem LK_step (zs : List Int) (k n : Nat) (hn : 0 < n) (hz : zs.getD k 0 = (n : Int)) : LK zs (k + 1) = fun m => if m = n then LK zs k n ++ [(k : Int)] else LK zs k m := by
  funext m
  unfold LK
  by_cases e : m = n
  · subst e
    rw [if_pos rfl, if_neg (by omega), if_neg (by omega), placesTo_succ, if_pos hz]; simp
  · rw [if_neg e]
    by_cases h0 : m = 0
    · rw [if_pos h0, if_pos h0]
    · rw [if_neg h0, if_neg h0, placesTo_succ, if_neg (by omega)]; simp
theorem LK_keep (zs : List Int) (k : Nat) (hz : zs.getD k 0 = 0) : LK zs (k + 1) = LK zs k := by
  funext m
  unfold LK
  by_cases h0 : m = 0
  · rw [if_pos h0, if_pos h0]
  · rw [if_neg h0, if_neg h0, placesTo_succ, if_neg (by omega)]; simp
theorem dk_step (zs : List Int) (k : Nat) (hk : k < zs.length) (n : Nat) (hz : zs.getD k 0 = (n : Int)) : dk zs (k + 1) = max (dk zs k) n := by
  have e : zs[k] = (n : Int) := by rw [← hz]; simp [hk]
  unfold dk
  rw [List.take_add_one, List.getElem?_eq_getElem hk, Option.toList_some, List.foldl_append]
  simp only [List.foldl_cons, List.foldl_nil, e]
  omega
theorem dk_pos (zs : List Int) (k : Nat) (hk : k ≤ zs.length) (hg : good zs) : 1 ≤ dk zs k ∧ dk zs k ≤ 15 := by
  induction k with
  | zero => simp [dk]
  | succ k ih =>
    have h := hg.2 zs[k] (List.getElem_mem (by omega))
    have e : zs.getD k 0 = zs[k] := by simp [show k < zs.length by omega]
    obtain ⟨n, hn⟩ : ∃ n : Nat, zs[k] = (n : Int) := ⟨zs[k].toNat, by omega⟩
    rw [dk_step zs k (by omega) n (by rw [e, hn])]
    have := ih (by omega)
    omega
theorem dk_all (zs : List Int) : dk zs zs.length = deep zs := by unfold dk deep; rw [List.take_length]
theorem NR.book {w wr : World} {g : Nat} {zs : List Int} {vs : Nat → Value} (h : NR w wr g (F zs) (deep zs) vs (LK zs zs.length)) : BookAt wr w.heap.size wr.heap.size g zs :=
  ⟨h.c (bk_0 _ _ _), fun n hn => h.c (bk_f _ _ _ n hn), fun n h0 hn => ⟨vs n, h.c (bk_s _ _ _ n hn), by
      have := own_toV (h.own n hn)
      unfold LK at this
      rw [if_neg (by omega), placesTo_all] at this
      exact this, fun p m cap e h0 => by
      have h1 := h.own n hn
      obtain ⟨h2, ⟨h3, h4⟩ | ⟨g', cap', cur, h3, h4, h5, h6⟩⟩ := h1
      · rw [h3] at e; cases e
      · rw [h3] at e; cases e
        exact ⟨h4, (Array.getElem?_eq_some_iff.1 h5).1⟩⟩, h.le, (Array.getElem?_eq_some_iff.1 h.row).1⟩
theorem bk_built (f : Nat → Nat) : (List.foldl (fun (cs : Array Value) (x : Value × Nat) => cs.setIfInBounds (1 + x.snd) x.fst)
      #[.int .i64 1, .int .u32 0, .int .u32 0, .int .u32 0, .int .u32 0, .int .u32 0, .int .u32 0, .int .u32 0, .int .u32 0, .int .u32 0, .int .u32 0, .int .u32 0, .int .u32 0, .int .u32 0, .int .u32 0, .int .u32 0, .int .u32 0,
        .slice none 0 0, .slice none 0 0, .slice none 0 0, .slice none 0 0, .slice none 0 0, .slice none 0 0, .slice none 0 0, .slice none 0 0, .slice none 0 0, .slice none 0 0, .slice none 0 0, .slice none 0 0, .slice none 0 0, .slice none 0 0, .slice none 0 0, .slice none 0 0]
      (fc f).zipIdx) = (bk 1 f fun _ => .slice none 0 0).toArray := by
  kernel_rfl
theorem NR.start {w w4 : World} (hb : Below w.heap.size w w4) (f : Nat → Nat) : NR w (w4.alloc (.cells (bk 1 f fun _ => .slice none 0 0).toArray 83)) w4.heap.size f 1 (fun _ => .slice none 0 0) (fun _ => []) :=
  ⟨hb.alloc hb.size _, heap_alloc_new _ _, fun _ _ => World.ownsRow_nil _ _ _ _, fun _ _ _ _ _ => .inl rfl, hb.size⟩
def NLoop (w : World) (g : Nat) (zs : List Int) (v : Value) (wr : World) : Prop := ∃ k vs, k ≤ zs.length ∧ v = .int .i64 ((k : Nat) : Int) ∧ NR w wr g (F zs) (dk zs k) vs (LK zs k)
def NewPost (zs : List Int) (w : World) (e : Ending) (w' : World) : Prop :=
  Below w.heap.size w w' ∧ (may zs = 0 → ∃ g, e = .returned (.tuple #[.pointer (some ⟨g, 0, none⟩), .int .i64 0]) ∧ BookAt w' w.heap.size w'.heap.size g zs) ∧ (may zs ≠ 0 → e = .returned (.tuple #[.pointer none, .int .i64 (may zs)]))
set_option maxRecDepth 100000 in
set_option maxHeartbeats 1000000 in
theorem New_bad (w : World) (v : Value) (zs : List Int) (hv : SlV w v (ni zs)) (hg : ¬ good zs) : Calls Try.prog 19 #[v] w (NewPost zs w) := by
  obtain ⟨p, cap, rfl⟩ := hv.shape
  rw [ni_length] at *
  obtain ⟨l, hl⟩ : ∃ l, l = zs.length := ⟨_, rfl⟩
  rw [← hl] at hv ⊢
  have HN := Lib.hid hl
  clear hl
  have HV := Lib.hid hv
  clear hv
  go_enter Try.func19, Try.ntmps19
  go_wp2_with fail
  refine (tallied_walk w _ zs HV.out).mono ?_
  rintro e w1 ⟨rfl, hb⟩
  have HB := Lib.hid hb
  clear hb
  rw [if_neg hg]
  have HP : Hid (may zs = 1) := Lib.hid (by unfold may; rw [if_neg hg])
  clear hg
  have H0 := Lib.hid (heap_alloc_new w1 (.cells (tl []).toArray 74))
  have HI := Lib.hid (info74 [])
  have HO := Lib.hid (tl_one [])
  have HB2 := Lib.hid (HB.out.alloc HB.out.size (.cells (tl []).toArray 74))
  go_wp2_with (refine wpList_store_row rfl 74 _ _ rfl w1.heap.size (tl []).toArray rfl rfl 74 _ H0.out HI.out rfl HO.out ?_; rw [← tl0, world_setRow_new])
  go_ret2
  refine ⟨HB2.out, ?_, ?_⟩
  · intro h; rw [HP.out] at h; cases h
  · intro _; rw [HP.out]; rfl
set_option maxRecDepth 100000 in
set_option maxHeartbeats 1000000 in
theorem New_no (w : World) (v : Value) (zs : List Int) (hv : SlV w v (ni zs)) (hg : good zs) (hs : st zs ≠ 0) (hlo : Hf.lone zs = false) : Calls Try.prog 19 #[v] w (NewPost zs w) := by
  obtain ⟨p, cap, rfl⟩ := hv.shape
  rw [ni_length] at *
  obtain ⟨l, hl⟩ : ∃ l, l = zs.length := ⟨_, rfl⟩
  rw [← hl] at hv ⊢
  have HN := Lib.hid hl
  clear hl
  have HV := Lib.hid hv
  clear hv
  go_enter Try.func19, Try.ntmps19
  go_wp2_with fail
  refine (tallied_walk w _ zs HV.out).mono ?_
  rintro e w1 ⟨rfl, hb⟩
  have HB := Lib.hid hb
  clear hb
  rw [if_pos hg]
  have HG := Lib.hid hg
  clear hg
  have H0 := Lib.hid (heap_alloc_new w1 (.cells (tl []).toArray 74))
  have HI := Lib.hid (info74 zs)
  have HO := Lib.hid (tl_one zs)
  have HZ := Lib.hid (tl_size zs)
  have HT := Lib.hid (tat_new w1 zs)
  have HRow := Lib.hid (heap_alloc_new w1 (.cells (tl zs).toArray 74))
  have HB2 := Lib.hid (HB.out.alloc HB.out.size (.cells (tl zs).toArray 74))
  go_wp2_with (refine wpList_store_row rfl 74 _ _ rfl w1.heap.size (tl zs).toArray rfl rfl 74 _ H0.out HI.out HZ.out HO.out ?_; rw [← tl0, world_setRow_new])
  have hl1 : w1.heap.size < (w1.alloc (.cells (tl zs).toArray 74)).heap.size := by simp
  have hle1 : w.heap.size ≤ w1.heap.size := HB.out.size
  generalize hw2 : w1.alloc (.cells (tl zs).toArray 74) = w2 at *
  clear hw2 HO HZ HB H0
  refine (state_walk _ _ zs HT.out HG.out.1).mono ?_
  rintro e w3 ⟨rfl, rfl⟩
  obtain ⟨stz, hst⟩ : ∃ s, s = st zs := ⟨_, rfl⟩
  rw [← hst] at hs ⊢
  have HST := Lib.hid hst
  clear hst
  have hN : l ≤ 1024 := by have := HN.out; have := HG.out.1; omega
  have hs' : (stz != 0) = true := by simpa using hs
  go_wp2_with (refine wpList_load_rowG rfl 74 _ rfl w1.heap.size rfl 74 (tl zs).toArray (0, 0) _ HRow.out Try.underlying74 rfl HI.out ?_)
  refine (oneOrNone_walk w2 zs l HN.out HG.out.1).mono ?_
  rintro e w3 ⟨rfl, hb⟩
  have HB3 := Lib.hid (HB2.out.trans (hb.mono HB2.out.size))
  have HT2 : Hid (TAt w3 w1.heap.size zs) := Lib.hid (fun n hn => by rw [hb.cell (p := ⟨w1.heap.size, n, none⟩) hl1]; exact HT.out n hn)
  have hl2 : w1.heap.size < w3.heap.size := Nat.lt_of_lt_of_le hl1 hb.size
  clear hb
  rw [hlo]
  have HP : Hid (may zs = 20) := Lib.hid (by unfold may; rw [if_pos HG.out, if_neg (by rw [hlo, ← HST.out]; simp; exact hs)])
  clear hlo
  go_wp2_with fail
  go_ret2
  refine ⟨HB3.out, ?_, ?_⟩
  · intro h; rw [HP.out] at h; cases h
  · intro _; rw [HP.out]; rfl
set_option maxRecDepth 100000 in
set_option maxHeartbeats 1000000 in
theorem New_full (w : World) (v : Value) (zs : List Int) (hv : SlV w v (ni zs)) (hg : good zs) (hs : st zs = 0) : Calls Try.prog 19 #[v] w (NewPost zs w) := by
  obtain ⟨p, cap, rfl⟩ := hv.shape
  rw [ni_length] at *
  obtain ⟨l, hl⟩ : ∃ l, l = zs.length := ⟨_, rfl⟩
  rw [← hl] at hv ⊢
  have HN := Lib.hid hl
  clear hl
  have HV := Lib.hid hv
  clear hv
  go_enter Try.func19, Try.ntmps19
  go_wp2_with fail
  refine (tallied_walk w _ zs HV.out).mono ?_
  rintro e w1 ⟨rfl, hb⟩
  have HB := Lib.hid hb
  clear hb
  rw [if_pos hg]
  have HG := Lib.hid hg
  clear hg
  have H0 := Lib.hid (heap_alloc_new w1 (.cells (tl []).toArray 74))
  have HI := Lib.hid (info74 zs)
  have HO := Lib.hid (tl_one zs)
  have HZ := Lib.hid (tl_size zs)
  have HT := Lib.hid (tat_new w1 zs)
  have HRow := Lib.hid (heap_alloc_new w1 (.cells (tl zs).toArray 74))
  have HB2 := Lib.hid (HB.out.alloc HB.out.size (.cells (tl zs).toArray 74))
  go_wp2_with (refine wpList_store_row rfl 74 _ _ rfl w1.heap.size (tl zs).toArray rfl rfl 74 _ H0.out HI.out HZ.out HO.out ?_; rw [← tl0, world_setRow_new])
  have hl1 : w1.heap.size < (w1.alloc (.cells (tl zs).toArray 74)).heap.size := by simp
  have hle1 : w.heap.size ≤ w1.heap.size := HB.out.size
  generalize hw2 : w1.alloc (.cells (tl zs).toArray 74) = w2 at *
  clear hw2 HO HZ HB H0
  refine (state_walk _ _ zs HT.out HG.out.1).mono ?_
  rintro e w3 ⟨rfl, rfl⟩
  obtain ⟨stz, hst⟩ : ∃ s, s = st zs := ⟨_, rfl⟩
  rw [← hst] at hs ⊢
  have HST := Lib.hid hst
  clear hst
  have hN : l ≤ 1024 := by have := HN.out; have := HG.out.1; omega
  subst hs
  have HP : Hid (may zs = 0) := Lib.hid (by unfold may; rw [if_pos HG.out, if_pos (.inl HST.out.symm)])
  have HT2 := Lib.hid HT.out
  have HB3 := Lib.hid HB2.out
  have hl2 := hl1
  go_wp2_with (refine wpList_load_row rfl 74 _ rfl w1.heap.size rfl 74 (tl zs).toArray (0, 0) _ HRow.out Try.underlying74 rfl HI.out ?_)
  refine (firsts_walk _ _ zs HT2.out hl2 HG.out.1).mono ?_
  rintro e w4 ⟨rfl, hb⟩
  have HB4 := Lib.hid (HB3.out.trans (hb.mono HB3.out.size))
  clear hb HB3 HT2 hl2
  have hfl : (fc (F zs)).length = 16 := fc_length _
  have HST4 := Lib.hid (NR.start HB4.out (F zs))
  go_wp2_with fail
  rw [bk_built]
  generalize w4.alloc (.cells (bk 1 (F zs) fun _ => .slice none 0 0).toArray 83) = w5 at *
  go_loopw [7, 8, 31] (fun _ _ v wr => NLoop w w4.heap.size zs v wr) (fun _ _ v _ => l - (intOf v).toNat)
  case atStart => exact ⟨0, _, Nat.zero_le _, rfl, by rw [LK_zero]; exact HST4.out⟩
  case round =>
    clear HST4
    obtain ⟨k, vs, hk, rfl, hR⟩ := hrel
    have HR := Lib.hid hR
    clear hR
    generalize w4.heap.size = g at *
    by_cases hlt : k < l
    · have hlti : (k : Int) < (l : Int) := by omega
      obtain ⟨gz, o, rfl, hrow⟩ := HV.out.some (by omega)
      have hcap := HV.out.le
      have hc := (hrow.below HR.out.below (hrow.lt (by rw [ni_length, ← HN.out]; omega))).ni k (by rw [← HN.out]; omega)
      clear hrow
      have hkz : k < zs.length := by have := HN.out; omega
      have hgz : 0 ≤ zs.getD k 0 ∧ zs.getD k 0 ≤ 15 := by
        have e : zs.getD k 0 = zs[k] := by simp [hkz]
        rw [e]; exact HG.out.2 _ (List.getElem_mem hkz)
      obtain ⟨n, hn⟩ : ∃ n : Nat, zs.getD k 0 = (n : Int) := ⟨(zs.getD k 0).toNat, by omega⟩
      rw [hn] at hc hgz
      have HZ := Lib.hid hn
      have HD := Lib.hid (dk_step zs k hkz n hn)
      clear hn
      by_cases hn0 : n = 0
      · subst hn0
        have HR2 : Hid (NR w wr g (F zs) (dk zs (k + 1)) vs (LK zs (k + 1))) := Lib.hid (by rw [LK_keep zs k HZ.out, HD.out, Nat.max_zero]; exact HR.out)
        clear HR
        go_wp2_with fail
        exact ⟨⟨k + 1, vs, by omega, by go_num, HR2.out⟩, by simp [intOf]; omega⟩
      · have hni : (0 : Int) < (n : Int) := by omega
        have hni2 : (n : Int) < 16 := by omega
        have hc1 := HR.out.c (bk_0 _ _ _)
        have hf1 := HR.out.free 0
        have HR1 := Lib.hid (HR.out.setd (max (dk zs k) n))
        have hmx : max ((dk zs k : Nat) : Int) (n : Int) = ((max (dk zs k) n : Nat) : Int) := by omega
        have HLK := Lib.hid (LK_step zs k n (by omega) HZ.out)
        generalize dk zs k = d at *
        have HLL : Hid ((LK zs k n).length ≤ 1024) := Lib.hid (by
          have := HG.out.1
          unfold LK
          split
          · simp
          · rw [List.length_map, placesTo_length zs n k (by omega) (by omega)]
            have := ct_le (zs.take k) n
            rw [List.length_take] at this
            omega)
        go_wp2_with fail
        generalize wr.setCell ⟨g, 0, none⟩ (.int .i64 ((max d n : Nat) : Int)) = wr2 at *
        clear hc1 hf1 hmx HR
        have hc2 := HR1.out.c (bk_s (max d n) (F zs) vs n (by omega))
        obtain ⟨p2, cap2, hsh⟩ := (own_toV (HR1.out.own n (by omega))).shape
        rw [ni_length] at hsh
        have HO := Lib.hid (HR1.out.own n (by omega))
        have HSH := Lib.hid hsh
        rw [hsh] at hc2 HO
        clear hsh
        obtain ⟨m, hm⟩ : ∃ m, m = (LK zs k n).length := ⟨_, rfl⟩
        rw [← hm] at hc2 HO HSH HLL
        have HM := Lib.hid hm
        clear hm
        have HWA : Hid (Below wr2.heap.size wr2 (wr2.alloc (.cells #[.int .i64 (k : Int)] 3)).drew) := Lib.hid (((Below.refl _ _).alloc (Nat.le_refl _) _).trans ⟨rfl, rfl, rfl, Nat.le_refl _, fun _ _ => rfl⟩)
        have hc3 : (wr2.alloc (.cells #[.int .i64 (k : Int)] 3)).cell? ⟨g, 17 + n, none⟩ = some (.slice p2 m cap2) := (((Below.refl wr2.heap.size wr2).alloc (Nat.le_refl _) _).cell (p := ⟨g, 17 + n, none⟩) (block_lt_of_cell hc2)).trans hc2
        go_region_law (refine step_appI rfl (.tmp 54) (.tmp 56) rfl w.heap.size (.slice p2 m cap2) (.slice (some ⟨wr2.heap.size, 0, none⟩) 1 1) m 1 _ [.int .i64 (k : Int)] rfl rfl (one_int _) (HO.out.alloc _).drew (SlK_lit wr2 k) (Nat.le_trans HR1.out.below.size (by simp)) (by have := HLL.out; omega) ?_; intro v' w6 hown hgrow hat; obtain ⟨e1, f1, hT3⟩ := HR1.out.app n (by omega) k v' HWA.out (by rw [← HM.out]; exact hown) (by rw [HSH.out]; exact hgrow) (by rw [HSH.out]; exact hat); obtain ⟨p3, cap3, hv'⟩ := (own_toV hown).shape; have HT3 := Lib.hid hT3; clear hT3 hown hgrow hat; subst hv'; generalize (ni (LK zs k n) ++ [Value.int .i64 (k : Int)]).length = nl at *)
        all_goals go_wp2_with fail
        all_goals exact ⟨⟨k + 1, _, by have := HN.out; omega, by go_num, by rw [HLK.out, HD.out]; exact HT3.out⟩, by simp [intOf]; omega⟩
    · have hlti : (l : Int) ≤ (k : Int) := by omega
      obtain rfl : k = l := by have := HN.out; omega
      have HE := HR.out
      rw [HN.out, dk_all] at HE
      have HBK := Lib.hid HE.book
      clear HE
      go_wp2_with fail
      go_ret2
      refine ⟨HR.out.below, ?_, ?_⟩
      · intro _; exact ⟨g, rfl, HBK.out⟩
      · intro h; exact absurd HP.out h
set_option maxRecDepth 100000 in
set_option maxHeartbeats 1000000 in
theorem New_lone (w : World) (v : Value) (zs : List Int) (hv : SlV w v (ni zs)) (hg : good zs) (hs : st zs ≠ 0) (hlo : Hf.lone zs = true) : Calls Try.prog 19 #[v] w (NewPost zs w) := by
  obtain ⟨p, cap, rfl⟩ := hv.shape
  rw [ni_length] at *
  obtain ⟨l, hl⟩ : ∃ l, l = zs.length := ⟨_, rfl⟩
  rw [← hl] at hv ⊢
  have HN := Lib.hid hl
  clear hl
  have HV := Lib.hid hv
  clear hv
  go_enter Try.func19, Try.ntmps19
  go_wp2_with fail
  refine (tallied_walk w _ zs HV.out).mono ?_
  rintro e w1 ⟨rfl, hb⟩
  have HB := Lib.hid hb
  clear hb
  rw [if_pos hg]
  have HG := Lib.hid hg
  clear hg
  have H0 := Lib.hid (heap_alloc_new w1 (.cells (tl []).toArray 74))
  have HI := Lib.hid (info74 zs)
  have HO := Lib.hid (tl_one zs)
  have HZ := Lib.hid (tl_size zs)
  have HT := Lib.hid (tat_new w1 zs)
  have HRow := Lib.hid (heap_alloc_new w1 (.cells (tl zs).toArray 74))
  have HB2 := Lib.hid (HB.out.alloc HB.out.size (.cells (tl zs).toArray 74))
  go_wp2_with (refine wpList_store_row rfl 74 _ _ rfl w1.heap.size (tl zs).toArray rfl rfl 74 _ H0.out HI.out HZ.out HO.out ?_; rw [← tl0, world_setRow_new])
  have hl1 : w1.heap.size < (w1.alloc (.cells (tl zs).toArray 74)).heap.size := by simp
  have hle1 : w.heap.size ≤ w1.heap.size := HB.out.size
  generalize hw2 : w1.alloc (.cells (tl zs).toArray 74) = w2 at *
  clear hw2 HO HZ HB H0
  refine (state_walk _ _ zs HT.out HG.out.1).mono ?_
  rintro e w3 ⟨rfl, rfl⟩
  obtain ⟨stz, hst⟩ : ∃ s, s = st zs := ⟨_, rfl⟩
  rw [← hst] at hs ⊢
  have HST := Lib.hid hst
  clear hst
  have hN : l ≤ 1024 := by have := HN.out; have := HG.out.1; omega
  have hs' : (stz != 0) = true := by simpa using hs
  go_wp2_with (refine wpList_load_rowG rfl 74 _ rfl w1.heap.size rfl 74 (tl zs).toArray (0, 0) _ HRow.out Try.underlying74 rfl HI.out ?_)
  refine (oneOrNone_walk w2 zs l HN.out HG.out.1).mono ?_
  rintro e w3 ⟨rfl, hb⟩
  have HB3 := Lib.hid (HB2.out.trans (hb.mono HB2.out.size))
  have HT2 : Hid (TAt w3 w1.heap.size zs) := Lib.hid (fun n hn => by rw [hb.cell (p := ⟨w1.heap.size, n, none⟩) hl1]; exact HT.out n hn)
  have hl2 : w1.heap.size < w3.heap.size := Nat.lt_of_lt_of_le hl1 hb.size
  clear hb
  rw [hlo]
  have HP : Hid (may zs = 0) := Lib.hid (by unfold may; rw [if_pos HG.out, if_pos (.inr hlo)])
  clear hlo
  go_wp2_with fail
  refine (firsts_walk _ _ zs HT2.out hl2 HG.out.1).mono ?_
  rintro e w4 ⟨rfl, hb⟩
  have HB4 := Lib.hid (HB3.out.trans (hb.mono HB3.out.size))
  clear hb HB3 HT2 hl2
  have hfl : (fc (F zs)).length = 16 := fc_length _
  have HST4 := Lib.hid (NR.start HB4.out (F zs))
  go_wp2_with fail
  rw [bk_built]
  generalize w4.alloc (.cells (bk 1 (F zs) fun _ => .slice none 0 0).toArray 83) = w5 at *
  go_loopw [7, 8, 31] (fun _ _ v wr => NLoop w w4.heap.size zs v wr) (fun _ _ v _ => l - (intOf v).toNat)
  case atStart => exact ⟨0, _, Nat.zero_le _, rfl, by rw [LK_zero]; exact HST4.out⟩
  case round =>
    clear HST4
    obtain ⟨k, vs, hk, rfl, hR⟩ := hrel
    have HR := Lib.hid hR
    clear hR
    generalize w4.heap.size = g at *
    by_cases hlt : k < l
    · have hlti : (k : Int) < (l : Int) := by omega
      obtain ⟨gz, o, rfl, hrow⟩ := HV.out.some (by omega)
      have hcap := HV.out.le
      have hc := (hrow.below HR.out.below (hrow.lt (by rw [ni_length, ← HN.out]; omega))).ni k (by rw [← HN.out]; omega)
      clear hrow
      have hkz : k < zs.length := by have := HN.out; omega
      have hgz : 0 ≤ zs.getD k 0 ∧ zs.getD k 0 ≤ 15 := by
        have e : zs.getD k 0 = zs[k] := by simp [hkz]
        rw [e]; exact HG.out.2 _ (List.getElem_mem hkz)
      obtain ⟨n, hn⟩ : ∃ n : Nat, zs.getD k 0 = (n : Int) := ⟨(zs.getD k 0).toNat, by omega⟩
      rw [hn] at hc hgz
      have HZ := Lib.hid hn
      have HD := Lib.hid (dk_step zs k hkz n hn)
      clear hn
      by_cases hn0 : n = 0
      · subst hn0
        have HR2 : Hid (NR w wr g (F zs) (dk zs (k + 1)) vs (LK zs (k + 1))) := Lib.hid (by rw [LK_keep zs k HZ.out, HD.out, Nat.max_zero]; exact HR.out)
        clear HR
        go_wp2_with fail
        exact ⟨⟨k + 1, vs, by omega, by go_num, HR2.out⟩, by simp [intOf]; omega⟩
      · have hni : (0 : Int) < (n : Int) := by omega
        have hni2 : (n : Int) < 16 := by omega
        have hc1 := HR.out.c (bk_0 _ _ _)
        have hf1 := HR.out.free 0
        have HR1 := Lib.hid (HR.out.setd (max (dk zs k) n))
        have hmx : max ((dk zs k : Nat) : Int) (n : Int) = ((max (dk zs k) n : Nat) : Int) := by omega
        have HLK := Lib.hid (LK_step zs k n (by omega) HZ.out)
        generalize dk zs k = d at *
        have HLL : Hid ((LK zs k n).length ≤ 1024) := Lib.hid (by
          have := HG.out.1
          unfold LK
          split
          · simp
          · rw [List.length_map, placesTo_length zs n k (by omega) (by omega)]
            have := ct_le (zs.take k) n
            rw [List.length_take] at this
            omega)
        go_wp2_with fail
        generalize wr.setCell ⟨g, 0, none⟩ (.int .i64 ((max d n : Nat) : Int)) = wr2 at *
        clear hc1 hf1 hmx HR
        have hc2 := HR1.out.c (bk_s (max d n) (F zs) vs n (by omega))
        obtain ⟨p2, cap2, hsh⟩ := (own_toV (HR1.out.own n (by omega))).shape
        rw [ni_length] at hsh
        have HO := Lib.hid (HR1.out.own n (by omega))
        have HSH := Lib.hid hsh
        rw [hsh] at hc2 HO
        clear hsh
        obtain ⟨m, hm⟩ : ∃ m, m = (LK zs k n).length := ⟨_, rfl⟩
        rw [← hm] at hc2 HO HSH HLL
        have HM := Lib.hid hm
        clear hm
        have HWA : Hid (Below wr2.heap.size wr2 (wr2.alloc (.cells #[.int .i64 (k : Int)] 3)).drew) := Lib.hid (((Below.refl _ _).alloc (Nat.le_refl _) _).trans ⟨rfl, rfl, rfl, Nat.le_refl _, fun _ _ => rfl⟩)
        have hc3 : (wr2.alloc (.cells #[.int .i64 (k : Int)] 3)).cell? ⟨g, 17 + n, none⟩ = some (.slice p2 m cap2) := (((Below.refl wr2.heap.size wr2).alloc (Nat.le_refl _) _).cell (p := ⟨g, 17 + n, none⟩) (block_lt_of_cell hc2)).trans hc2
        go_region_law (refine step_appI rfl (.tmp 54) (.tmp 56) rfl w.heap.size (.slice p2 m cap2) (.slice (some ⟨wr2.heap.size, 0, none⟩) 1 1) m 1 _ [.int .i64 (k : Int)] rfl rfl (one_int _) (HO.out.alloc _).drew (SlK_lit wr2 k) (Nat.le_trans HR1.out.below.size (by simp)) (by have := HLL.out; omega) ?_; intro v' w6 hown hgrow hat; obtain ⟨e1, f1, hT3⟩ := HR1.out.app n (by omega) k v' HWA.out (by rw [← HM.out]; exact hown) (by rw [HSH.out]; exact hgrow) (by rw [HSH.out]; exact hat); obtain ⟨p3, cap3, hv'⟩ := (own_toV hown).shape; have HT3 := Lib.hid hT3; clear hT3 hown hgrow hat; subst hv'; generalize (ni (LK zs k n) ++ [Value.int .i64 (k : Int)]).length = nl at *)
        all_goals go_wp2_with fail
        all_goals exact ⟨⟨k + 1, _, by have := HN.out; omega, by go_num, by rw [HLK.out, HD.out]; exact HT3.out⟩, by simp [intOf]; omega⟩
    · have hlti : (l : Int) ≤ (k : Int) := by omega
      obtain rfl : k = l := by have := HN.out; omega
      have HE := HR.out
      rw [HN.out, dk_all] at HE
      have HBK := Lib.hid HE.book
      clear HE
      go_wp2_with fail
      go_ret2
      refine ⟨HR.out.below, ?_, ?_⟩
      · intro _; exact ⟨g, rfl, HBK.out⟩
      · intro h; exact absurd HP.out h
theorem New_walk (w : World) (v : Value) (zs : List Int) (hv : SlV w v (ni zs)) : Calls Try.prog 19 #[v] w (NewPost zs w) := by
  by_cases hg : good zs
  · by_cases hs : st zs = 0
    · exact New_full w v zs hv hg hs
    · cases hlo : Hf.lone zs with
      | true => exact New_lone w v zs hv hg hs hlo
      | false => exact New_no w v zs hv hg hs hlo
  · exact New_bad w v zs hv hg
end Go.Proofs.Ytoifppfhnedahaa
