/-
  Merged, in the order in which they build: New RowKit Run Len.
-/
import Derived.Deep.RegionLaw
import Derived.Deep.LoopGhost
import Derived.Test.YtefeilgbofphjaaDoorMg4
import Derived.Test.YtefeilgbofphjaaDoorMg10
/-
  The contract of New.
-/
namespace Go.Proofs.YtefeilgbofphjaaDoor
open Go.RowKit Hf

/-- A book's cells: the most bits, first codes, a slice for each length. -/
def bk (d : Nat) (f : Nat → Nat) (vs : Nat → Value) : List Value := .int .i64 (d : Int) :: (fc f ++ (List.range 16).map vs)
theorem bk_length (d : Nat) (f : Nat → Nat) (vs : Nat → Value) : (bk d f vs).length = 33 := by simp [bk, fc_length]
theorem bk_0 (d : Nat) (f : Nat → Nat) (vs : Nat → Value) : (bk d f vs)[0]? = some (.int .i64 (d : Int)) := rfl
theorem bk_f (d : Nat) (f : Nat → Nat) (vs : Nat → Value) (n : Nat) (hn : n < 16) : (bk d f vs)[1 + n]? = some (.int .u32 ((f n : Nat) : Int)) := by
  unfold bk
  rw [Nat.add_comm, List.getElem?_cons_succ, List.getElem?_append_left (by rw [fc_length]; exact hn), fc_at f n hn]
theorem bk_s (d : Nat) (f : Nat → Nat) (vs : Nat → Value) (n : Nat) (hn : n < 16) : (bk d f vs)[17 + n]? = some (vs n) := by
  unfold bk
  rw [show 17 + n = (16 + n) + 1 by omega, List.getElem?_cons_succ, List.getElem?_append_right (by rw [fc_length]; omega), fc_length, show 16 + n - 16 = n by omega]
  simp [hn]
theorem bk_set0 (d e : Nat) (f : Nat → Nat) (vs : Nat → Value) : (bk d f vs).set 0 (.int .i64 (e : Int)) = bk e f vs := rfl
theorem bk_setS (d : Nat) (f : Nat → Nat) (vs : Nat → Value) (n : Nat) (hn : n < 16) (v : Value) : (bk d f vs).set (17 + n) v = bk d f (fun m => if m = n then v else vs m) := by
  unfold bk
  rw [show 17 + n = (16 + n) + 1 by omega, List.set_cons_succ, List.set_append_right _ _ (by rw [fc_length]; omega), fc_length, show 16 + n - 16 = n by omega]
  congr 2
  apply List.ext_getElem (by simp)
  intro i h1 h2
  simp only [List.getElem_set, List.getElem_map, List.getElem_range]
  by_cases h : n = i
  · rw [if_pos h, if_pos h.symm]
  · rw [if_neg h, if_neg (fun e => h e.symm)]
theorem wpList_wanted {P : Program} {ops : Array Oper} {rest : List Oper} {o : Oper} {a : Act} {w : World} {Q : Exit → Act → World → Prop} (hg : Region.wanted o (yielded ops a.tmps) = true)
    (h : ∀ K : Act → World → Prop, (∀ a w, wpList P ops Q rest a w → K a w) → o.wp P a w K Q) : wpList P ops Q (o :: rest) a w :=
  wpList_step fun K hK => by rw [hg]; simp only [if_true]; exact h K hK
theorem wpList_load_rowG {P : Program} {ops : Array Oper} {rest : List Oper} {o : Oper} {a : Act} {w : World} {Q : Exit → Act → World → Prop} (hgd : Region.wanted o (yielded ops a.tmps) = true) (ty : TypeId) (x : Operand) (ho : o.op = .load ty x)
    (g : Nat) (hx : a.eval x = .pointer (some ⟨g, 0, none⟩)) (t : TypeId) (cs : Array Value) (fr : Nat × Nat) (d : TypeDesc) (hg : w.heap[g]? = some (.cells cs t fr))
    (hu : P.underlying ty = some d) (hd : (match d with | .struct _ | .array _ _ => true | _ => false) = true) (hi : (P.info? ty).map (·.size) = some cs.size)
    (h : wpList P ops Q rest (a.put o.dst (.agg cs)) w) : wpList P ops Q (o :: rest) a w :=
  wpList_wanted hgd fun _ hK => wp_load_row ty x ho g hx t cs fr d hg hu hd hi (hK _ _ h)
theorem step_appI {ops : Array Oper} {o : Oper} {a : Act} {w : World} {K : Act → World → Prop} {Q : Exit → Act → World → Prop} {E : Prop} (hgd : o.guard = none) (d x : Operand)
    (ho : o.op = .call { callee := .builtin .append, args := #[d, x], argTypes := #[53, 53] }) (base : Nat) (v src : Value) (n m : Nat) (l ys : List Value) (hd : a.eval d = v) (hx : a.eval x = src) (hone : ∀ y ∈ ys, y.oneCell' = true)
    (hown : w.ownsRow base 3 1 v n l) (hsrc : SlK 1 w src m ys) (hbase : base ≤ w.heap.size) (hsz : n + m ≤ 1099511627776)
    (h : ∀ v' w', w'.ownsRow base 3 1 v' (n + m) (l ++ ys) → w.grownBy w' v.ownBlock → (v'.ownBlock = v.ownBlock ∨ v'.ownBlock = some w.heap.size) → K (a.put o.dst v') w') :
    if Region.wanted o (yielded ops a.tmps) = true then Oper.wp Tryd.prog o a w K Q else E := by
  have hw : Region.wanted o (yielded ops a.tmps) = true := by simp [Region.wanted, hgd]
  rw [if_pos hw]
  obtain ⟨i0, hi, hz0, hz1, hz2⟩ := info_parts info3
  obtain ⟨v', w', hrun, h1, h2, h3⟩ := run_appK 53 3 i0 (.int .i64 0) 1 8 Tryd.underlying53 hi hz0 hz1 hz2 rfl (by decide) (by decide) o.type hone hown hsrc hbase hsz
  unfold Oper.wp
  simp only [execOp, ho, resolve, invoke, builtin, hd, hx, hrun, Result.andThen, List.map_toArray, List.map_cons, List.map_nil, Sem.run_bind, Sem.run_pure]
  exact h v' w' h1 h2 h3
theorem SlK_lit (w : World) (x : Int) : SlK 1 (w.alloc (.cells #[.int .i64 x] 3)).drew (.slice (some ⟨w.heap.size, 0, none⟩) 1 1) 1 [.int .i64 x] := by
  refine ⟨rfl, .inl ⟨w.heap.size, 0, 1, rfl, Nat.le_refl _, fun i v hi => ?_⟩⟩
  rw [Nat.zero_add]
  exact (cell_of_row _ _ _ _ _ _ (heap_alloc_new w _)).trans (by simpa using hi)
theorem one_int (x : Int) : ∀ y ∈ [Value.int .i64 x], y.oneCell' = true := by
  intro y hy; simp at hy; subst hy; rfl
/-- A book under way: its cells; for each length a row of its own. -/
structure NR (w wr : World) (g : Nat) (f : Nat → Nat) (d : Nat) (vs : Nat → Value) (L : Nat → List Int) : Prop where
  below : Below w.heap.size w wr
  row : wr.heap[g]? = some (.cells (bk d f vs).toArray 163 (0, 0))
  own : ∀ n, n < 16 → wr.ownsRow w.heap.size 3 1 (vs n) (L n).length (ni (L n))
  apart : ∀ n m, n < 16 → m < 16 → n ≠ m → (vs n).ownBlock = none ∨ (vs n).ownBlock ≠ (vs m).ownBlock
  le : w.heap.size ≤ g
theorem own_ne {base : Nat} {w : World} {v : Value} {n : Nat} {l : List Value} {g : Nat} {cs : Array Value} (h : w.ownsRow base 3 1 v n l) (hg : w.heap[g]? = some (.cells cs 163 (0, 0))) : v.ownBlock ≠ some g := by
  obtain ⟨h0, ⟨h1, h2⟩ | ⟨g', cap, cur, h1, h2, h3, h4⟩⟩ := h
  · rw [h1]; intro e; cases e
  · rw [h1]
    intro e
    simp [Value.ownBlock] at e
    subst e
    rw [hg] at h3
    simp at h3
theorem NR.c {w wr : World} {g : Nat} {f : Nat → Nat} {d : Nat} {vs : Nat → Value} {L : Nat → List Int} (h : NR w wr g f d vs L) {i : Nat} {v : Value} (hv : (bk d f vs)[i]? = some v) : wr.cell? ⟨g, i, none⟩ = some v := by
  rw [cell_of_row _ _ _ _ _ _ h.row]; simpa using hv
theorem NR.free {w wr : World} {g : Nat} {f : Nat → Nat} {d : Nat} {vs : Nat → Value} {L : Nat → List Int} (h : NR w wr g f d vs L) (i : Nat) : wr.frozen? ⟨g, i, none⟩ = false := frozen_of_row _ _ _ _ _ h.row
theorem NR.setd {w wr : World} {g : Nat} {f : Nat → Nat} {d : Nat} {vs : Nat → Value} {L : Nat → List Int} (h : NR w wr g f d vs L) (e : Nat) : NR w (wr.setCell ⟨g, 0, none⟩ (.int .i64 (e : Int))) g f e vs L :=
  ⟨h.below.setCell h.le _, by rw [heap_setCell_same _ _ _ _ _ _ h.row, ← bk_set0 d e]; simp, fun n hn => own_stays (h.own n hn) (fun k hk => heap_setCell_other _ _ _ _ (fun e => own_ne (h.own n hn) h.row (by rw [hk, e]))), h.apart, h.le⟩
theorem NR.app {w wr wa w2 : World} {g : Nat} {f : Nat → Nat} {d : Nat} {vs : Nat → Value} {L : Nat → List Int} (h : NR w wr g f d vs L) (n : Nat) (hn : n < 16) (x : Int) (v' : Value) (hwa : Below wr.heap.size wr wa)
    (hown : w2.ownsRow w.heap.size 3 1 v' ((L n).length + 1) (ni (L n) ++ [.int .i64 x])) (hgrow : wa.grownBy w2 (vs n).ownBlock) (hat : v'.ownBlock = (vs n).ownBlock ∨ v'.ownBlock = some wa.heap.size) :
    w2.cell? ⟨g, 17 + n, none⟩ = some (vs n) ∧ w2.frozen? ⟨g, 17 + n, none⟩ = false ∧ NR w (w2.setCell ⟨g, 17 + n, none⟩ v') g f d (fun m => if m = n then v' else vs m) (fun m => if m = n then L n ++ [x] else L m) := by
  have hgl : g < wr.heap.size := (Array.getElem?_eq_some_iff.1 h.row).1
  have hrow : w2.heap[g]? = some (.cells (bk d f vs).toArray 163 (0, 0)) := by
    rw [hgrow.block g (Nat.lt_of_lt_of_le hgl hwa.size) (fun e => own_ne (h.own n hn) h.row e.symm), hwa.block g hgl]; exact h.row
  have hbl : Below w.heap.size w w2 := (h.below.trans (hwa.mono h.below.size)).grown hgrow (Nat.le_trans h.below.size hwa.size) (fun k hk => ((h.own n hn).lt k hk).1)
  refine ⟨by rw [cell_of_row _ _ _ _ _ _ hrow]; simpa using bk_s d f vs n hn, frozen_of_row _ _ _ _ _ hrow, hbl.setCell h.le _, ?_, ?_, ?_, h.le⟩
  · rw [heap_setCell_same _ _ _ _ _ _ hrow, ← bk_setS d f vs n hn]; simp
  · intro m hm
    by_cases e : m = n
    · subst e
      rw [if_pos rfl, if_pos rfl, ni_append, List.length_append]
      refine own_stays hown fun k hk => heap_setCell_other _ _ _ _ (fun e => own_ne hown hrow (by rw [hk, e]))
    · rw [if_neg e, if_neg e]
      have h0 := h.own m hm
      refine own_stays h0 fun k hk => ?_
      rw [heap_setCell_other _ _ _ _ (fun e => own_ne h0 h.row (by rw [hk, e]))]
      have hkl := (h0.lt k hk).2
      rw [hgrow.block k (Nat.lt_of_lt_of_le hkl hwa.size) (fun e2 => by
        rcases h.apart m n hm hn e with h1 | h1
        · rw [h1] at hk; cases hk
        · exact h1 (by rw [hk, e2])), hwa.block k hkl]
  · intro a b ha hb hab
    have key : ∀ c, c < 16 → c ≠ n → (vs c).ownBlock = none ∨ ((vs c).ownBlock ≠ v'.ownBlock) := fun c hc hcn => by
      rcases hat with h1 | h1
      · rw [h1]; exact h.apart c n hc hn hcn
      · rcases hc' : (vs c).ownBlock with _ | k
        · exact .inl rfl
        · refine .inr ?_
          rw [h1]
          intro e
          cases e
          have := ((h.own c hc).lt _ hc').2
          have := hwa.size
          omega
    show (if a = n then v' else vs a).ownBlock = none ∨ (if a = n then v' else vs a).ownBlock ≠ (if b = n then v' else vs b).ownBlock
    by_cases e1 : a = n
    · rw [if_pos e1, if_neg (by omega)]
      rcases key b hb (by omega) with h1 | h1
      · rcases hv : v'.ownBlock with _ | k
        · exact .inl rfl
        · exact .inr (by rw [h1]; exact fun e => by cases e)
      · exact .inr (fun e => h1 e.symm)
    · rw [if_neg e1]
      by_cases e2 : b = n
      · rw [if_pos e2]; exact key a ha e1
      · rw [if_neg e2]; exact h.apart a b ha hb hab
/-- What a book holds behind k symbols. -/
def LK (zs : List Int) (k n : Nat) : List Int := if n = 0 then [] else (placesTo zs n k).map fun (i : Nat) => (i : Int)
def dk (zs : List Int) (k : Nat) : Nat := ((zs.take k).foldl max 1).toNat
theorem LK_zero (zs : List Int) : LK zs 0 = fun _ => [] := by funext n; unfold LK; split <;> simp [placesTo]
theorem LK_step (zs : List Int) (k n : Nat) (hn : 0 < n) (hz : zs.getD k 0 = (n : Int)) : LK zs (k + 1) = fun m => if m = n then LK zs k n ++ [(k : Int)] else LK zs k m := by
  funext m
  unfold LK
  by_cases e : m = n
  · subst e
    rw [if_pos rfl, if_neg (by omega), if_neg (by omega), placesTo_succ, if_pos hz]; simp
  · rw [if_neg e]
    by_cases h0 : m = 0
    · rw [if_pos h0, if_pos h0]
    · rw [if_neg h0, if_neg h0, placesTo_succ, if_neg (by omega)]; simp
theorem LK_keep (zs : List Int) (k : Nat) (hz : zs.getD k 0 = 0) : LK zs (k + 1) = LK zs k := by
  funext m
  unfold LK
  by_cases h0 : m = 0
  · rw [if_pos h0, if_pos h0]
  · rw [if_neg h0, if_neg h0, placesTo_succ, if_neg (by omega)]; simp
theorem dk_step (zs : List Int) (k : Nat) (hk : k < zs.length) (n : Nat) (hz : zs.getD k 0 = (n : Int)) : dk zs (k + 1) = max (dk zs k) n := by
  have e : zs[k] = (n : Int) := by rw [← hz]; simp [hk]
  unfold dk
  rw [List.take_add_one, List.getElem?_eq_getElem hk, Option.toList_some, List.foldl_append]
  simp only [List.foldl_cons, List.foldl_nil, e]
  omega
theorem dk_pos (zs : List Int) (k : Nat) (hk : k ≤ zs.length) (hg : good zs) : 1 ≤ dk zs k ∧ dk zs k ≤ 15 := by
  induction k with
  | zero => simp [dk]
  | succ k ih =>
    have h := hg.2 zs[k] (List.getElem_mem (by omega))
    have e : zs.getD k 0 = zs[k] := by simp [show k < zs.length by omega]
    obtain ⟨n, hn⟩ : ∃ n : Nat, zs[k] = (n : Int) := ⟨zs[k].toNat, by omega⟩
    rw [dk_step zs k (by omega) n (by rw [e, hn])]
    have := ih (by omega)
    omega
theorem dk_all (zs : List Int) : dk zs zs.length = deep zs := by unfold dk deep; rw [List.take_length]
theorem NR.book {w wr : World} {g : Nat} {zs : List Int} {vs : Nat → Value} (h : NR w wr g (F zs) (deep zs) vs (LK zs zs.length)) : BookAt wr w.heap.size wr.heap.size g zs :=
  ⟨h.c (bk_0 _ _ _), fun n hn => h.c (bk_f _ _ _ n hn), fun n h0 hn => ⟨vs n, h.c (bk_s _ _ _ n hn), by
      have := own_toV (h.own n hn)
      unfold LK at this
      rw [if_neg (by omega), placesTo_all] at this
      exact this, fun p m cap e h0 => by
      have h1 := h.own n hn
      obtain ⟨h2, ⟨h3, h4⟩ | ⟨g', cap', cur, h3, h4, h5, h6⟩⟩ := h1
      · rw [h3] at e; cases e
      · rw [h3] at e; cases e
        exact ⟨h4, (Array.getElem?_eq_some_iff.1 h5).1⟩⟩, h.le, (Array.getElem?_eq_some_iff.1 h.row).1⟩
theorem bk_built (f : Nat → Nat) : (List.foldl (fun (cs : Array Value) (x : Value × Nat) => cs.setIfInBounds (1 + x.snd) x.fst)
      #[.int .i64 1, .int .u32 0, .int .u32 0, .int .u32 0, .int .u32 0, .int .u32 0, .int .u32 0, .int .u32 0, .int .u32 0, .int .u32 0, .int .u32 0, .int .u32 0, .int .u32 0, .int .u32 0, .int .u32 0, .int .u32 0, .int .u32 0,
        .slice none 0 0, .slice none 0 0, .slice none 0 0, .slice none 0 0, .slice none 0 0, .slice none 0 0, .slice none 0 0, .slice none 0 0, .slice none 0 0, .slice none 0 0, .slice none 0 0, .slice none 0 0, .slice none 0 0, .slice none 0 0, .slice none 0 0, .slice none 0 0]
      (fc f).zipIdx) = (bk 1 f fun _ => .slice none 0 0).toArray := by
  kernel_rfl
theorem NR.start {w w4 : World} (hb : Below w.heap.size w w4) (f : Nat → Nat) : NR w (w4.alloc (.cells (bk 1 f fun _ => .slice none 0 0).toArray 163)) w4.heap.size f 1 (fun _ => .slice none 0 0) (fun _ => []) :=
  ⟨hb.alloc hb.size _, heap_alloc_new _ _, fun _ _ => World.ownsRow_nil _ _ _ _, fun _ _ _ _ _ => .inl rfl, hb.size⟩
def NLoop (w : World) (g : Nat) (zs : List Int) (v : Value) (wr : World) : Prop := ∃ k vs, k ≤ zs.length ∧ v = .int .i64 ((k : Nat) : Int) ∧ NR w wr g (F zs) (dk zs k) vs (LK zs k)
def NewPost (zs : List Int) (w : World) (e : Ending) (w' : World) : Prop :=
  Below w.heap.size w w' ∧ (may zs = 0 → ∃ g, e = .returned (.tuple #[.pointer (some ⟨g, 0, none⟩), .int .i64 0]) ∧ BookAt w' w.heap.size w'.heap.size g zs) ∧ (may zs ≠ 0 → e = .returned (.tuple #[.pointer none, .int .i64 (may zs)]))
set_option maxRecDepth 100000 in
set_option maxHeartbeats 1000000 in
theorem New_bad (w : World) (v : Value) (zs : List Int) (hv : SlV w v (ni zs)) (hg : ¬ good zs) : Calls Tryd.prog 86 #[v] w (NewPost zs w) := by
  obtain ⟨p, cap, rfl⟩ := hv.shape
  rw [ni_length] at *
  obtain ⟨l, hl⟩ : ∃ l, l = zs.length := ⟨_, rfl⟩
  rw [← hl] at hv ⊢
  have HN := Lib.hid hl
  clear hl
  have HV := Lib.hid hv
  clear hv
  go_enter Tryd.func86, Tryd.ntmps86
  go_wp2_with fail
  refine (tallied_walk w _ zs HV.out).mono ?_
  rintro e w1 ⟨rfl, hb⟩
  have HB := Lib.hid hb
  clear hb
  rw [if_neg hg]
  have HP : Hid (may zs = 1) := Lib.hid (by unfold may; rw [if_neg hg])
  clear hg
  have H0 := Lib.hid (heap_alloc_new w1 (.cells (tl []).toArray 110))
  have HI := Lib.hid (info110 [])
  have HO := Lib.hid (tl_one [])
  have HB2 := Lib.hid (HB.out.alloc HB.out.size (.cells (tl []).toArray 110))
  go_wp2_with (refine wpList_store_row rfl 110 _ _ rfl w1.heap.size (tl []).toArray rfl rfl 110 _ H0.out HI.out rfl HO.out ?_; rw [← tl0, world_setRow_new])
  go_ret2
  refine ⟨HB2.out, ?_, ?_⟩
  · intro h; rw [HP.out] at h; cases h
  · intro _; rw [HP.out]; rfl
set_option maxRecDepth 100000 in
set_option maxHeartbeats 1000000 in
theorem New_no (w : World) (v : Value) (zs : List Int) (hv : SlV w v (ni zs)) (hg : good zs) (hs : st zs ≠ 0) (hlo : Hf.lone zs = false) : Calls Tryd.prog 86 #[v] w (NewPost zs w) := by
  obtain ⟨p, cap, rfl⟩ := hv.shape
  rw [ni_length] at *
  obtain ⟨l, hl⟩ : ∃ l, l = zs.length := ⟨_, rfl⟩
  rw [← hl] at hv ⊢
  have HN := Lib.hid hl
  clear hl
  have HV := Lib.hid hv
  clear hv
  go_enter Tryd.func86, Tryd.ntmps86
  go_wp2_with fail
  refine (tallied_walk w _ zs HV.out).mono ?_
  rintro e w1 ⟨rfl, hb⟩
  have HB := Lib.hid hb
  clear hb
  rw [if_pos hg]
  have HG := Lib.hid hg
  clear hg
  have H0 := Lib.hid (heap_alloc_new w1 (.cells (tl []).toArray 110))
  have HI := Lib.hid (info110 zs)
  have HO := Lib.hid (tl_one zs)
  have HZ := Lib.hid (tl_size zs)
  have HT := Lib.hid (tat_new w1 zs)
  have HRow := Lib.hid (heap_alloc_new w1 (.cells (tl zs).toArray 110))
  have HB2 := Lib.hid (HB.out.alloc HB.out.size (.cells (tl zs).toArray 110))
  go_wp2_with (refine wpList_store_row rfl 110 _ _ rfl w1.heap.size (tl zs).toArray rfl rfl 110 _ H0.out HI.out HZ.out HO.out ?_; rw [← tl0, world_setRow_new])
  have hl1 : w1.heap.size < (w1.alloc (.cells (tl zs).toArray 110)).heap.size := by simp
  have hle1 : w.heap.size ≤ w1.heap.size := HB.out.size
  generalize hw2 : w1.alloc (.cells (tl zs).toArray 110) = w2 at *
  clear hw2 HO HZ HB H0
  refine (state_walk _ _ zs HT.out HG.out.1).mono ?_
  rintro e w3 ⟨rfl, rfl⟩
  obtain ⟨stz, hst⟩ : ∃ s, s = st zs := ⟨_, rfl⟩
  rw [← hst] at hs ⊢
  have HST := Lib.hid hst
  clear hst
  have hN : l ≤ 1024 := by have := HN.out; have := HG.out.1; omega
  have hs' : (stz != 0) = true := by simpa using hs
  go_wp2_with (refine wpList_load_rowG rfl 110 _ rfl w1.heap.size rfl 110 (tl zs).toArray (0, 0) _ HRow.out Tryd.underlying110 rfl HI.out ?_)
  refine (oneOrNone_walk w2 zs l HN.out HG.out.1).mono ?_
  rintro e w3 ⟨rfl, hb⟩
  have HB3 := Lib.hid (HB2.out.trans (hb.mono HB2.out.size))
  have HT2 : Hid (TAt w3 w1.heap.size zs) := Lib.hid (fun n hn => by rw [hb.cell (p := ⟨w1.heap.size, n, none⟩) hl1]; exact HT.out n hn)
  have hl2 : w1.heap.size < w3.heap.size := Nat.lt_of_lt_of_le hl1 hb.size
  clear hb
  rw [hlo]
  have HP : Hid (may zs = 20) := Lib.hid (by unfold may; rw [if_pos HG.out, if_neg (by rw [hlo, ← HST.out]; simp; exact hs)])
  clear hlo
  go_wp2_with fail
  go_ret2
  refine ⟨HB3.out, ?_, ?_⟩
  · intro h; rw [HP.out] at h; cases h
  · intro _; rw [HP.out]; rfl
set_option maxRecDepth 100000 in
set_option maxHeartbeats 1000000 in
theorem New_full (w : World) (v : Value) (zs : List Int) (hv : SlV w v (ni zs)) (hg : good zs) (hs : st zs = 0) : Calls Tryd.prog 86 #[v] w (NewPost zs w) := by
  obtain ⟨p, cap, rfl⟩ := hv.shape
  rw [ni_length] at *
  obtain ⟨l, hl⟩ : ∃ l, l = zs.length := ⟨_, rfl⟩
  rw [← hl] at hv ⊢
  have HN := Lib.hid hl
  clear hl
  have HV := Lib.hid hv
  clear hv
  go_enter Tryd.func86, Tryd.ntmps86
  go_wp2_with fail
  refine (tallied_walk w _ zs HV.out).mono ?_
  rintro e w1 ⟨rfl, hb⟩
  have HB := Lib.hid hb
  clear hb
  rw [if_pos hg]
  have HG := Lib.hid hg
  clear hg
  have H0 := Lib.hid (heap_alloc_new w1 (.cells (tl []).toArray 110))
  have HI := Lib.hid (info110 zs)
  have HO := Lib.hid (tl_one zs)
  have HZ := Lib.hid (tl_size zs)
  have HT := Lib.hid (tat_new w1 zs)
  have HRow := Lib.hid (heap_alloc_new w1 (.cells (tl zs).toArray 110))
  have HB2 := Lib.hid (HB.out.alloc HB.out.size (.cells (tl zs).toArray 110))
  go_wp2_with (refine wpList_store_row rfl 110 _ _ rfl w1.heap.size (tl zs).toArray rfl rfl 110 _ H0.out HI.out HZ.out HO.out ?_; rw [← tl0, world_setRow_new])
  have hl1 : w1.heap.size < (w1.alloc (.cells (tl zs).toArray 110)).heap.size := by simp
  have hle1 : w.heap.size ≤ w1.heap.size := HB.out.size
  generalize hw2 : w1.alloc (.cells (tl zs).toArray 110) = w2 at *
  clear hw2 HO HZ HB H0
  refine (state_walk _ _ zs HT.out HG.out.1).mono ?_
  rintro e w3 ⟨rfl, rfl⟩
  obtain ⟨stz, hst⟩ : ∃ s, s = st zs := ⟨_, rfl⟩
  rw [← hst] at hs ⊢
  have HST := Lib.hid hst
  clear hst
  have hN : l ≤ 1024 := by have := HN.out; have := HG.out.1; omega
  subst hs
  have HP : Hid (may zs = 0) := Lib.hid (by unfold may; rw [if_pos HG.out, if_pos (.inl HST.out.symm)])
  have HT2 := Lib.hid HT.out
  have HB3 := Lib.hid HB2.out
  have hl2 := hl1
  go_wp2_with (refine wpList_load_row rfl 110 _ rfl w1.heap.size rfl 110 (tl zs).toArray (0, 0) _ HRow.out Tryd.underlying110 rfl HI.out ?_)
  refine (firsts_walk _ _ zs HT2.out hl2 HG.out.1).mono ?_
  rintro e w4 ⟨rfl, hb⟩
  have HB4 := Lib.hid (HB3.out.trans (hb.mono HB3.out.size))
  clear hb HB3 HT2 hl2
  have hfl : (fc (F zs)).length = 16 := fc_length _
  have HST4 := Lib.hid (NR.start HB4.out (F zs))
  go_wp2_with fail
  rw [bk_built]
  generalize w4.alloc (.cells (bk 1 (F zs) fun _ => .slice none 0 0).toArray 163) = w5 at *
  go_loopw [7, 8, 31] (fun _ _ v wr => NLoop w w4.heap.size zs v wr) (fun _ _ v _ => l - (intOf v).toNat)
  case atStart => exact ⟨0, _, Nat.zero_le _, rfl, by rw [LK_zero]; exact HST4.out⟩
  case round =>
    clear HST4
    obtain ⟨k, vs, hk, rfl, hR⟩ := hrel
    have HR := Lib.hid hR
    clear hR
    generalize w4.heap.size = g at *
    by_cases hlt : k < l
    · have hlti : (k : Int) < (l : Int) := by omega
      obtain ⟨gz, o, rfl, hrow⟩ := HV.out.some (by omega)
      have hcap := HV.out.le
      have hc := (hrow.below HR.out.below (hrow.lt (by rw [ni_length, ← HN.out]; omega))).ni k (by rw [← HN.out]; omega)
      clear hrow
      have hkz : k < zs.length := by have := HN.out; omega
      have hgz : 0 ≤ zs.getD k 0 ∧ zs.getD k 0 ≤ 15 := by
        have e : zs.getD k 0 = zs[k] := by simp [hkz]
        rw [e]; exact HG.out.2 _ (List.getElem_mem hkz)
      obtain ⟨n, hn⟩ : ∃ n : Nat, zs.getD k 0 = (n : Int) := ⟨(zs.getD k 0).toNat, by omega⟩
      rw [hn] at hc hgz
      have HZ := Lib.hid hn
      have HD := Lib.hid (dk_step zs k hkz n hn)
      clear hn
      by_cases hn0 : n = 0
      · subst hn0
        have HR2 : Hid (NR w wr g (F zs) (dk zs (k + 1)) vs (LK zs (k + 1))) := Lib.hid (by rw [LK_keep zs k HZ.out, HD.out, Nat.max_zero]; exact HR.out)
        clear HR
        go_wp2_with fail
        exact ⟨⟨k + 1, vs, by omega, by go_num, HR2.out⟩, by simp [intOf]; omega⟩
      · have hni : (0 : Int) < (n : Int) := by omega
        have hni2 : (n : Int) < 16 := by omega
        have hc1 := HR.out.c (bk_0 _ _ _)
        have hf1 := HR.out.free 0
        have HR1 := Lib.hid (HR.out.setd (max (dk zs k) n))
        have hmx : max ((dk zs k : Nat) : Int) (n : Int) = ((max (dk zs k) n : Nat) : Int) := by omega
        have HLK := Lib.hid (LK_step zs k n (by omega) HZ.out)
        generalize dk zs k = d at *
        have HLL : Hid ((LK zs k n).length ≤ 1024) := Lib.hid (by
          have := HG.out.1
          unfold LK
          split
          · simp
          · rw [List.length_map, placesTo_length zs n k (by omega) (by omega)]
            have := ct_le (zs.take k) n
            rw [List.length_take] at this
            omega)
        go_wp2_with fail
        generalize wr.setCell ⟨g, 0, none⟩ (.int .i64 ((max d n : Nat) : Int)) = wr2 at *
        clear hc1 hf1 hmx HR
        have hc2 := HR1.out.c (bk_s (max d n) (F zs) vs n (by omega))
        obtain ⟨p2, cap2, hsh⟩ := (own_toV (HR1.out.own n (by omega))).shape
        rw [ni_length] at hsh
        have HO := Lib.hid (HR1.out.own n (by omega))
        have HSH := Lib.hid hsh
        rw [hsh] at hc2 HO
        clear hsh
        obtain ⟨m, hm⟩ : ∃ m, m = (LK zs k n).length := ⟨_, rfl⟩
        rw [← hm] at hc2 HO HSH HLL
        have HM := Lib.hid hm
        clear hm
        have HWA : Hid (Below wr2.heap.size wr2 (wr2.alloc (.cells #[.int .i64 (k : Int)] 3)).drew) := Lib.hid (((Below.refl _ _).alloc (Nat.le_refl _) _).trans ⟨rfl, rfl, rfl, Nat.le_refl _, fun _ _ => rfl⟩)
        have hc3 : (wr2.alloc (.cells #[.int .i64 (k : Int)] 3)).cell? ⟨g, 17 + n, none⟩ = some (.slice p2 m cap2) := (((Below.refl wr2.heap.size wr2).alloc (Nat.le_refl _) _).cell (p := ⟨g, 17 + n, none⟩) (block_lt_of_cell hc2)).trans hc2
        go_region_law (refine step_appI rfl (.tmp 54) (.tmp 56) rfl w.heap.size (.slice p2 m cap2) (.slice (some ⟨wr2.heap.size, 0, none⟩) 1 1) m 1 _ [.int .i64 (k : Int)] rfl rfl (one_int _) (HO.out.alloc _).drew (SlK_lit wr2 k) (Nat.le_trans HR1.out.below.size (by simp)) (by have := HLL.out; omega) ?_; intro v' w6 hown hgrow hat; obtain ⟨e1, f1, hT3⟩ := HR1.out.app n (by omega) k v' HWA.out (by rw [← HM.out]; exact hown) (by rw [HSH.out]; exact hgrow) (by rw [HSH.out]; exact hat); obtain ⟨p3, cap3, hv'⟩ := (own_toV hown).shape; have HT3 := Lib.hid hT3; clear hT3 hown hgrow hat; subst hv'; generalize (ni (LK zs k n) ++ [Value.int .i64 (k : Int)]).length = nl at *)
        all_goals go_wp2_with fail
        all_goals exact ⟨⟨k + 1, _, by have := HN.out; omega, by go_num, by rw [HLK.out, HD.out]; exact HT3.out⟩, by simp [intOf]; omega⟩
    · have hlti : (l : Int) ≤ (k : Int) := by omega
      obtain rfl : k = l := by have := HN.out; omega
      have HE := HR.out
      rw [HN.out, dk_all] at HE
      have HBK := Lib.hid HE.book
      clear HE
      go_wp2_with fail
      go_ret2
      refine ⟨HR.out.below, ?_, ?_⟩
      · intro _; exact ⟨g, rfl, HBK.out⟩
      · intro h; exact absurd HP.out h
set_option maxRecDepth 100000 in
set_option maxHeartbeats 1000000 in
theorem New_lone (w : World) (v : Value) (zs : List Int) (hv : SlV w v (ni zs)) (hg : good zs) (hs : st zs ≠ 0) (hlo : Hf.lone zs = true) : Calls Tryd.prog 86 #[v] w (NewPost zs w) := by
  obtain ⟨p, cap, rfl⟩ := hv.shape
  rw [ni_length] at *
  obtain ⟨l, hl⟩ : ∃ l, l = zs.length := ⟨_, rfl⟩
  rw [← hl] at hv ⊢
  have HN := Lib.hid hl
  clear hl
  have HV := Lib.hid hv
  clear hv
  go_enter Tryd.func86, Tryd.ntmps86
  go_wp2_with fail
  refine (tallied_walk w _ zs HV.out).mono ?_
  rintro e w1 ⟨rfl, hb⟩
  have HB := Lib.hid hb
  clear hb
  rw [if_pos hg]
  have HG := Lib.hid hg
  clear hg
  have H0 := Lib.hid (heap_alloc_new w1 (.cells (tl []).toArray 110))
  have HI := Lib.hid (info110 zs)
  have HO := Lib.hid (tl_one zs)
  have HZ := Lib.hid (tl_size zs)
  have HT := Lib.hid (tat_new w1 zs)
  have HRow := Lib.hid (heap_alloc_new w1 (.cells (tl zs).toArray 110))
  have HB2 := Lib.hid (HB.out.alloc HB.out.size (.cells (tl zs).toArray 110))
  go_wp2_with (refine wpList_store_row rfl 110 _ _ rfl w1.heap.size (tl zs).toArray rfl rfl 110 _ H0.out HI.out HZ.out HO.out ?_; rw [← tl0, world_setRow_new])
  have hl1 : w1.heap.size < (w1.alloc (.cells (tl zs).toArray 110)).heap.size := by simp
  have hle1 : w.heap.size ≤ w1.heap.size := HB.out.size
  generalize hw2 : w1.alloc (.cells (tl zs).toArray 110) = w2 at *
  clear hw2 HO HZ HB H0
  refine (state_walk _ _ zs HT.out HG.out.1).mono ?_
  rintro e w3 ⟨rfl, rfl⟩
  obtain ⟨stz, hst⟩ : ∃ s, s = st zs := ⟨_, rfl⟩
  rw [← hst] at hs ⊢
  have HST := Lib.hid hst
  clear hst
  have hN : l ≤ 1024 := by have := HN.out; have := HG.out.1; omega
  have hs' : (stz != 0) = true := by simpa using hs
  go_wp2_with (refine wpList_load_rowG rfl 110 _ rfl w1.heap.size rfl 110 (tl zs).toArray (0, 0) _ HRow.out Tryd.underlying110 rfl HI.out ?_)
  refine (oneOrNone_walk w2 zs l HN.out HG.out.1).mono ?_
  rintro e w3 ⟨rfl, hb⟩
  have HB3 := Lib.hid (HB2.out.trans (hb.mono HB2.out.size))
  have HT2 : Hid (TAt w3 w1.heap.size zs) := Lib.hid (fun n hn => by rw [hb.cell (p := ⟨w1.heap.size, n, none⟩) hl1]; exact HT.out n hn)
  have hl2 : w1.heap.size < w3.heap.size := Nat.lt_of_lt_of_le hl1 hb.size
  clear hb
  rw [hlo]
  have HP : Hid (may zs = 0) := Lib.hid (by unfold may; rw [if_pos HG.out, if_pos (.inr hlo)])
  clear hlo
  go_wp2_with fail
  refine (firsts_walk _ _ zs HT2.out hl2 HG.out.1).mono ?_
  rintro e w4 ⟨rfl, hb⟩
  have HB4 := Lib.hid (HB3.out.trans (hb.mono HB3.out.size))
  clear hb HB3 HT2 hl2
  have hfl : (fc (F zs)).length = 16 := fc_length _
  have HST4 := Lib.hid (NR.start HB4.out (F zs))
  go_wp2_with fail
  rw [bk_built]
  generalize w4.alloc (.cells (bk 1 (F zs) fun _ => .slice none 0 0).toArray 163) = w5 at *
  go_loopw [7, 8, 31] (fun _ _ v wr => NLoop w w4.heap.size zs v wr) (fun _ _ v _ => l - (intOf v).toNat)
  case atStart => exact ⟨0, _, Nat.zero_le _, rfl, by rw [LK_zero]; exact HST4.out⟩
  case round =>
    clear HST4
    obtain ⟨k, vs, hk, rfl, hR⟩ := hrel
    have HR := Lib.hid hR
    clear hR
    generalize w4.heap.size = g at *
    by_cases hlt : k < l
    · have hlti : (k : Int) < (l : Int) := by omega
      obtain ⟨gz, o, rfl, hrow⟩ := HV.out.some (by omega)
      have hcap := HV.out.le
      have hc := (hrow.below HR.out.below (hrow.lt (by rw [ni_length, ← HN.out]; omega))).ni k (by rw [← HN.out]; omega)
      clear hrow
      have hkz : k < zs.length := by have := HN.out; omega
      have hgz : 0 ≤ zs.getD k 0 ∧ zs.getD k 0 ≤ 15 := by
        have e : zs.getD k 0 = zs[k] := by simp [hkz]
        rw [e]; exact HG.out.2 _ (List.getElem_mem hkz)
      obtain ⟨n, hn⟩ : ∃ n : Nat, zs.getD k 0 = (n : Int) := ⟨(zs.getD k 0).toNat, by omega⟩
      rw [hn] at hc hgz
      have HZ := Lib.hid hn
      have HD := Lib.hid (dk_step zs k hkz n hn)
      clear hn
      by_cases hn0 : n = 0
      · subst hn0
        have HR2 : Hid (NR w wr g (F zs) (dk zs (k + 1)) vs (LK zs (k + 1))) := Lib.hid (by rw [LK_keep zs k HZ.out, HD.out, Nat.max_zero]; exact HR.out)
        clear HR
        go_wp2_with fail
        exact ⟨⟨k + 1, vs, by omega, by go_num, HR2.out⟩, by simp [intOf]; omega⟩
      · have hni : (0 : Int) < (n : Int) := by omega
        have hni2 : (n : Int) < 16 := by omega
        have hc1 := HR.out.c (bk_0 _ _ _)
        have hf1 := HR.out.free 0
        have HR1 := Lib.hid (HR.out.setd (max (dk zs k) n))
        have hmx : max ((dk zs k : Nat) : Int) (n : Int) = ((max (dk zs k) n : Nat) : Int) := by omega
        have HLK := Lib.hid (LK_step zs k n (by omega) HZ.out)
        generalize dk zs k = d at *
        have HLL : Hid ((LK zs k n).length ≤ 1024) := Lib.hid (by
          have := HG.out.1
          unfold LK
          split
          · simp
          · rw [List.length_map, placesTo_length zs n k (by omega) (by omega)]
            have := ct_le (zs.take k) n
            rw [List.length_take] at this
            omega)
        go_wp2_with fail
        generalize wr.setCell ⟨g, 0, none⟩ (.int .i64 ((max d n : Nat) : Int)) = wr2 at *
        clear hc1 hf1 hmx HR
        have hc2 := HR1.out.c (bk_s (max d n) (F zs) vs n (by omega))
        obtain ⟨p2, cap2, hsh⟩ := (own_toV (HR1.out.own n (by omega))).shape
        rw [ni_length] at hsh
        have HO := Lib.hid (HR1.out.own n (by omega))
        have HSH := Lib.hid hsh
        rw [hsh] at hc2 HO
        clear hsh
        obtain ⟨m, hm⟩ : ∃ m, m = (LK zs k n).length := ⟨_, rfl⟩
        rw [← hm] at hc2 HO HSH HLL
        have HM := Lib.hid hm
        clear hm
        have HWA : Hid (Below wr2.heap.size wr2 (wr2.alloc (.cells #[.int .i64 (k : Int)] 3)).drew) := Lib.hid (((Below.refl _ _).alloc (Nat.le_refl _) _).trans ⟨rfl, rfl, rfl, Nat.le_refl _, fun _ _ => rfl⟩)
        have hc3 : (wr2.alloc (.cells #[.int .i64 (k : Int)] 3)).cell? ⟨g, 17 + n, none⟩ = some (.slice p2 m cap2) := (((Below.refl wr2.heap.size wr2).alloc (Nat.le_refl _) _).cell (p := ⟨g, 17 + n, none⟩) (block_lt_of_cell hc2)).trans hc2
        go_region_law (refine step_appI rfl (.tmp 54) (.tmp 56) rfl w.heap.size (.slice p2 m cap2) (.slice (some ⟨wr2.heap.size, 0, none⟩) 1 1) m 1 _ [.int .i64 (k : Int)] rfl rfl (one_int _) (HO.out.alloc _).drew (SlK_lit wr2 k) (Nat.le_trans HR1.out.below.size (by simp)) (by have := HLL.out; omega) ?_; intro v' w6 hown hgrow hat; obtain ⟨e1, f1, hT3⟩ := HR1.out.app n (by omega) k v' HWA.out (by rw [← HM.out]; exact hown) (by rw [HSH.out]; exact hgrow) (by rw [HSH.out]; exact hat); obtain ⟨p3, cap3, hv'⟩ := (own_toV hown).shape; have HT3 := Lib.hid hT3; clear hT3 hown hgrow hat; subst hv'; generalize (ni (LK zs k n) ++ [Value.int .i64 (k : Int)]).length = nl at *)
        all_goals go_wp2_with fail
        all_goals exact ⟨⟨k + 1, _, by have := HN.out; omega, by go_num, by rw [HLK.out, HD.out]; exact HT3.out⟩, by simp [intOf]; omega⟩
    · have hlti : (l : Int) ≤ (k : Int) := by omega
      obtain rfl : k = l := by have := HN.out; omega
      have HE := HR.out
      rw [HN.out, dk_all] at HE
      have HBK := Lib.hid HE.book
      clear HE
      go_wp2_with fail
      go_ret2
      refine ⟨HR.out.below, ?_, ?_⟩
      · intro _; exact ⟨g, rfl, HBK.out⟩
      · intro h; exact absurd HP.out h
theorem New_walk (w : World) (v : Value) (zs : List Int) (hv : SlV w v (ni zs)) : Calls Tryd.prog 86 #[v] w (NewPost zs w) := by
  by_cases hg : good zs
  · by_cases hs : st zs = 0
    · exact New_full w v zs hv hg hs
    · cases hlo : Hf.lone zs with
      | true => exact New_lone w v zs hv hg hs hlo
      | false => exact New_no w v zs hv hg hs hlo
  · exact New_bad w v zs hv hg
end Go.Proofs.YtefeilgbofphjaaDoor
/-
  The calls of the rows, each as one law: what is answered, and that nothing older turns.
-/
namespace Go.Proofs.YtefeilgbofphjaaDoor
open Go.RowKit Hf

theorem new_bad (w : World) (v : Value) (zs : List Int) (c : Int) (hv : SlV w v (ni zs)) (hm : may zs = c) (h0 : c ≠ 0) :
    Calls Tryd.prog 86 #[v] w fun e w' => e = .returned (.tuple #[.pointer none, .int .i64 c]) ∧ Below w.heap.size w w' := by
  refine (New_walk w v zs hv).mono ?_
  rintro e w' ⟨h1, _, h3⟩
  rw [hm] at h3
  exact ⟨h3 h0, h1⟩
theorem new_good (w : World) (v : Value) (zs : List Int) (hv : SlV w v (ni zs)) (hm : may zs = 0) :
    Calls Tryd.prog 86 #[v] w fun e w' => ∃ g, e = .returned (.tuple #[.pointer (some ⟨g, 0, none⟩), .int .i64 0]) ∧ BookAt w' w.heap.size w'.heap.size g zs ∧ Below w.heap.size w w' := by
  refine (New_walk w v zs hv).mono ?_
  rintro e w' ⟨h1, h2, _⟩
  obtain ⟨g, h3, h4⟩ := h2 hm
  exact ⟨g, h3, h4, h1⟩
theorem codes_good (w : World) (v : Value) (zs : List Int) (hv : SlV w v (ni zs)) (hg : good zs) (hs : st zs ≠ 1) :
    Calls Tryd.prog 37 #[v] w fun e w' => ∃ u, e = .returned (.tuple #[u, .int .i64 0]) ∧ w'.ownsRow w.heap.size 49 1 u zs.length (nu (codes zs)) ∧ Below w.heap.size w w' := by
  refine (Codes_walk w v zs hv).mono ?_
  rintro e w' ⟨u, h1, h2, h3⟩
  rw [if_pos hg, if_neg hs] at h1
  rw [if_pos ⟨hg, hs⟩, if_pos ⟨hg, hs⟩] at h2
  exact ⟨u, h1, h2, h3⟩
theorem codes_many (w : World) (v : Value) (zs : List Int) (hv : SlV w v (ni zs)) (hg : good zs) (hs : st zs = 1) :
    Calls Tryd.prog 37 #[v] w fun e w' => ∃ u, e = .returned (.tuple #[u, .int .i64 20]) ∧ Below w.heap.size w w' := by
  refine (Codes_walk w v zs hv).mono ?_
  rintro e w' ⟨u, h1, h2, h3⟩
  rw [if_pos hg, if_pos hs] at h1
  exact ⟨u, h1, h3⟩
end Go.Proofs.YtefeilgbofphjaaDoor
/-
  book; run: the next length, and how often it stands.
-/
namespace Go.Proofs.YtefeilgbofphjaaDoor
open Go.RowKit
theorem deep_good {zs : List Int} (h : Hf.good zs) : Hf.deep zs ≤ 15 := by
  have key : ∀ (l : List Int) (a : Int), a ≤ 15 → (∀ z ∈ l, z ≤ 15) → l.foldl max a ≤ 15 := by
    intro l
    induction l with
    | nil => intro a ha _; exact ha
    | cons x t ih =>
      intro a ha hl
      rw [List.foldl_cons]
      exact ih _ (by have := hl x (by simp); omega) (fun z hz => hl z (by simp [hz]))
  have := key zs 1 (by decide) (fun z hz => (h.2 z hz).2)
  unfold Hf.deep
  omega
theorem may_good {zs : List Int} (h : Hf.may zs = 0) : Hf.good zs := by
  unfold Hf.may at h
  split at h
  · assumption
  · cases h
/-- book: a book that is made anew, or its error. -/
def BookPost (zs : List Int) (w : World) (e : Ending) (w' : World) : Prop :=
  Below w.heap.size w w' ∧ if Hf.may zs = 0 then ∃ g, e = .returned (.pointer (some ⟨g, 0, none⟩)) ∧ BookAt w' w.heap.size w'.heap.size g zs else e = pan (Hf.may zs)
set_option maxRecDepth 100000 in
set_option maxHeartbeats 1000000 in
theorem book_walk (w : World) (v : Value) (zs : List Int) (hv : SlV w v (ni zs)) : Calls Tryd.prog 69 #[v] w (BookPost zs w) := by
  by_cases hm : Hf.may zs = 0
  · have HN := Lib.hid (new_good w v zs hv hm)
    have HM := Lib.hid hm
    clear hv hm
    go_enter Tryd.func69, Tryd.ntmps69
    go_wp2_with fail
    refine HN.out.mono ?_
    rintro e w1 ⟨g, rfl, hb, hB⟩
    have HB := Lib.hid hb
    have HBe := Lib.hid hB
    clear hb hB
    go_wp2_with fail
    refine (must_ok _).mono ?_
    rintro e w2 ⟨rfl, rfl⟩
    go_wp2_with fail
    go_ret
    exact ⟨HBe.out, by rw [if_pos HM.out]; exact ⟨g, rfl, HB.out⟩⟩
  · obtain ⟨c, hc⟩ : ∃ c, c = Hf.may zs := ⟨_, rfl⟩
    have HN := Lib.hid (new_bad w v zs c hv hc.symm (by rw [hc]; exact hm))
    have HM := Lib.hid hm
    have HC := Lib.hid hc
    have hc0 : c ≠ 0 := by rw [hc]; exact hm
    clear hv hm hc
    go_enter Tryd.func69, Tryd.ntmps69
    go_wp2_with fail
    refine HN.out.mono ?_
    rintro e w1 ⟨rfl, hB⟩
    have HBe := Lib.hid hB
    clear hB
    go_wp2_with fail
    refine (must_no _ c hc0).mono ?_
    rintro e w2 ⟨rfl, rfl⟩
    go_wp2_with fail
    exact ⟨rfl, HBe.out, by rw [if_neg HM.out, HC.out]⟩
def rv (p : Int × Nat) : Value := .tuple #[.int .i64 p.1, .int .i64 (p.2 : Int)]
theorem slv_only {w w' : World} {v : Value} {vs : List Value} {O : Nat → Prop} (h : SlV w v vs) (ho : OnlyS O w w') (ha : ∀ p n cap, v = .slice (some p) n cap → 0 < n → ¬ O p.block) : SlV w' v vs := h.only ho ha
set_option maxRecDepth 100000 in
set_option maxHeartbeats 1000000 in
theorem run_walk (w : World) (B : Nat) (O : Nat → Prop) (gt gb g gk : Nat) (zs ahead : List Int) (v : Value) (r : List Bool) (h : StB w B O gt gb g r) (hk : BkAt w O gk zs) (hv : SlV w v (ni ahead)) (hva : ∀ p n cap, v = .slice (some p) n cap → 0 < n → ¬ O p.block) (hal : ahead.length ≤ 65536) :
    Calls Tryd.prog 87 #[.pointer (some ⟨gt, 0, none⟩), .pointer (some ⟨gk, 0, none⟩), v] w (RPost (Inf.run zs ahead r) rv B O gt gb g w) := by
  obtain ⟨R0, hR0⟩ : ∃ R0, R0 = Inf.run zs ahead r := ⟨_, rfl⟩
  rw [← hR0]
  unfold Inf.run at hR0
  have HC := Lib.hid (symbol_walk w B O gt gb g gk zs r h hk)
  have HV := Lib.hid hv
  have HVA := Lib.hid hva
  obtain ⟨p, cap, rfl⟩ := hv.shape
  rw [ni_length] at *
  obtain ⟨l, hl⟩ : ∃ l, l = ahead.length := ⟨_, rfl⟩
  rw [← hl] at HV HVA hal ⊢
  cases hres : Inf.symb zs r with
  | error er =>
    rw [hres] at HC hR0
    have HE := Lib.hid hR0
    clear h hk hv hva hres hR0 hl
    go_enter Tryd.func87, Tryd.ntmps87
    go_wp2_with fail
    refine HC.out.mono ?_
    rintro e w1 ⟨ho, rfl⟩
    have HO := Lib.hid ho
    clear ho
    go_wp2_with fail
    exact ⟨rfl, HO.out, by rw [HE.out]⟩
  | ok q =>
    obtain ⟨s, r1⟩ := q
    rw [hres] at HC hR0
    simp only at hR0
    unfold iv at HC
    clear h hk hv hva hres
    by_cases h16 : s = 16
    · rw [if_pos h16] at hR0
      subst h16
      cases hn : Inf.numb 2 r1 with
      | error er =>
        rw [hn] at hR0
        have HE := Lib.hid hR0
        clear hR0 hl
        go_enter Tryd.func87, Tryd.ntmps87
        go_wp2_with fail
        refine HC.out.mono ?_
        rintro e w1 ⟨ho, rfl, O1, hs1, hg1⟩
        have HN := Lib.hid ((number_walk w1 B O1 gt gb g 2 r1 hs1 (by omega)).mono fun e w' hr => hr.before ho hg1)
        rw [hn] at HN
        unfold iv at HN
        clear ho hs1 hg1 hn HC
        go_wp2_with fail
        refine HN.out.mono ?_
        rintro e w2 ⟨ho, rfl⟩
        have HO := Lib.hid ho
        clear ho
        go_wp2_with fail
        exact ⟨rfl, HO.out, by rw [HE.out]⟩
      | ok q =>
        obtain ⟨x, r2⟩ := q
        have hx := numb_lt hn
        rw [hn] at hR0
        simp only at hR0
        rw [← hl] at hR0
        have HR0 := Lib.hid hR0
        have HL := Lib.hid hl
        clear hR0 hl
        by_cases hl0 : l = 0
        · have HE : Hid (R0 = .error 20) := Lib.hid (by rw [HR0.out, if_pos hl0])
          subst hl0
          go_enter Tryd.func87, Tryd.ntmps87
          go_wp2_with fail
          refine HC.out.mono ?_
          rintro e w1 ⟨ho, rfl, O1, hs1, hg1⟩
          have HN := Lib.hid ((number_walk w1 B O1 gt gb g 2 r1 hs1 (by omega)).mono fun e w' hr => hr.before ho hg1)
          rw [hn] at HN
          unfold iv at HN
          clear ho hs1 hg1 hn HC
          go_wp2_with fail
          refine HN.out.mono ?_
          rintro e w2 ⟨ho, rfl, hss⟩
          have HO := Lib.hid ho
          clear ho hss
          go_wp2_with fail
          refine (refuse_yes _ 20).mono ?_
          rintro e w3 ⟨rfl, rfl⟩
          go_wp2_with fail
          exact ⟨rfl, HO.out, by rw [HE.out]⟩
        · have HE : Hid (R0 = .ok ((ahead.getD (l - 1) 0, 3 + x), r2)) := Lib.hid (by rw [HR0.out, if_neg hl0])
          have hl1 : ((l : Int) == 0) = false := by simp; omega
          have hlp : 0 < l := by omega
          obtain ⟨gz, oz, hpz, hrow⟩ := HV.out.some hlp
          have hcap := HV.out.le
          subst hpz
          have hc := hrow.ni (l - 1) (by have := HL.out; omega)
          obtain ⟨k, hk⟩ : ∃ k, k = l - 1 := ⟨_, rfl⟩
          rw [← hk] at hc HE
          have hki : (l : Int) - 1 = (k : Int) := by omega
          have hkl : (k : Int) < (l : Int) := by omega
          have hci : (l : Int) ≤ (cap : Int) := by omega
          have HG : Hid (¬ O gz) := Lib.hid (HVA.out ⟨gz, oz, none⟩ l cap rfl hlp)
          generalize ahead.getD k 0 = z at *
          clear hrow hk HR0 hl0
          go_enter Tryd.func87, Tryd.ntmps87
          go_wp2_with fail
          refine HC.out.mono ?_
          rintro e w1 ⟨ho, rfl, O1, hs1, hg1⟩
          have HN := Lib.hid ((number_walk w1 B O1 gt gb g 2 r1 hs1 (by omega)).mono fun e w' hr => hr.before ho hg1)
          rw [hn] at HN
          unfold iv at HN
          clear ho hs1 hg1 hn HC
          go_wp2_with fail
          refine HN.out.mono ?_
          rintro e w2 ⟨ho, rfl, hss⟩
          have HO := Lib.hid ho
          have HSS := Lib.hid hss
          have hc2 := ho.cell hc HG.out
          clear ho hss hc
          go_wp2_with fail
          refine (refuse_no _ 20).mono ?_
          rintro e w3 ⟨rfl, rfl⟩
          go_wp2_with fail
          go_ret2
          exact ⟨HO.out, by rw [HE.out]; exact ⟨rfl, HSS.out⟩⟩
    rw [if_neg h16] at hR0
    have hne16 : ((s : Int) == 16) = false := by simp; omega
    by_cases h17 : s = 17
    · rw [if_pos h17] at hR0
      subst h17
      clear hl
      cases hn : Inf.numb 3 r1 with
      | error er =>
        rw [hn] at hR0
        have HE := Lib.hid hR0
        clear hR0
        go_enter Tryd.func87, Tryd.ntmps87
        go_wp2_with fail
        refine HC.out.mono ?_
        rintro e w1 ⟨ho, rfl, O1, hs1, hg1⟩
        have HN := Lib.hid ((number_walk w1 B O1 gt gb g 3 r1 hs1 (by omega)).mono fun e w' hr => hr.before ho hg1)
        rw [hn] at HN
        unfold iv at HN
        clear ho hs1 hg1 hn HC
        go_wp2_with fail
        refine HN.out.mono ?_
        rintro e w2 ⟨ho, rfl⟩
        have HO := Lib.hid ho
        clear ho
        go_wp2_with fail
        exact ⟨rfl, HO.out, by rw [HE.out]⟩
      | ok q =>
        obtain ⟨x, r2⟩ := q
        have hx := numb_lt hn
        rw [hn] at hR0
        have HE := Lib.hid hR0
        clear hR0
        go_enter Tryd.func87, Tryd.ntmps87
        go_wp2_with fail
        refine HC.out.mono ?_
        rintro e w1 ⟨ho, rfl, O1, hs1, hg1⟩
        have HN := Lib.hid ((number_walk w1 B O1 gt gb g 3 r1 hs1 (by omega)).mono fun e w' hr => hr.before ho hg1)
        rw [hn] at HN
        unfold iv at HN
        clear ho hs1 hg1 hn HC
        go_wp2_with fail
        refine HN.out.mono ?_
        rintro e w2 ⟨ho, rfl, hss⟩
        have HO := Lib.hid ho
        have HSS := Lib.hid hss
        clear ho hss
        go_wp2_with fail
        go_ret2
        exact ⟨HO.out, by rw [HE.out]; exact ⟨rfl, HSS.out⟩⟩
    rw [if_neg h17] at hR0
    have hne17 : ((s : Int) == 17) = false := by simp; omega
    by_cases h18 : s = 18
    · rw [if_pos h18] at hR0
      subst h18
      clear hl
      cases hn : Inf.numb 7 r1 with
      | error er =>
        rw [hn] at hR0
        have HE := Lib.hid hR0
        clear hR0
        go_enter Tryd.func87, Tryd.ntmps87
        go_wp2_with fail
        refine HC.out.mono ?_
        rintro e w1 ⟨ho, rfl, O1, hs1, hg1⟩
        have HN := Lib.hid ((number_walk w1 B O1 gt gb g 7 r1 hs1 (by omega)).mono fun e w' hr => hr.before ho hg1)
        rw [hn] at HN
        unfold iv at HN
        clear ho hs1 hg1 hn HC
        go_wp2_with fail
        refine HN.out.mono ?_
        rintro e w2 ⟨ho, rfl⟩
        have HO := Lib.hid ho
        clear ho
        go_wp2_with fail
        exact ⟨rfl, HO.out, by rw [HE.out]⟩
      | ok q =>
        obtain ⟨x, r2⟩ := q
        have hx := numb_lt hn
        rw [hn] at hR0
        have HE := Lib.hid hR0
        clear hR0
        go_enter Tryd.func87, Tryd.ntmps87
        go_wp2_with fail
        refine HC.out.mono ?_
        rintro e w1 ⟨ho, rfl, O1, hs1, hg1⟩
        have HN := Lib.hid ((number_walk w1 B O1 gt gb g 7 r1 hs1 (by omega)).mono fun e w' hr => hr.before ho hg1)
        rw [hn] at HN
        unfold iv at HN
        clear ho hs1 hg1 hn HC
        go_wp2_with fail
        refine HN.out.mono ?_
        rintro e w2 ⟨ho, rfl, hss⟩
        have HO := Lib.hid ho
        have HSS := Lib.hid hss
        clear ho hss
        go_wp2_with fail
        go_ret2
        exact ⟨HO.out, by rw [HE.out]; exact ⟨rfl, HSS.out⟩⟩
    rw [if_neg h18] at hR0
    have hne18 : ((s : Int) == 18) = false := by simp; omega
    have HE := Lib.hid hR0
    clear hR0 hl h16 h17 h18
    go_enter Tryd.func87, Tryd.ntmps87
    go_wp2_with fail
    refine HC.out.mono ?_
    rintro e w1 ⟨ho, rfl, hss⟩
    have HO := Lib.hid ho
    have HSS := Lib.hid hss
    clear ho hss
    go_wp2_with fail
    go_ret2
    exact ⟨HO.out, by rw [HE.out]; exact ⟨rfl, HSS.out⟩⟩
end Go.Proofs.YtefeilgbofphjaaDoor
/-
  lengths: so many lengths that are told by a book.
-/
namespace Go.Proofs.YtefeilgbofphjaaDoor
open Go.RowKit
theorem run_bound {zs ahead : List Int} {r r' : List Bool} {z : Int} {t : Nat} (h : Inf.run zs ahead r = .ok ((z, t), r')) : 1 ≤ t ∧ t ≤ 138 := by
  unfold Inf.run at h
  cases hs : Inf.symb zs r with
  | error e => rw [hs] at h; cases h
  | ok p =>
    obtain ⟨s, r1⟩ := p
    rw [hs] at h
    simp only at h
    split at h
    · cases hn : Inf.numb 2 r1 with
      | error e => rw [hn] at h; cases h
      | ok q =>
        obtain ⟨x, r2⟩ := q
        have hx := numb_lt hn
        rw [hn] at h
        simp only at h
        split at h
        · cases h
        · have := (Prod.mk.inj (Prod.mk.inj (Except.ok.inj h)).1).2
          omega
    · split at h
      · cases hn : Inf.numb 3 r1 with
        | error e => rw [hn] at h; cases h
        | ok q =>
          obtain ⟨x, r2⟩ := q
          have hx := numb_lt hn
          rw [hn] at h
          have := (Prod.mk.inj (Prod.mk.inj (Except.ok.inj h)).1).2
          omega
      · split at h
        · cases hn : Inf.numb 7 r1 with
          | error e => rw [hn] at h; cases h
          | ok q =>
            obtain ⟨x, r2⟩ := q
            have hx := numb_lt hn
            rw [hn] at h
            have := (Prod.mk.inj (Prod.mk.inj (Except.ok.inj h)).1).2
            omega
        · have := (Prod.mk.inj (Prod.mk.inj (Except.ok.inj h)).1).2
          omega
theorem StB.off {w w' : World} {B gt gb g : Nat} {O S : Nat → Prop} {r : List Bool} (h : StB w B O gt gb g r) (ho : OnlyS S w w') (hS : ∀ i, S i → ¬ O i ∧ B ≤ i) (h1 : ¬ S gt) (h2 : ¬ S gb) : StB w' B O gt gb g r :=
  ⟨ho.cell h.c0 h1, ho.cell h.c1 h1, h.out, h.ge, h.hand.only ho hS h2⟩
/-- A row of lengths under way. -/
structure LnAt (w wr : World) (B : Nat) (O O' : Nat → Prop) (gt gb g : Nat) (v : Value) (ahead : List Int) (r : List Bool) : Prop where
  b : StB wr B O' gt gb g r
  own : wr.ownsRow w.heap.size 3 1 v ahead.length (ni ahead)
  apart : ∀ j, v.ownBlock = some j → ¬ O' j
  only : OnlyS O w wr
  grew : Grew w O O'
theorem LnAt.slv {w wr : World} {B gt gb g : Nat} {O O' : Nat → Prop} {v : Value} {ahead : List Int} {r : List Bool} (h : LnAt w wr B O O' gt gb g v ahead r) : SlV wr v (ni ahead) := own_toV h.own
theorem LnAt.read {w wr w' : World} {B gt gb g : Nat} {O O' O2 : Nat → Prop} {v : Value} {ahead : List Int} {r r' : List Bool} (h : LnAt w wr B O O' gt gb g v ahead r) (ho : OnlyS O' wr w') (hs : StB w' B O2 gt gb g r') (hg : Grew wr O' O2) : LnAt w w' B O O2 gt gb g v ahead r' :=
  ⟨hs, own_stays h.own (fun k hk => ho.block k (own_lt h.own k hk).2 (h.apart k hk)), fun j hj => hg.not (h.apart j hj) (own_lt h.own j hj).2, h.only.trans' ho (fun i hi => h.grew i hi), h.grew.trans hg h.only.size⟩
/-- One more. -/
theorem LnAt.more {w wr w1 : World} {B gt gb g : Nat} {O O' : Nat → Prop} {v v' : Value} {ahead : List Int} {z : Int} {r : List Bool} (h : LnAt w wr B O O' gt gb g v ahead r) (hB : B ≤ w.heap.size) (hlt : gt < w.heap.size ∧ gb < w.heap.size)
    (hown : w1.ownsRow w.heap.size 3 1 v' (ahead.length + 1) (ni ahead ++ [.int .i64 z])) (hgr : (wr.alloc (.cells #[.int .i64 z] 3)).grownBy w1 v.ownBlock) (hat : v'.ownBlock = v.ownBlock ∨ v'.ownBlock = some (wr.alloc (.cells #[.int .i64 z] 3)).heap.size) :
    LnAt w w1 B O O' gt gb g v' (ahead ++ [z]) r := by
  have ha : OnlyS (fun _ => False) wr (wr.alloc (.cells #[.int .i64 z] 3)) := OnlyS.alloc _ _
  have hg1 : OnlyS (fun i => v.ownBlock = some i) (wr.alloc (.cells #[.int .i64 z] 3)) w1 := OnlyS.grown hgr (fun k hk => hk)
  have hlo : ∀ i, v.ownBlock = some i → w.heap.size ≤ i := fun i hi => (own_lt h.own i hi).1
  refine ⟨((h.b.same ha).off hg1 (fun i hi => ⟨h.apart i hi, by have := hlo i hi; omega⟩) (fun hi => by have := hlo _ hi; omega) (fun hi => by have := hlo _ hi; omega)), by simpa [ni] using hown, ?_, (h.only.trans (ha.mono fun _ _ h => h.elim)).trans' hg1 (fun i hi => .inr (hlo i hi)), h.grew⟩
  intro j hj
  rcases hat with h1 | h1
  · exact h.apart j (by rw [← h1]; exact hj)
  · rw [h1] at hj; cases hj
    intro hO
    have := (h.b.hand.src.own _ hO).2
    simp at this; omega
def LensPost (R0 : Inf.Res (List Int)) (B : Nat) (O : Nat → Prop) (gt gb g : Nat) (w : World) (e : Ending) (w' : World) : Prop :=
  OnlyS O w w' ∧ match R0 with
  | .ok (l, r') => ∃ u O', e = .returned u ∧ LnAt w w' B O O' gt gb g u l r'
  | .error er => e = pan er
set_option maxRecDepth 100000 in
set_option maxHeartbeats 1000000 in
theorem lengths_walk (w : World) (B : Nat) (O : Nat → Prop) (gt gb g kb many : Nat) (zs : List Int) (r : List Bool) (h : StB w B O gt gb g r) (hk : BkAt w O kb zs) (hm : many ≤ 1024) (hB : B ≤ w.heap.size) :
    Calls Tryd.prog 70 #[.pointer (some ⟨gt, 0, none⟩),   .pointer (some ⟨kb, 0, none⟩), .int .i64 (many : Int)] w (LensPost (Inf.lens zs many (many + 1) [] r) B O gt gb g w) := by
  obtain ⟨R0, hR0⟩ : ∃ R0, R0 = Inf.lens zs many (many + 1) [] r := ⟨_, rfl⟩
  rw [← hR0]
  have H0 : Hid (∃ O' v ahead rc, LnAt w w B O O' gt gb g v ahead rc ∧ 1 ≤ many + 1 ∧ many < many + 1 + ahead.length ∧ ahead.length ≤ many + 138 ∧ v = .slice none 0 0 ∧ R0 = Inf.lens zs many (many + 1) ahead rc) := Lib.hid ⟨O, .slice none 0 0, [], r, ⟨h, World.ownsRow_nil _ _ _ _, (fun j hj => by cases hj), OnlyS.refl _ _, Grew.refl _ _⟩, by omega, by omega, by simp, rfl, hR0⟩
  have HK := Lib.hid hk
  have HLT : Hid (gt < w.heap.size ∧ gb < w.heap.size) := Lib.hid ⟨h.lt, h.hand.box.lt⟩
  have HB := Lib.hid hB
  obtain ⟨i0, hi, hz0, hz1, hz2⟩ := info_parts info3
  have HI0 := Lib.hid (And.intro hi (And.intro hz0 (And.intro hz1 hz2)))
  clear h hk hB hR0 hi hz0 hz1 hz2
  go_enter Tryd.func70, Tryd.ntmps70
  go_wp2_with fail
  go_loopg [7, 8, 9, 22] (many + 1) (fun f v7 _ _ _ wr => ∃ O' ahead rc, LnAt w wr B O O' gt gb g v7 ahead rc ∧ 1 ≤ f ∧ many < f + ahead.length ∧ ahead.length ≤ many + 138 ∧ R0 = Inf.lens zs many f ahead rc)
  case atStart =>
    obtain ⟨O', v, ahead, rc, h1, h2, h2', h3, rfl, h5⟩ := H0.out
    exact ⟨O', ahead, rc, h1, h2, h2', h3, h5⟩
  case round =>
    clear H0
    obtain ⟨O1, ahead, rc, h1, hgk1, hlen, hlen2, he1⟩ := hrel
    obtain ⟨pa, ca, hsh⟩ := h1.slv.shape
    rw [ni_length] at hsh
    obtain ⟨l, hl⟩ : ∃ l, l = ahead.length := ⟨_, rfl⟩
    rw [← hl] at hlen hlen2 hsh
    have HL := Lib.hid hl
    subst hsh
    have H1 := Lib.hid h1
    obtain ⟨f, hf⟩ : ∃ f, gk = f + 1 := ⟨gk - 1, by omega⟩
    subst hf
    rw [Inf.lens, ← hl] at he1
    by_cases hlm : l < many
    · rw [if_pos hlm] at he1
      have hlmi : (l : Int) < (many : Int) := by omega
      have HC := Lib.hid (run_walk wr B O1 gt gb g kb zs ahead (.slice pa l ca) rc h1.b (HK.out.next h1.only h1.grew) h1.slv (fun p n cap e h0 hO => h1.apart p.block (own_block h1.own e) hO) (by omega))
      cases hres : Inf.run zs ahead rc with
      | error er =>
        rw [hres] at HC he1
        have HE := Lib.hid he1
        clear h1 he1 hres hl
        go_wp2_with fail
        refine HC.out.mono ?_
        rintro e w1 ⟨ho, rfl⟩
        have HO := Lib.hid (H1.out.only.trans' ho (fun i hi => H1.out.grew i hi))
        clear ho
        go_wp2_with fail
        exact ⟨rfl, HO.out, by rw [HE.out]⟩
      | ok q =>
        obtain ⟨⟨z, t⟩, r2⟩ := q
        have ht := run_bound hres
        rw [hres] at HC he1
        have HE := Lib.hid he1
        unfold rv at HC
        clear h1 he1 hres hl
        go_wp2_with fail
        refine HC.out.mono ?_
        rintro e w1 ⟨ho, rfl, O2, hs2, hg2⟩
        have H2 := Lib.hid (H1.out.read ho hs2 hg2)
        clear ho hs2 hg2 H1 HC
        go_wp2_with fail
        go_loopw [7, 22] (fun v7 v22 ws => ∃ i : Nat, i ≤ t ∧ v22 = .int .i64 i ∧ LnAt w ws B O O2 gt gb g v7 (ahead ++ List.replicate i z) r2) (fun _ v22 _ => t - (intOf v22).toNat)
        case atStart => exact ⟨0, Nat.zero_le _, rfl, by simpa using H2.out⟩
        case round =>
          clear H2
          obtain ⟨i, hi, rfl, h3⟩ := hrel
          obtain ⟨pb, cb, hsh⟩ := h3.slv.shape
          have hal : (ahead ++ List.replicate i z).length = l + i := by rw [List.length_append, List.length_replicate, ← HL.out]
          rw [ni_length, hal] at hsh
          subst hsh
          have H3 := Lib.hid h3
          by_cases hit : i < t
          · have hiti : (i : Int) < (t : Int) := by omega
            have HOW : Hid ((wr.alloc (.cells #[.int .i64 z] 3)).ownsRow w.heap.size 3 1 (.slice pb (l + i) cb) (l + i) (ni (ahead ++ List.replicate i z))) := Lib.hid (by have := h3.own; rw [hal] at this; exact World.ownsRow.alloc this _)
            have HSK : Hid (SlK 1 (wr.alloc (.cells #[.int .i64 z] 3)) (.slice (some ⟨wr.heap.size, 0, none⟩) 1 1) 1 (ni [z])) := Lib.hid (by have := (slv_lit wr (ni [z]) 3).toK; simpa [ni] using this)
            have HBS : Hid (w.heap.size ≤ (wr.alloc (.cells #[.int .i64 z] 3)).heap.size) := Lib.hid (by have := h3.only.size; simp; omega)
            have HAL := Lib.hid hal
            clear h3 hal
            go_wp2_with (refine wpList_appK 53 3 i0 (.int .i64 0) 1 8 Tryd.underlying53 HI0.out.1 HI0.out.2.1 HI0.out.2.2.1 HI0.out.2.2.2 rfl (by decide) (by decide) rfl (.tmp 24) (.tmp 26) rfl w.heap.size (.slice pb (l + i) cb) (.slice (some ⟨wr.heap.size, 0, none⟩) 1 1) (l + i) 1 (ni (ahead ++ List.replicate i z)) (ni [z]) rfl rfl (ni_one _) HOW.out HSK.out HBS.out (by omega) ?_; intro v' w6 hown hgrow hat; have HM := Lib.hid (H3.out.more HB.out HLT.out (by rw [HAL.out]; exact hown) hgrow hat); clear hown hgrow hat)
            exact ⟨⟨i + 1, by omega, by go_num, by rw [List.replicate_succ', ← List.append_assoc]; exact HM.out⟩, by simp [intOf]; omega⟩
          · have hiti : (t : Int) ≤ (i : Int) := by omega
            obtain rfl : i = t := by omega
            clear h3 hal
            go_wp2_with fail
            go_roundg f
            case measure => omega
            case rel => exact ⟨O2, _, r2, H3.out, by omega, by rw [List.length_append, List.length_replicate, ← HL.out]; omega, by rw [List.length_append, List.length_replicate, ← HL.out]; omega, HE.out⟩
    · rw [if_neg hlm] at he1
      have hlmi : (many : Int) ≤ (l : Int) := by omega
      by_cases hgt : many < l
      · rw [if_pos hgt] at he1
        have HE := Lib.hid he1
        have hd : decide ((many : Int) < (l : Int)) = true := by simp; omega
        clear h1 he1 hl
        go_wp2_with fail
        refine (refuse_yes _ 20).mono ?_
        rintro e w1 ⟨rfl, rfl⟩
        go_wp2_with fail
        exact ⟨rfl, H1.out.only, by rw [HE.out]⟩
      · rw [if_neg hgt] at he1
        have HE := Lib.hid he1
        have hd : decide ((many : Int) < (l : Int)) = false := by simp; omega
        clear h1 he1 hl
        go_wp2_with fail
        refine (refuse_no _ 20).mono ?_
        rintro e w1 ⟨rfl, rfl⟩
        go_wp2_with fail
        go_ret
        exact ⟨H1.out.only, by rw [HE.out]; exact ⟨_, O1, rfl, H1.out⟩⟩
end Go.Proofs.YtefeilgbofphjaaDoor
