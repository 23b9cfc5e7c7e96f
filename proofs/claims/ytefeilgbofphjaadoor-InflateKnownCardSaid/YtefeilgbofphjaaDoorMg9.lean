/-
  Merged, in the order in which they build: Lists2 Backward Lay.
-/
import Derived.RangeFuncNested
import Derived.RangeFuncBound
import Derived.RangeFuncCalls
import Derived.RangeFuncLeaves
import Derived.RangeFuncBox
import Derived.RangeFuncWrites
import Derived.Shelf.Abstract
import Derived.OwnWalkIn
import Derived.TacticsInMore
import Derived.LoopNIn
import Derived.LoopIn
import Derived.Test.YtefeilgbofphjaaDoorMg8
/-
  The contract of lists.
-/
namespace Go.Proofs.YtefeilgbofphjaaDoor
open Go.RowKit Hf

/-- The list as it begins, and behind each packing. -/
def lst (items : List (Int × Bool)) : Nat → List (Int × Bool)
  | 0 => items
  | j + 1 => mg items (pk (lst items j))
def esum (es : List (Int × Bool)) : Int := (es.map (·.1)).sum
def epos (es : List (Int × Bool)) : Prop := ∀ e ∈ es, 0 ≤ e.1
theorem esum_cons (e : Int × Bool) (t : List (Int × Bool)) : esum (e :: t) = e.1 + esum t := rfl
theorem esum_append (a b : List (Int × Bool)) : esum (a ++ b) = esum a + esum b := by simp [esum]
theorem esum_pos (es : List (Int × Bool)) (h : epos es) : 0 ≤ esum es := by
  induction es with
  | nil => exact Int.le_refl _
  | cons e t ih =>
    rw [esum_cons]
    have := h e (by simp)
    have := ih (fun x hx => h x (by simp [hx]))
    omega
theorem esum_mem (es : List (Int × Bool)) (h : epos es) (e : Int × Bool) (he : e ∈ es) : e.1 ≤ esum es := by
  induction es with
  | nil => cases he
  | cons x t ih =>
    rw [esum_cons]
    have h0 := h x (by simp)
    have h1 := esum_pos t (fun y hy => h y (by simp [hy]))
    rcases List.mem_cons.1 he with rfl | he
    · omega
    · have := ih (fun y hy => h y (by simp [hy])) he
      omega
theorem mg_perm (items packs : List (Int × Bool)) : esum (mg items packs) = esum items + esum packs ∧ (epos items → epos packs → epos (mg items packs)) := by
  induction packs generalizing items with
  | nil => exact ⟨by simp [mg, esum], fun h _ => h⟩
  | cons p t ih =>
    have h1 := ih (items.dropWhile (fun e => decide (e.1 ≤ p.1)))
    have h2 := List.takeWhile_append_dropWhile (p := fun e : Int × Bool => decide (e.1 ≤ p.1)) (l := items)
    refine ⟨?_, fun hi hp => ?_⟩
    · rw [mg, esum_append, esum_cons, h1.1, esum_cons]
      have := congrArg esum h2
      rw [esum_append] at this
      omega
    · rw [mg]
      intro e he
      rcases List.mem_append.1 he with he | he
      · exact hi e (by rw [← h2]; exact List.mem_append.2 (.inl he))
      · rcases List.mem_cons.1 he with rfl | he
        · exact hp _ (by simp)
        · exact h1.2 (fun x hx => hi x (by rw [← h2]; exact List.mem_append.2 (.inr hx))) (fun x hx => hp x (by simp [hx])) e he
theorem pk_facts : ∀ (es : List (Int × Bool)), epos es → esum (pk es) ≤ esum es ∧ epos (pk es) ∧ (pk es).length ≤ es.length / 2
  | [], _ => ⟨Int.le_refl _, fun e he => (by cases he), Nat.zero_le _⟩
  | [x], h => ⟨by have := h x (by simp); show esum [] ≤ esum [x]; rw [esum_cons]; simp [esum]; omega, fun e he => (by cases he), Nat.zero_le _⟩
  | x :: y :: t, h => by
    have h0 := h x (by simp)
    have h1 := h y (by simp)
    obtain ⟨i1, i2, i3⟩ := pk_facts t (fun e he => h e (by simp [he]))
    refine ⟨?_, ?_, ?_⟩
    · show esum ((x.1 + y.1, true) :: pk t) ≤ _
      rw [esum_cons, esum_cons, esum_cons]; simp only; omega
    · intro e he
      have he : e ∈ (x.1 + y.1, true) :: pk t := he
      rcases List.mem_cons.1 he with rfl | he
      · simp only; omega
      · exact i2 e he
    · show ((x.1 + y.1, true) :: pk t).length ≤ _
      simp only [List.length_cons]; omega
theorem lst_facts (items : List (Int × Bool)) (h : epos items) (S : Int) (hS : esum items ≤ S) (j : Nat) : epos (lst items j) ∧ esum (lst items j) ≤ (j + 1) * S ∧ (lst items j).length ≤ 2 * items.length := by
  induction j with
  | zero => exact ⟨h, by show esum items ≤ _; simpa using hS, by show items.length ≤ _; omega⟩
  | succ j ih =>
    obtain ⟨h1, h2, h3⟩ := pk_facts _ ih.1
    obtain ⟨m1, m2⟩ := mg_perm items (pk (lst items j))
    refine ⟨m2 h h2, ?_, ?_⟩
    · show esum (mg items (pk (lst items j))) ≤ _
      rw [m1]
      have := ih.2.1
      have e : (((j + 1 : Nat) : Int) + 1) * S = S + ((j : Int) + 1) * S := by rw [Int.natCast_add, Int.add_mul, Int.add_comm]; simp
      rw [e]; omega
    · show (mg items (pk (lst items j))).length ≤ _
      rw [mg_length]
      have := ih.2.2
      omega
def cnts (counts : List Int) (syms : List Nat) : List Int := syms.map fun s => counts.getD s 0
def nsy (syms : List Nat) : List Int := syms.map fun (s : Nat) => (s : Int)
/-- Items of counts. -/
def its (cs : List Int) : List (Int × Bool) := cs.map fun c => (c, false)
theorem own_leK {base B k : Nat} {e : TypeId} {w : World} {v : Value} {n : Nat} {l : List Value} (h : w.ownsRow base e k v n l) (hB : B ≤ base) : w.ownsRow B e k v n l := by
  obtain ⟨h0, ⟨h1, h2⟩ | ⟨g, cap, cur, h1, h2, h3⟩⟩ := h
  · exact ⟨h0, .inl ⟨h1, h2⟩⟩
  · exact ⟨h0, .inr ⟨g, cap, cur, h1, by omega, h3⟩⟩
theorem own_staysK {base k : Nat} {e : TypeId} {w w' : World} {v : Value} {n : Nat} {l : List Value} (h : w.ownsRow base e k v n l) (hb : ∀ j, v.ownBlock = some j → w'.heap[j]? = w.heap[j]?) : w'.ownsRow base e k v n l := by
  obtain ⟨h0, ⟨h1, h2⟩ | ⟨g, cap, cur, h1, h2, h3, h4⟩⟩ := h
  · exact ⟨h0, .inl ⟨h1, h2⟩⟩
  · exact ⟨h0, .inr ⟨g, cap, cur, h1, h2, (hb g (by rw [h1]; rfl)).trans h3, h4⟩⟩
theorem own_apart {b1 b2 k1 k2 : Nat} {e1 e2 : TypeId} {w : World} {v u : Value} {n m : Nat} {l r : List Value} (h : w.ownsRow b1 e1 k1 v n l) (h' : w.ownsRow b2 e2 k2 u m r) (hne : e1 ≠ e2) : ∀ j, v.ownBlock = some j → u.ownBlock ≠ some j := by
  intro j hj hu
  obtain ⟨_, ⟨h1, h2⟩ | ⟨g, cap, cur, h1, h2, h3, h4⟩⟩ := h
  · rw [h1] at hj; cases hj
  obtain ⟨_, ⟨h1', h2'⟩ | ⟨g', cap', cur', h1', h2', h3', h4'⟩⟩ := h'
  · rw [h1'] at hu; cases hu
  rw [h1] at hj; rw [h1'] at hu
  simp [Value.ownBlock] at hj hu
  subst hj; subst hu
  rw [h3] at h3'
  simp at h3'
  exact hne h3'.2
theorem info104 : (Tryd.prog.info? 104).map (fun i => (i.zero, i.size, i.bytes)) = some (some (.slice none 0 0), 1, 24) := by kernel_rfl
theorem ne_set (es : List (Int × Bool)) (k : Nat) (hk : k < es.length) (c : Int) : (ne es).set (k * 2) (.int .i64 c) = ne (es.set k (c, (es[k]).2)) := by
  induction es generalizing k with
  | nil => simp at hk
  | cons e t ih =>
    cases k with
    | zero => rfl
    | succ k =>
      rw [ne_cons, show (k + 1) * 2 = k * 2 + 1 + 1 by omega, List.set_cons_succ, List.set_cons_succ, ih k (by simpa using hk)]
      rfl
/-- Items whose first k have their counts. -/
def ito (cs : List Int) (k : Nat) : List (Int × Bool) := (List.range cs.length).map fun i => (if i < k then cs.getD i 0 else 0, false)
theorem ito_length (cs : List Int) (k : Nat) : (ito cs k).length = cs.length := by simp [ito]
theorem ito_step (cs : List Int) (k : Nat) (hk : k < cs.length) : ne (ito cs (k + 1)) = (ne (ito cs k)).set (k * 2) (.int .i64 (cs.getD k 0)) := by
  rw [ne_set _ k (by rw [ito_length]; exact hk)]
  congr 1
  apply List.ext_getElem (by simp [ito])
  intro i h1 h2
  simp only [ito, List.getElem_map, List.getElem_range, List.getElem_set]
  by_cases h : k = i
  · subst h; simp
  · rw [if_neg h]
    by_cases h3 : i < k
    · rw [if_pos h3, if_pos (by omega)]
    · rw [if_neg h3, if_neg (by omega)]
theorem ito_all (cs : List Int) : ito cs cs.length = its cs := by
  apply List.ext_getElem (by simp [ito, its])
  intro i h1 h2
  have : i < cs.length := by simpa [ito] using h1
  simp [ito, its, this]
theorem made_E (n : Nat) : (madeCells (Value.agg #[.int .i64 0, .bool false]).cells (n * 2)).toList = ne (List.replicate n (0, false)) := by
  apply List.ext_getElem
  · simp [ne_length, size_madeCells]
  · intro i h1 h2
    have hi : i < n * 2 := by simpa [ne_length] using h2
    have key : ∀ (n j : Nat), j < n → (ne (List.replicate n (0, false)))[j * 2]? = some (.int .i64 0) ∧ (ne (List.replicate n (0, false)))[j * 2 + 1]? = some (.bool false) := by
      intro n
      induction n with
      | zero => intro j hj; omega
      | succ n ih =>
        intro j hj
        rw [List.replicate_succ, ne_cons]
        cases j with
        | zero => exact ⟨rfl, rfl⟩
        | succ j =>
          have := ih j (by omega)
          rw [show (j + 1) * 2 = j * 2 + 1 + 1 by omega]
          exact ⟨this.1, this.2⟩
    have h3 := key n (i / 2) (by omega)
    have e2 : ∀ v, (ne (List.replicate n (0, false)))[i]? = some v → (ne (List.replicate n (0, false)))[i] = v := fun v hv => (List.getElem?_eq_some_iff.1 hv).2
    rcases Nat.mod_two_eq_zero_or_one i with h | h
    · rw [e2 (.int .i64 0) (by rw [← h3.1]; congr 1; omega)]
      simp [madeCells, Value.cells, h]
    · rw [e2 (.bool false) (by rw [← h3.2]; congr 1; omega)]
      simp [madeCells, Value.cells, h]
structure IRel (w wr : World) (es : List (Int × Bool)) : Prop where
  below : Below w.heap.size w wr
  row : wr.heap[w.heap.size]? = some (.cells (ne es).toArray 106 (0, 0))
theorem IRel.cell {w wr : World} {es : List (Int × Bool)} (h : IRel w wr es) (k : Nat) (hk : k < es.length) : ∃ u, wr.cell? ⟨w.heap.size, k * 2, none⟩ = some u := by
  have : k * 2 < (ne es).length := by rw [ne_length]; omega
  exact ⟨(ne es)[k * 2], by rw [cell_of_row _ _ _ _ _ _ h.row]; simp [this]⟩
theorem IRel.free {w wr : World} {es : List (Int × Bool)} (h : IRel w wr es) (k : Nat) : wr.frozen? ⟨w.heap.size, k, none⟩ = false := frozen_of_row _ _ _ _ _ h.row
theorem IRel.step {w wr : World} {cs : List Int} {k : Nat} (h : IRel w wr (ito cs k)) (hk : k < cs.length) : IRel w (wr.setCell ⟨w.heap.size, k * 2, none⟩ (.int .i64 (cs.getD k 0))) (ito cs (k + 1)) :=
  ⟨h.below.setCell (Nat.le_refl _) _, by rw [heap_setCell_same _ _ _ _ _ _ h.row, ito_step cs k hk]; simp⟩
theorem IRel.own {w wr : World} {es : List (Int × Bool)} (h : IRel w wr es) (hl : es.length ≤ 4096) : wr.ownsRow w.heap.size 106 2 (.slice (some ⟨w.heap.size, 0, none⟩) es.length es.length) es.length (ne es) :=
  ⟨ne_length es, .inr ⟨w.heap.size, es.length, _, rfl, Nat.le_refl _, h.row, Nat.le_refl _, by unfold maxLen; omega, by simp [ne_length], by rw [← ne_length]; exact List.take_length⟩⟩
structure LsRel (w wr : World) (items : List (Int × Bool)) (v : Value) (vs : List Value) : Prop where
  below : Below w.heap.size w wr
  own : wr.ownsRow w.heap.size 104 1 v vs.length vs
  each : ∀ j u, vs[j]? = some u → wr.ownsRow w.heap.size 106 2 u (lst items j).length (ne (lst items j))
theorem LsRel.stays {w wr w' : World} {items : List (Int × Bool)} {v : Value} {vs : List Value} (h : LsRel w wr items v vs) (hb : Below wr.heap.size wr w') : LsRel w w' items v vs :=
  ⟨h.below.trans (hb.mono h.below.size), own_staysK h.own (fun j hj => hb.block j (h.own.lt j hj).2), fun j u hu => own_staysK (h.each j u hu) (fun i hi => hb.block i ((h.each j u hu).lt i hi).2)⟩
theorem LsRel.app {w wr wa w6 : World} {items : List (Int × Bool)} {v v' x : Value} {vs : List Value} (h : LsRel w wr items v vs) (hwa : Below wr.heap.size wr wa) (hown : w6.ownsRow w.heap.size 104 1 v' (vs.length + 1) (vs ++ [x])) (hgrow : wa.grownBy w6 v.ownBlock)
    (hx : wr.ownsRow w.heap.size 106 2 x (lst items vs.length).length (ne (lst items vs.length))) : LsRel w w6 items v' (vs ++ [x]) := by
  have key : ∀ {u : Value} {n : Nat} {l : List Value}, wr.ownsRow w.heap.size 106 2 u n l → w6.ownsRow w.heap.size 106 2 u n l := fun {u n l} h0 =>
    own_staysK h0 (fun i hi => by
      have hl := (h0.lt i hi).2
      rw [hgrow.block i (Nat.lt_of_lt_of_le hl hwa.size) (fun e => own_apart h0 h.own (by decide) i hi e.symm), hwa.block i hl])
  refine ⟨(h.below.trans (hwa.mono h.below.size)).grown hgrow (Nat.le_trans h.below.size hwa.size) (fun k e => (h.own.lt k e).1), by rw [List.length_append]; exact hown, fun j u hu => ?_⟩
  rcases Nat.lt_or_ge j vs.length with hj | hj
  · rw [List.getElem?_append_left hj] at hu
    exact key (h.each j u hu)
  · rw [List.getElem?_append_right hj] at hu
    have e0 : j - vs.length = 0 := by
      have := (List.getElem?_eq_some_iff.1 hu).1
      simp at this; omega
    rw [e0] at hu
    simp at hu
    subst hu
    obtain rfl : j = vs.length := by omega
    exact key hx
theorem LsRel.start {w wr : World} {items : List (Int × Bool)} {x : Value} (hb : Below w.heap.size w wr) (hx : wr.ownsRow w.heap.size 106 2 x items.length (ne items)) :
    LsRel w (wr.alloc (.cells #[x] 104)) items (.slice (some ⟨wr.heap.size, 0, none⟩) 1 1) [x] :=
  ⟨hb.alloc hb.size _, ⟨rfl, .inr ⟨wr.heap.size, 1, #[x], rfl, hb.size, heap_alloc_new _ _, Nat.le_refl _, by decide, rfl, rfl⟩⟩, fun j u hu => by
    have e0 : j = 0 := by have := (List.getElem?_eq_some_iff.1 hu).1; simp at this; omega
    subst e0
    simp at hu
    subst hu
    exact hx.alloc _⟩
theorem SlK_one (w : World) (x : Value) : SlK 1 (w.alloc (.cells #[x] 104)) (.slice (some ⟨w.heap.size, 0, none⟩) 1 1) 1 [x] := by
  refine ⟨rfl, .inl ⟨w.heap.size, 0, 1, rfl, Nat.le_refl _, fun i v hi => ?_⟩⟩
  rw [Nat.zero_add]
  exact (cell_of_row _ _ _ _ _ _ (heap_alloc_new w _)).trans (by simpa using hi)
theorem its_pos (counts : List Int) (syms : List Nat) (hc : ∀ c ∈ counts, 0 ≤ c ∧ c ≤ 4294967296) (hs : ∀ s ∈ syms, s < counts.length) (hl : syms.length ≤ 1024) : epos (its (cnts counts syms)) ∧ esum (its (cnts counts syms)) ≤ 4398046511104 := by
  have h1 : ∀ c ∈ cnts counts syms, 0 ≤ c ∧ c ≤ 4294967296 := by
    intro c h
    obtain ⟨s, hs1, rfl⟩ := List.mem_map.1 h
    have hlt := hs s hs1
    have e : counts.getD s 0 = counts[s] := by simp [hlt]
    rw [e]; exact hc _ (List.getElem_mem hlt)
  have h2 : ∀ (l : List Int), (∀ c ∈ l, 0 ≤ c ∧ c ≤ 4294967296) → esum (its l) ≤ (l.length : Int) * 4294967296 := by
    intro l
    induction l with
    | nil => intro _; simp [its, esum]
    | cons c t ih =>
      intro h
      have := ih (fun x hx => h x (by simp [hx]))
      have h0 := h c (by simp)
      show c + esum (its t) ≤ _
      rw [List.length_cons]
      have : ((t.length + 1 : Nat) : Int) * 4294967296 = (t.length : Int) * 4294967296 + 4294967296 := by omega
      omega
  refine ⟨fun e he => ?_, ?_⟩
  · obtain ⟨c, hc1, rfl⟩ := List.mem_map.1 he
    exact (h1 c hc1).1
  · have h3 := h2 _ h1
    have h4 : (cnts counts syms).length = syms.length := by simp [cnts]
    rw [h4] at h3
    omega
def LsPost (items : List (Int × Bool)) (limit : Nat) (w : World) (e : Ending) (w' : World) : Prop :=
  ∃ v vs, e = .returned v ∧ w'.ownsRow w.heap.size 104 1 v (vs : List Value).length vs ∧ vs.length = limit ∧ (∀ j u, vs[j]? = some u → w'.ownsRow w.heap.size 106 2 u (lst items j).length (ne (lst items j))) ∧ Below w.heap.size w w'
set_option maxRecDepth 100000 in
set_option maxHeartbeats 1000000 in
theorem lists_walk (w : World) (v u : Value) (syms : List Nat) (counts : List Int) (limit : Nat) (hv : SlV w v (ni (nsy syms))) (hu : SlV w u (ni counts)) (hs : ∀ s ∈ syms, s < counts.length) (hl : syms.length ≤ 1024) (hlim : 1 ≤ limit ∧ limit ≤ 15)
    (hc : ∀ c ∈ counts, 0 ≤ c ∧ c ≤ 4294967296) : Calls Tryd.prog 36 #[v, u, .int .i64 (limit : Int)] w (LsPost (its (cnts counts syms)) limit w) := by
  obtain ⟨p, cap, rfl⟩ := hv.shape
  obtain ⟨p2, cap2, rfl⟩ := hu.shape
  simp only [ni_length] at hv hu ⊢
  have HV := Lib.hid hv
  have HU := Lib.hid hu
  clear hv hu
  obtain ⟨n, hn⟩ : ∃ n, n = (nsy syms).length := ⟨_, rfl⟩
  obtain ⟨m, hm⟩ : ∃ m, m = counts.length := ⟨_, rfl⟩
  rw [← hn] at HV ⊢
  rw [← hm] at HU ⊢
  have hn1 : n ≤ 1024 := by rw [hn]; simpa [nsy] using hl
  have HN := Lib.hid hn
  have HM := Lib.hid hm
  clear hn hm
  obtain ⟨i0, hi, hz0, hz1, hz2⟩ := info_parts info106
  have HI0 := Lib.hid (And.intro hi (And.intro hz0 (And.intro hz1 hz2)))
  clear hi hz0 hz1 hz2
  go_enter Tryd.func36, Tryd.ntmps36
  go_wp2_with (refine wpList_make_full w rfl _ _ 104 rfl w.heap.size 106 i0 (.agg #[.int .i64 0, .bool false]) 2 Tryd.underlying104 HI0.out.1 HI0.out.2.1 HI0.out.2.2.1 .i64 .i64 _ _ n rfl rfl rfl rfl (by rw [HI0.out.2.2.2]; omega) (by unfold maxLen; omega) (Nat.le_refl _) ?_; intro w1 hown hgrow)
  obtain ⟨cs, hcs⟩ : ∃ cs, cs = cnts counts syms := ⟨_, rfl⟩
  have hcl : cs.length = n := by rw [hcs, HN.out]; simp [cnts, nsy]
  have HI1 : Hid (IRel w w1 (ito cs 0)) := by
    refine Lib.hid ⟨(Below.refl _ _).grown hgrow (Nat.le_refl _) (fun k e => by cases e), ?_⟩
    obtain ⟨h0, ⟨h1, _⟩ | ⟨g, cap', cur, h1, h2, h3, h4, h5, h6, h7⟩⟩ := hown
    · cases h1
    · cases h1
      rw [h3]
      have e : cur.toList = ne (ito cs 0) := by
        rw [List.take_of_length_le (by simp [h6])] at h7
        rw [h7, made_E]
        congr 1
        apply List.ext_getElem (by simp [ito, hcl])
        intro i h1 h2
        simp [ito]
      rw [← e]
  have HCS := Lib.hid hcs
  clear hown hgrow hcs
  go_loopw [8, 9, 16] (fun _ _ v16 wr => ∃ k : Nat, k ≤ n ∧ v16 = .int .i64 k ∧ IRel w wr (ito cs k)) (fun _ _ v16 _ => n - (intOf v16).toNat)
  case atStart => exact ⟨0, Nat.zero_le _, rfl, HI1.out⟩
  case round =>
    clear HI1
    obtain ⟨k, hk, rfl, hR⟩ := hrel
    have HR := Lib.hid hR
    clear hR
    by_cases hlt : k < n
    · have hlti : (k : Int) < (n : Int) := by omega
      obtain ⟨gz, o, rfl, hrow⟩ := HV.out.some (by omega)
      have hcap := HV.out.le
      have hks : k < syms.length := by have := HN.out; simp [nsy] at this; omega
      have hc0 := (hrow.below HR.out.below (hrow.lt (by rw [ni_length, ← HN.out]; omega))).ni k (by rw [← HN.out]; omega)
      have hsk : (nsy syms).getD k 0 = ((syms[k] : Nat) : Int) := by simp [nsy, hks]
      rw [hsk] at hc0
      have hsm := hs syms[k] (List.getElem_mem hks)
      have HCK : Hid (cs.getD k 0 = counts.getD syms[k] 0) := Lib.hid (by rw [HCS.out]; simp [cnts, hks])
      generalize syms[k] = s at *
      rw [← HM.out] at hsm
      have hsmi : (s : Int) < (m : Int) := by omega
      obtain ⟨gu, ou, rfl, hrow2⟩ := HU.out.some (by omega)
      have hcap2 := HU.out.le
      have hc1 := (hrow2.below HR.out.below (hrow2.lt (by rw [ni_length, ← HM.out]; omega))).ni s (by rw [← HM.out]; exact hsm)
      obtain ⟨u, hu⟩ := HR.out.cell k (by rw [ito_length]; omega)
      have hf := HR.out.free (k * 2)
      have HS := Lib.hid (HR.out.step (by omega))
      rw [HCK.out] at HS
      generalize counts.getD s 0 = c at *
      clear hrow hrow2 hsk
      go_wp2_with fail
      exact ⟨⟨k + 1, by omega, by go_num, HS.out⟩, by simp [intOf]; omega⟩
    · have hlti : (n : Int) ≤ (k : Int) := by omega
      obtain rfl : k = n := by omega
      have hR0 := HR.out
      rw [← hcl, ito_all] at hR0
      have HIT : Hid (its cs = its (cnts counts syms)) := Lib.hid (by rw [HCS.out])
      have hil : (its cs).length = k := by simp [its, hcl]
      have HOW := hR0.own (by omega)
      rw [hil] at HOW
      have HOW := Lib.hid HOW
      have HB1 := Lib.hid hR0.below
      clear hR0 HR
      obtain ⟨j0, hj, hj0, hj1, hj2⟩ := info_parts info104
      have HJ0 := Lib.hid (And.intro hj (And.intro hj0 (And.intro hj1 hj2)))
      clear hj hj0 hj1 hj2
      obtain ⟨hpos, hsum⟩ := its_pos counts syms hc hs hl
      rw [← HIT.out] at hpos hsum
      have HF := Lib.hid (fun j => lst_facts (its cs) hpos 4398046511104 hsum j)
      have HLS : Hid (LsRel w (wr.alloc (.cells #[.slice (some ⟨w.heap.size, 0, none⟩) k k] 104)) (its cs) (.slice (some ⟨wr.heap.size, 0, none⟩) 1 1) [.slice (some ⟨w.heap.size, 0, none⟩) k k]) := Lib.hid (LsRel.start HB1.out (by rw [hil]; exact HOW.out))
      have hlim1 : 1 ≤ limit := hlim.1
      have hlim2 : limit ≤ 15 := hlim.2
      have HIL := Lib.hid hil
      go_wp2_with fail
      clear hs hc hpos hsum hil
      generalize wr.heap.size = g0 at *
      generalize wr.alloc (.cells #[.slice (some ⟨w.heap.size, 0, none⟩) k k] 104) = wr1 at *
      have HOW1 : Hid (wr1.ownsRow w.heap.size 106 2 (.slice (some ⟨w.heap.size, 0, none⟩) k k) k (ne (its cs))) := Lib.hid (by have := HLS.out.each 0 _ rfl; rwa [show lst (its cs) 0 = its cs from rfl, HIL.out] at this)
      clear HOW HB1
      go_loopw [10, 34] (fun v10 v34 wr => ∃ j vs, j + 1 ≤ limit ∧ v34 = .int .i64 ((j : Nat) : Int) ∧ (vs : List Value).length = j + 1 ∧ vs[0]? = some (.slice (some ⟨w.heap.size, 0, none⟩) k k) ∧ LsRel w wr (its cs) v10 vs) (fun _ v34 _ => limit - (intOf v34).toNat)
      case atStart => exact ⟨0, _, hlim1, rfl, rfl, rfl, HLS.out⟩
      case round =>
        clear HLS HOW1
        obtain ⟨j, vs, hj, rfl, hvl, hv0, hR⟩ := hrel
        obtain ⟨p10, cap10, hsh0⟩ := own_shape hR.own
        rw [hvl] at hsh0
        subst hsh0
        have HR := Lib.hid hR
        have hO10 := hR.own
        rw [hvl] at hO10
        have HV0 := Lib.hid hv0
        have HVL := Lib.hid hvl
        by_cases hlt : j + 1 < limit
        · have hlti : (j : Int) < (limit : Int) - 1 := by omega
          obtain ⟨x, hx⟩ : ∃ x, vs[j]? = some x := ⟨_, List.getElem?_eq_getElem (by omega)⟩
          have hOx := hR.each j x hx
          obtain ⟨px, capx, rfl⟩ := own_shape hOx
          obtain ⟨ga, capa, hsh, h1, h2, h3, h4, h5, h6, h7⟩ := own_spot hO10 (by omega)
          cases hsh
          have hcx := h5 j _ hx
          have hF := HF.out j
          have hO0 := hR.each 0 _ hv0
          rw [show lst (its cs) 0 = its cs from rfl, HIL.out] at hO0
          have hPK := packages_walk _ _ _ (own_E hOx rfl) (fun e he => ⟨hF.1 e he, by have := esum_mem _ hF.1 e he; have := hF.2.1; omega⟩) (by have := hF.2.2; rw [HIL.out] at this; omega)
          have HPK := Lib.hid hPK
          have HX := Lib.hid hOx
          have HO0 := Lib.hid hO0
          have HF1 := Lib.hid (pk_facts _ hF.1)
          have HF2 := Lib.hid hF
          have hj1 : (j : Int) + 1 - 1 = (j : Int) := by omega
          clear hR hx hv0 hvl hOx hO10 h1 h2 h4 h5 h6 h7 hF hO0 hPK
          go_wp2_with fail
          refine HPK.out.mono ?_
          rintro e w7 ⟨v7, rfl, hO7, hB7⟩
          have HR7 := Lib.hid (HR.out.stays hB7)
          have HO07 := own_staysK HO0.out (fun i hi => hB7.block i (HO0.out.lt i hi).2)
          have hM := merged_walk w7 _ _ _ _ (own_E HO07 HIL.out) (own_E hO7 rfl) (by have h1 := HF1.out.2.2; have h2 := HF2.out.2.2; rw [HIL.out] at h2 ⊢; omega)
          have HMG := Lib.hid hM
          clear hM HO07 hO7 hB7 HPK HR HX HO0
          go_wp2_with fail
          refine HMG.out.mono ?_
          rintro e w8 ⟨v8, rfl, hO8, hB8⟩
          have HR8 := Lib.hid (HR7.out.stays hB8)
          have HO8 := Lib.hid (own_leK hO8 HR7.out.below.size)
          obtain ⟨p8, cap8, rfl⟩ := own_shape hO8
          have HWA : Hid (Below w8.heap.size w8 (w8.alloc (.cells #[.slice p8 (mg (its cs) (pk (lst (its cs) j))).length cap8] 104))) := Lib.hid ((Below.refl _ _).alloc (Nat.le_refl _) _)
          have HOA : Hid (w8.ownsRow w.heap.size 104 1 (.slice (some ⟨ga, 0, none⟩) (j + 1) cap10) (j + 1) vs) := Lib.hid (by have := HR8.out.own; rwa [HVL.out] at this)
          have HX8 : Hid (w8.ownsRow w.heap.size 106 2 (.slice p8 (mg (its cs) (pk (lst (its cs) j))).length cap8) (lst (its cs) (j + 1)).length (ne (lst (its cs) (j + 1)))) := Lib.hid HO8.out
          clear hO8 hB8 HMG HR7 HO8
          generalize (mg (its cs) (pk (lst (its cs) j))).length = n8 at *
          go_wp2_with (refine wpList_appK 88 104 j0 (.slice none 0 0) 1 24 Tryd.underlying88 HJ0.out.1 HJ0.out.2.1 HJ0.out.2.2.1 HJ0.out.2.2.2 rfl (by decide) (by decide) rfl _ _ rfl w.heap.size (.slice (some ⟨ga, 0, none⟩) (j + 1) cap10) (.slice (some ⟨w8.heap.size, 0, none⟩) 1 1) (j + 1) 1 vs [.slice p8 n8 cap8] rfl rfl (by intro y hy; simp at hy; subst hy; rfl) (HOA.out.alloc _) (SlK_one w8 _) (Nat.le_trans HR8.out.below.size (by simp)) (by omega) ?_; intro v' w9 hown hgrow _; have hR9 := HR8.out.app HWA.out (by rw [HVL.out]; exact hown) hgrow (by rw [HVL.out]; exact HX8.out); obtain ⟨p9, cap9, hv'⟩ := own_shape hown; have HR9 := Lib.hid hR9; clear hown hgrow hR9; subst hv')
          refine ⟨⟨j + 1, vs ++ [.slice p8 n8 cap8], by omega, by go_num, by simp [HVL.out], ?_, HR9.out⟩, by simp [intOf]; omega⟩
          rw [List.getElem?_append_left (by rw [HVL.out]; omega)]; exact HV0.out
        · have hlti : (limit : Int) - 1 ≤ (j : Int) := by omega
          go_wp2_with fail
          go_ret
          refine ⟨_, vs, rfl, HR.out.own, by rw [HVL.out]; omega, ?_, HR.out.below⟩
          rw [← HIT.out]; exact HR.out.each
end Go.Proofs.YtefeilgbofphjaaDoor
/-
  slices.Backward over a slice of lists: what its iterator hands on.
-/
namespace Go.Proofs.YtefeilgbofphjaaDoor
open Go.RowKit Hf
attribute [local go_sem] Oper.semAt_some

/-- What the k-th round is handed, from the last place on. -/
def encB (vs : List Value) (k : Nat) : Array Value := #[.int .i64 ((vs.length - 1 - k : Nat) : Int), vs.getD (vs.length - 1 - k) undef]
/-- An iterator whose rounds come in one row, known ahead: N of them, none of them stopped. -/
def SeqRow (F : Fence) (n : Nat) (P : Program) (g : Nat) (lb : Array Value) (encs : Nat → Array Value) (Kp : World → World → Prop) (N : Nat) (W : World) : Prop :=
  ∀ (l : Nat) (J : Nat → World → Prop),
    (∀ k W1, J k W1 → k < N → YieldAt F (n - 1) P l (encs k) W1 fun e W' => e = .returned (.bool true) ∧ J (k + 1) W' ∧ Kp W1 W') →
    J 0 W → CallsIn F n P g (#[.func (.yield l) #[] #[]] ++ lb) W fun e W' => (∃ v, e = .returned v) ∧ J N W'
/-- What a round owes: nothing of the loop's own book-keeping has turned. -/
def rowPost (B : Nat) (Kp : World → World → Prop) (I : Nat → World → Prop) (k : Nat) (W : World) : Exit → Act → World → Prop
  | .normal, _, W' => KeepsFrom B W W' ∧ Kp W W' ∧ I (k + 1) W'
  | _, _, _ => False
/-- THE LOOP OVER SUCH AN ITERATOR: each round is asked at its own place alone. -/
theorem wpIn_rangeRow {F : Fence} {n : Nat} {P : Program} {g : Operand} {ps : Array Tmp} {assign body : Code} {Q : Exit → Act → World → Prop} {a : Act} {w : World}
    (hro : F.round = none) (h1 : 1 ≤ n) {gf : Nat} {lb : Array Value} (hg : a.eval g = .func (.func gf) #[] lb) (hFg : F.fn gf) (eg : ∀ args w, (callFunc gf args).run P w = .ok (.enter gf args) w)
    {encs : Nat → Array Value} {Kp : World → World → Prop} {N : Nat} (hseq : ∀ W, Below w.heap.size w W → SeqRow F (n - 1) P gf lb encs Kp N W)
    (hKt : ∀ {A B C : World}, Kp A B → Kp B C → Kp A C) (hKb : ∀ (W : World) (l : Nat) (o' : Obj), w.heap.size ≤ l → Kp W (W.putObj l o')) (hps : ∀ k, (encs k).size = ps.size)
    (I : Nat → World → Prop) (hI : OwnFrom w.heap.size I) (h0 : I 0 w) (a₁ : Nat → Act)
    (hassign : ∀ (l k : Nat) (W : World) (K : Act → World → Prop), k < N → K (a₁ k) W →
      assign.wpIn (F.inRound l) (n - 1 - 1) P (Exit.then K (fun _ _ _ => False)) { tmps := (ps.zip (encs k)).foldl (fun t (p, v) => t.setIfInBounds p v) a.tmps, defers := [] } W)
    (hbody : ∀ (l k : Nat) (W : World), I k W → k < N → body.wpIn (F.inRound l) (n - 1 - 1) P (rowPost w.heap.size Kp I k W) (a₁ k) W)
    (hdone : ∀ (D : Nat) (W : World), w.heap.size ≤ D → I N W → W.heap[D]? = some (.deferred (some [])) → Q .normal { a with defers := { target := .collected D, args := #[] } :: a.defers } W) :
    (Code.rangeFunc g ps assign body).wpIn F n P Q a w := by
  refine wpIn_rangeFunc fun fn hfn => ?_
  rw [hro]
  let rec_ : LoopState → Loop := fun st => { state := st, pending := none, fn, tmps := a.tmps, params := ps, assign, body, defers := w.heap.size }
  let l := w.heap.size + 1
  let W1 := (w.alloc (.deferred (some []))).alloc (.loop (rec_ .ready))
  have hl1 : W1.heap[l]? = some (.loop (rec_ .ready)) := by
    have := World.alloc_heap_new (w.alloc (.deferred (some []))) (.loop (rec_ .ready)); rwa [World.size_alloc] at this
  have hd1 : W1.heap[w.heap.size]? = some (.deferred (some [])) := (Below.heap_alloc _ _ _ (by simp)).trans (World.alloc_heap_new w _)
  have hi1 : I 0 W1 := hI.alloc _ (hI.alloc _ h0)
  have hB1 : Below w.heap.size w W1 := ((Below.refl _ w).alloc (Nat.le_refl _) _).alloc (by simp) _
  have hno : ∀ st, (Obj.loop (rec_ st)).isCells = false := fun _ => rfl
  refine ⟨l, [{ target := .collected w.heap.size, args := #[] }], W1, { target := .fn (.func gf) lb, args := #[.func (.yield l) #[] #[]] }, W1, gf, #[.func (.yield l) #[] #[]] ++ lb, W1,
    run_enterLoop_outer _ _ _ _ _, by simp only [resolve, hg]; simp [go_sem], fun f' hf' => by simp [Target.leads] at hf'; subst hf'; exact hFg, by simp [invoke, go_sem, eg], fun _ => h1, ?_⟩
  refine (hseq W1 hB1 l (fun k W => I k W ∧ W.heap[l]? = some (.loop (rec_ .ready)) ∧ W.heap[w.heap.size]? = some (.deferred (some []))) ?_ ⟨hi1, hl1, hd1⟩).mono ?_
  · rintro k W ⟨hi, hl, hd⟩ hk
    have hsz : l < W.heap.size := (Array.getElem?_eq_some_iff.1 hl).1
    refine ⟨fn, _, assign, body, run_yield (P := P) (args := encs k) hl (hps k), roundIn_of_wpIn hfn (hassign l k W _ hk ⟨_, run_beginRound hl rfl, ?_⟩)⟩
    have hl2 : (W.putObj l (.loop (rec_ .busy))).heap[l]? = some (.loop (rec_ .busy)) := World.putObj_heap_same hsz
    have hd2 : (W.putObj l (.loop (rec_ .busy))).heap[w.heap.size]? = some (.deferred (some [])) := (World.putObj_heap_other (by omega)).trans hd
    refine wpIn_mono (hbody l k _ (hI.putObj _ hi (by omega) hl (hno _)) hk) ?_
    rintro e a3 W3 hp
    cases e with
    | normal =>
      obtain ⟨hk3, hkp, hi3⟩ := hp
      have hl3 := hk3.same _ _ (by omega) hl2 (hno _)
      refine ⟨_, _, run_endRound (P := P) none hl3, rfl, ⟨hI.putObj _ hi3 (by omega) hl3 (hno _), World.putObj_heap_same (Array.getElem?_eq_some_iff.1 hl3).1, ?_⟩, hKt (hKt (hKb _ _ _ (by omega)) hkp) (hKb _ _ _ (by omega))⟩
      exact (World.putObj_heap_other (by omega)).trans (hk3.same _ _ (Nat.le_refl _) hd2 rfl)
    | _ => exact hp.elim
  · rintro e W2 ⟨⟨v, rfl⟩, hi, hl, hd⟩
    exact ⟨none, _, run_endLoop (P := P) hl (by show LoopState.ready ≠ _; simp), hdone _ _ (Nat.le_refl _) (hI.putObj _ hi (by omega) hl (hno _)) ((World.putObj_heap_other (by omega)).trans hd)⟩
set_option maxRecDepth 100000 in
set_option maxHeartbeats 2000000 in
theorem back1_in (F : Fence) (n : Nat) (h8 : F.fn 74) (hro : F.round = none) (hn : 1 ≤ n) (S : Nat → Prop) (l Bs b cap : Nat) (vs : List Value) (hreach : vs.length ≤ 64) (hb : ¬ S b) (hBn : ¬ S Bs) (J : Nat → World → Prop)
    (hY : ∀ k W, J k W → k < vs.length → YieldAt F (n - 1) Tryd.prog l (encB vs k) W fun e W' => e = .returned (.bool true) ∧ J (k + 1) W' ∧ OnlyS S W W')
    (W : World) (hBs : W.cell? ⟨Bs, 0, none⟩ = some (.slice (some ⟨b, 0, none⟩) vs.length cap)) (hc : ∀ j u, vs[j]? = some u → W.cell? ⟨b, j, none⟩ = some u) (h0 : J 0 W) :
    CallsIn F n Tryd.prog 74 #[.func (.yield l) #[] #[], .pointer (some ⟨Bs, 0, none⟩)] W fun e W' => (∃ v, e = .returned v) ∧ J vs.length W' := by
  refine callsIn_of_wp Tryd.func74 rfl h8 ?_ hro
  obtain ⟨len, hlen⟩ : ∃ len, len = vs.length := ⟨_, rfl⟩
  rw [← hlen] at hY hBs hreach ⊢
  have HN := Lib.hid hlen
  clear hlen
  simp only [Tryd.ntmps74, List.size_toArray, List.length_cons, List.length_nil, Nat.reduceAdd, Nat.reduceSub, Array.replicate_succ, Array.replicate_zero, List.push_toArray, List.append_toArray, List.nil_append, List.cons_append]
  gi_wp2
  gi_loopw [3] (fun v3 wr => ∃ j : Nat, j ≤ len ∧ v3 = .int .i64 ((j : Int) - 1) ∧ J (len - j) wr ∧ OnlyS S W wr)
    (fun v3 _ => (intOf v3 + 1).toNat)
  case atStart => exact ⟨len, Nat.le_refl _, rfl, by rw [Nat.sub_self]; exact h0, OnlyS.refl _ _⟩
  case round =>
    obtain ⟨j, hj, rfl, hJs, hnx⟩ := hrel
    have hbs := hnx.cell hBs hBn
    by_cases h00 : 0 < j
    · obtain ⟨i, rfl⟩ : ∃ i, j = i + 1 := ⟨j - 1, by omega⟩
      have hji : (((i + 1 : Nat) : Int) - 1) = (i : Int) := by omega
      rw [hji]
      have hil : i < vs.length := by rw [← HN.out]; omega
      have hcx := hnx.cell (hc i _ (List.getElem?_eq_getElem hil)) hb
      obtain ⟨fn, tmps, assign, body, hy, hR⟩ := hY (len - (i + 1)) wr hJs (by omega)
      have he : encB vs (len - (i + 1)) = #[.int .i64 (i : Int), vs[i]] := by unfold encB; rw [show vs.length - 1 - (len - (i + 1)) = i by have := HN.out; omega]; simp [hil]
      rw [he] at hy
      generalize vs[i] = u at *
      have hii : (i : Int) < (len : Int) := by omega
      gi_wp2
      refine hR.mono ?_
      rintro e W3 ⟨rfl, hJ3, hk3⟩
      gi_wp2
      go_roundw
      case rel => exact ⟨i, by omega, by go_num, by rw [show len - i = (len - (i + 1)) + 1 by omega]; exact hJ3, hnx.trans hk3⟩
      case measure => simp [intOf]
    · obtain rfl : j = 0 := by omega
      have hz : (((0 : Nat) : Int) - 1) = -1 := rfl
      rw [hz]
      gi_wp2
      go_end0
      exact ⟨⟨_, rfl⟩, hJs⟩
set_option maxHeartbeats 1000000 in
/-- slices.Backward: the slice is boxed; the function value holds the box. -/
theorem backward_in (F : Fence) (n : Nat) (h6 : F.fn 49) (hro : F.round = none) (a : Option Addr) (len cap : Nat) (w : World) :
    CallsIn F n Tryd.prog 49 #[.slice a len cap] w fun e w' => e = .returned (.func (.func 74) #[] #[.pointer (some ⟨w.heap.size, 0, none⟩)]) ∧ w' = w.alloc (.cells #[.slice a len cap] 88) := by
  refine callsIn_of_wp Tryd.func49 rfl h6 ?_ hro
  simp only [Tryd.ntmps49, List.size_toArray, List.length_cons, List.length_nil, Nat.reduceAdd, Nat.reduceSub, Array.replicate_succ, Array.replicate_zero, List.push_toArray, List.append_toArray, List.nil_append, List.cons_append]
  gi_wp2
  go_ret
  exact ⟨rfl, rfl⟩
theorem back_row (F : Fence) (n : Nat) (h8 : F.fn 74) (hro : F.round = none) (hn : 1 ≤ n) (S : Nat → Prop) (Bs b cap : Nat) (vs : List Value) (hreach : vs.length ≤ 64) (w : World) (hBs : ¬ S Bs) (hb : ¬ S b)
    (hc : w.cell? ⟨Bs, 0, none⟩ = some (.slice (some ⟨b, 0, none⟩) vs.length cap)) (hI : ∀ j u, vs[j]? = some u → w.cell? ⟨b, j, none⟩ = some u) (W : World) (hW : Below w.heap.size w W) :
    SeqRow F n Tryd.prog 74 #[.pointer (some ⟨Bs, 0, none⟩)] (encB vs) (OnlyS S) vs.length W := fun l J hY h0 =>
  back1_in F n h8 hro hn S l Bs b cap vs hreach hb hBs J hY W ((hW.cell (p := ⟨Bs, 0, none⟩) (block_lt_of_cell hc)).trans hc) (fun j u hu => (hW.cell (p := ⟨b, j, none⟩) (block_lt_of_cell (hI j u hu))).trans (hI j u hu)) h0
end Go.Proofs.YtefeilgbofphjaaDoor
/-
  The contract of lay.
-/
namespace Go.Proofs.YtefeilgbofphjaaDoor
open Go.RowKit Hf
attribute [local go_sem] Oper.semAt_some

/-- How many packages there are. -/
def pcs (es : List (Int × Bool)) : Nat := (es.filter (·.2)).length
theorem pcs_le (es : List (Int × Bool)) : pcs es ≤ es.length := List.length_filter_le _ _
theorem pcs_take_succ (es : List (Int × Bool)) (k : Nat) (hk : k < es.length) : pcs (es.take (k + 1)) = pcs (es.take k) + (if (es[k]).2 then 1 else 0) := by
  unfold pcs
  rw [List.take_add_one, List.getElem?_eq_getElem hk, List.filter_append, List.length_append]
  cases h : (es[k]).2 <;> simp [h]
/-- Each of these symbols has one more. -/
def bump (ss : List Nat) (lens : List Int) : List Int := ss.foldl (fun l s => l.set s (l.getD s 0 + 1)) lens
theorem bump_snoc (ss : List Nat) (s : Nat) (lens : List Int) : bump (ss ++ [s]) lens = (bump ss lens).set s ((bump ss lens).getD s 0 + 1) := by simp [bump]
theorem bump_length (ss : List Nat) (lens : List Int) : (bump ss lens).length = lens.length := by
  induction ss generalizing lens with
  | nil => rfl
  | cons s t ih => show (bump t _).length = _; rw [ih]; simp
/-- What is laid, and how many are taken, behind k rounds. -/
def stt (syms : List Nat) (lens : List Int) (ls : Nat → List (Int × Bool)) (L : Nat) : Nat → List Int × Nat
  | 0 => (lens, 2 * syms.length - 2)
  | k + 1 =>
    let st := stt syms lens ls L k
    let p := pcs ((ls (L - 1 - k)).take st.2)
    (bump (syms.take (st.2 - p)) st.1, 2 * p)
def sttOk (syms : List Nat) (lens : List Int) (ls : Nat → List (Int × Bool)) (L : Nat) : Prop :=
  ∀ k, k < L → (stt syms lens ls L k).2 ≤ (ls (L - 1 - k)).length ∧ (stt syms lens ls L k).2 - pcs ((ls (L - 1 - k)).take (stt syms lens ls L k).2) ≤ syms.length ∧ (∀ z ∈ (stt syms lens ls L k).1, 0 ≤ z ∧ z ≤ 65536) ∧ (ls (L - 1 - k)).length ≤ 65536
theorem bump_bound (ss : List Nat) (lens : List Int) (N : Int) (h : ∀ z ∈ lens, 0 ≤ z ∧ z ≤ N) : ∀ z ∈ bump ss lens, 0 ≤ z ∧ z ≤ N + (ss.length : Int) := by
  induction ss generalizing lens N with
  | nil => simpa [bump] using h
  | cons s t ih =>
    intro z hz
    have := ih (lens.set s (lens.getD s 0 + 1)) (N + 1) (fun y hy => by
      rcases List.mem_or_eq_of_mem_set hy with h1 | h1
      · have := h y h1; omega
      · by_cases hs : s < lens.length
        · have h2 := h lens[s] (List.getElem_mem hs)
          have e : lens.getD s 0 = lens[s] := by simp [hs]
          omega
        · have e : lens.getD s 0 = 0 := by simp [hs]
          have : lens.set s (lens.getD s 0 + 1) = lens := List.set_eq_of_length_le (by omega)
          rw [this] at hy
          have := h y hy; omega) z hz
    simp only [List.length_cons]
    omega
structure LayRel (S : Nat → Prop) (w W : World) (gl gt : Nat) (n : Nat) (st : List Int × Nat) : Prop where
  lens : W.heap[gl]? = some (.cells (ni st.1).toArray 3 (0, 0))
  taken : Boxed W gt 3 (.int .i64 (st.2 : Int))
  only : OnlyS S w W
  len : st.1.length = n
theorem LayRel.own {S : Nat → Prop} {w : World} {gl gt n : Nat} (st : Nat → List Int × Nat) (hgl : gl < w.heap.size) (hgt : gt < w.heap.size) (hS : ∀ i, w.heap.size ≤ i → S i) : OwnFrom w.heap.size (fun k W => LayRel S w W gl gt n (st k)) := fun k A B row h hg hr => by
  have key : ∀ i, i < w.heap.size → B.heap[i]? = A.heap[i]? := fun i hi => hg.block i (Nat.lt_of_lt_of_le hi h.only.size) (fun e => by have := (hr i e.symm).1; omega)
  exact ⟨(key gl hgl).trans h.lens, (key gt hgt).trans h.taken, h.only.trans (OnlyS.grown hg (fun i e => hS i (hr i e).1)), h.len⟩
/-- A round under way. -/
structure RoundRel (S : Nat → Prop) (w1 W wr : World) (gl gt : Nat) (n : Nat) (st : List Int × Nat) : Prop where
  lay : LayRel S w1 wr gl gt n st
  kp : OnlyS S W wr
  book : KeepsFrom w1.heap.size W wr
theorem RoundRel.alloc {S : Nat → Prop} {w1 W wr : World} {gl gt n : Nat} {st : List Int × Nat} (h : RoundRel S w1 W wr gl gt n st) (o : Obj) : RoundRel S w1 W (wr.alloc o) gl gt n st :=
  ⟨⟨(Below.heap_alloc _ _ _ (Array.getElem?_eq_some_iff.1 h.lay.lens).1).trans h.lay.lens, h.lay.taken.alloc _, h.lay.only.trans (OnlyS.alloc _ _), h.lay.len⟩, h.kp.trans (OnlyS.alloc _ _), h.book.trans ((KeepsOthers.alloc _ _).from _)⟩
theorem RoundRel.bumped {S : Nat → Prop} {w1 W wr : World} {gl gt n : Nat} {l : List Int} {t : Nat} (h : RoundRel S w1 W wr gl gt n (l, t)) (hS : S gl) (hne : gt ≠ gl) (s : Nat) (x : Int) : RoundRel S w1 W (wr.setCell ⟨gl, s, none⟩ (.int .i64 x)) gl gt n (l.set s x, t) :=
  ⟨⟨by rw [heap_setCell_same _ _ _ _ _ _ h.lay.lens]; simp [ni, List.map_set], (heap_setCell_other _ _ _ _ hne).trans h.lay.taken, h.lay.only.trans (OnlyS.setCell _ _ _ _ hS), by simpa using h.lay.len⟩, h.kp.trans (OnlyS.setCell _ _ _ _ hS), h.book.trans ((KeepsOthers.setCell _ _ _).from _)⟩
theorem RoundRel.took {S : Nat → Prop} {w1 W wr : World} {gl gt n : Nat} {l : List Int} {t : Nat} (h : RoundRel S w1 W wr gl gt n (l, t)) (hS : S gt) (hne : gl ≠ gt) (t' : Nat) : RoundRel S w1 W (wr.setCell ⟨gt, 0, none⟩ (.int .i64 (t' : Int))) gl gt n (l, t') :=
  ⟨⟨(heap_setCell_other _ _ _ _ hne).trans h.lay.lens, (heap_setCell_same _ _ _ _ _ _ h.lay.taken).trans rfl, h.lay.only.trans (OnlyS.setCell _ _ _ _ hS), h.lay.len⟩, h.kp.trans (OnlyS.setCell _ _ _ _ hS), h.book.trans ((KeepsOthers.setCell _ _ _).from _)⟩
theorem slice_toE {w : World} {p : Option Addr} {n cap : Nat} {es : List (Int × Bool)} (h : SlE w (.slice p n cap) es) (hn : es.length = n) (k : Nat) (hk : k ≤ n) : ∀ w', (Instr.sliceAt 104 (.slice p n cap) none (some (.int .i64 (k : Int))) none).run Tryd.prog w' = .ok (.slice p k cap) w' := by
  intro w'
  obtain ⟨_, ⟨g, o, cap', h, h2, _⟩ | ⟨p', h, h3⟩⟩ := h
  · have hc : n ≤ cap := by cases h; exact h2
    have hp : p = some ⟨g, o, none⟩ := by cases h; rfl
    subst hp
    clear h
    have h1 : (0 : Int) ≤ (k : Int) := by omega
    have h2 : (k : Int) ≤ (cap : Int) := by omega
    go_simp
  · have hc : cap = 0 ∧ p = p' := by cases h; exact ⟨rfl, rfl⟩
    obtain ⟨rfl, rfl⟩ := hc
    obtain rfl : n = 0 := by omega
    obtain rfl : k = 0 := by omega
    show (Instr.sliceAt 104 (.slice p 0 0) none (some (.int .i64 0)) none).run Tryd.prog w' = .ok (.slice p 0 0) w'
    cases p with
    | none => kernel_rfl
    | some a => kernel_rfl
theorem slice_toI {w : World} {p : Option Addr} {n cap : Nat} {vs : List Value} (h : SlV w (.slice p n cap) vs) (k : Nat) (hk : k ≤ n) : ∀ w', (Instr.sliceAt 53 (.slice p n cap) none (some (.int .i64 (k : Int))) none).run Tryd.prog w' = .ok (.slice p k cap) w' := by
  intro w'
  have hc := h.le
  rcases h with ⟨g, o, cap', h, _, _⟩ | ⟨p', h, _⟩
  · have hp : p = some ⟨g, o, none⟩ := by cases h; rfl
    subst hp
    clear h
    have h1 : (0 : Int) ≤ (k : Int) := by omega
    have h2 : (k : Int) ≤ (cap : Int) := by omega
    go_simp
  · have hc : cap = 0 ∧ p = p' ∧ n = 0 := by cases h; exact ⟨rfl, rfl, rfl⟩
    obtain ⟨rfl, rfl, rfl⟩ := hc
    obtain rfl : k = 0 := by omega
    show (Instr.sliceAt 53 (.slice p 0 0) none (some (.int .i64 0)) none).run Tryd.prog w' = .ok (.slice p 0 0) w'
    cases p with
    | none => kernel_rfl
    | some a => kernel_rfl
theorem only_putObj {S : Nat → Prop} (W : World) (l : Nat) (o : Obj) (h : S l) : OnlyS S W (W.putObj l o) :=
  ⟨rfl, rfl, rfl, by simp, fun k _ hk => World.putObj_heap_other (fun e => hk (by rw [e]; exact h))⟩
set_option maxRecDepth 100000 in
set_option maxHeartbeats 4000000 in
theorem lay_in (n : Nat) (hn : 3 ≤ n) (w : World) (gl b cap cl : Nat) (lens : List Int) (vsym : Value) (syms : List Nat) (vs : List Value) (ls : Nat → List (Int × Bool))
    (hl : w.heap[gl]? = some (.cells (ni lens).toArray 3 (0, 0))) (hsy : SlV w vsym (ni (nsy syms))) (hss : ∀ p m c, vsym = .slice (some p) m c → 0 < m → p.block ≠ gl) (hin : ∀ s ∈ syms, s < lens.length) (hsl : syms.length ≤ 1024) (hs1 : 1 ≤ syms.length)
    (hb : b ≠ gl ∧ b < w.heap.size) (hreach : vs.length ≤ 64) (hI : ∀ j u, vs[j]? = some u → w.cell? ⟨b, j, none⟩ = some u) (he : ∀ j u, vs[j]? = some u → w.ownsRow 0 106 2 u (ls j).length (ne (ls j)))
    (hok : sttOk syms lens ls vs.length) :
    CallsIn Fence.wide n Tryd.prog 35 #[.slice (some ⟨gl, 0, none⟩) lens.length cl, vsym, .slice (some ⟨b, 0, none⟩) vs.length cap] w fun e W =>
      e = .returned (.tuple #[]) ∧ W.heap[gl]? = some (.cells (ni (stt syms lens ls vs.length vs.length).1).toArray 3 (0, 0)) ∧ OnlyS (fun i => i = gl ∨ w.heap.size ≤ i) w W := by
  have h1 : 1 ≤ n := by omega
  obtain ⟨psy, csy, rfl⟩ := hsy.shape
  obtain ⟨m, hm⟩ : ∃ m, m = syms.length := ⟨_, rfl⟩
  have hnl : (ni (nsy syms)).length = m := by rw [hm]; simp [nsy]
  rw [hnl] at hsy hss ⊢
  have HM := Lib.hid hm
  clear hm
  refine callsIn_of_wp_marks Tryd.func35 rfl trivial ?_ rfl
  simp only [Tryd.ntmps35, List.size_toArray, List.length_cons, List.length_nil, Nat.reduceAdd, Nat.reduceSub, Array.replicate_succ, Array.replicate_zero, List.push_toArray, List.append_toArray, List.nil_append, List.cons_append]
  have hm1 : m ≤ 1024 := by have := HM.out; omega
  gi_wp2_with (refine ⟨trivial, ?_⟩; gi_at_call 49; refine (backward_in Fence.wide (n - 1) trivial rfl _ _ _ _).mono ?_; rintro e w' ⟨rfl, rfl⟩)
  obtain ⟨w1, hw1⟩ : ∃ w1, w1 = (((w.alloc (.cells #[.slice (some ⟨gl, 0, none⟩) lens.length cl] 53)).alloc (.cells #[.slice psy m csy] 53)).alloc (.cells #[.int .i64 (2 * (m : Int) - 2)] 3)).alloc (.cells #[.slice (some ⟨b, 0, none⟩) vs.length cap] 88) := ⟨_, rfl⟩
  have hsz : w1.heap.size = w.heap.size + 1 + 1 + 1 + 1 := by rw [hw1]; simp
  have hB1 : Below w.heap.size w w1 := by rw [hw1]; exact ((((Below.refl _ _).alloc (Nat.le_refl _) _).alloc (by simp) _).alloc (by simp; omega) _).alloc (by simp; omega) _
  have hbx0 : Boxed w1 w.heap.size 53 (.slice (some ⟨gl, 0, none⟩) lens.length cl) := by rw [hw1]; exact (((Boxed.new _ _ _).alloc _).alloc _).alloc _
  have hbx1 : Boxed w1 (w.heap.size + 1) 53 (.slice psy m csy) := by
    have := Boxed.new (w.alloc (.cells #[.slice (some ⟨gl, 0, none⟩) lens.length cl] 53)) 53 (.slice psy m csy)
    rw [World.size_alloc] at this
    rw [hw1]; exact (this.alloc _).alloc _
  have hbx2 : Boxed w1 (w.heap.size + 1 + 1) 3 (.int .i64 (2 * (m : Int) - 2)) := by
    have := Boxed.new ((w.alloc (.cells #[.slice (some ⟨gl, 0, none⟩) lens.length cl] 53)).alloc (.cells #[.slice psy m csy] 53)) 3 (.int .i64 (2 * (m : Int) - 2))
    rw [World.size_alloc, World.size_alloc] at this
    rw [hw1]; exact this.alloc _
  have hbx3 : Boxed w1 (w.heap.size + 1 + 1 + 1) 88 (.slice (some ⟨b, 0, none⟩) vs.length cap) := by
    have := Boxed.new (((w.alloc (.cells #[.slice (some ⟨gl, 0, none⟩) lens.length cl] 53)).alloc (.cells #[.slice psy m csy] 53)).alloc (.cells #[.int .i64 (2 * (m : Int) - 2)] 3)) 88 (.slice (some ⟨b, 0, none⟩) vs.length cap)
    rw [World.size_alloc, World.size_alloc, World.size_alloc] at this
    rw [hw1]; exact this
  rw [← hw1]
  clear hw1
  have hglw : gl < w.heap.size := (Array.getElem?_eq_some_iff.1 hl).1
  obtain ⟨G, hG⟩ : ∃ G, G = w.heap.size := ⟨_, rfl⟩
  rw [← hG] at hsz hB1 hbx0 hbx1 hbx2 hbx3 hglw hb ⊢
  obtain ⟨S, hS⟩ : ∃ S : Nat → Prop, S = fun i => i = gl ∨ i = G + 1 + 1 ∨ w1.heap.size ≤ i := ⟨_, rfl⟩
  have hl1 : w1.heap[gl]? = some (.cells (ni lens).toArray 3 (0, 0)) := (hB1.block gl hglw).trans hl
  have hI1 : ∀ j u, vs[j]? = some u → w1.cell? ⟨b, j, none⟩ = some u := fun j u hu => (hB1.cell (p := ⟨b, j, none⟩) hb.2).trans (hI j u hu)
  have he1 : ∀ j u, vs[j]? = some u → w1.ownsRow 0 106 2 u (ls j).length (ne (ls j)) := fun j u hu => own_staysK (he j u hu) (fun i hi => hB1.block i (by rw [hG]; exact ((he j u hu).lt i hi).2))
  have hsy1 : SlV w1 (.slice psy m csy) (ni (nsy syms)) := hsy.below hB1 (by omega)
  have hsym : 2 * (m : Int) - 2 = ((2 * m - 2 : Nat) : Int) := by have := HM.out; omega
  refine wpIn_rangeRow (F := Fence.wide) rfl h1 (gf := 74) (lb := #[.pointer (some ⟨G + 1 + 1 + 1, 0, none⟩)]) rfl trivial (enters_of Tryd.func74 (by kernel_rfl) rfl)
    (Kp := OnlyS S) (N := vs.length) (encs := encB vs) (fun W hW => back_row Fence.wide (n - 1) trivial rfl (by omega) S (G + 1 + 1 + 1) b cap vs hreach w1 (by rw [hS]; omega) (by rw [hS]; omega) hbx3.cell hI1 W hW)
    (fun h k => h.trans k) (fun W l o' h => only_putObj W l o' (by rw [hS]; exact .inr (.inr h))) (fun _ => rfl)
    (fun k W => LayRel S w1 W gl (G + 1 + 1) lens.length (stt syms lens ls vs.length k))
    (LayRel.own _ (by omega) (by omega) (fun i h => by rw [hS]; exact .inr (.inr h)))
    ⟨hl1, by have := hbx2; rw [hsym] at this; have hm' := HM.out; show Boxed w1 _ 3 (.int .i64 ((2 * syms.length - 2 : Nat) : Int)); rw [← hm']; exact this, OnlyS.refl _ _, rfl⟩
    (fun k => { tmps := #[.slice (some ⟨gl, 0, none⟩) lens.length cl, .slice psy m csy, .slice (some ⟨b, 0, none⟩) vs.length cap, .pointer (some ⟨G, 0, none⟩), .pointer (some ⟨G + 1, 0, none⟩), undef, .pointer (some ⟨G + 1 + 1, 0, none⟩), undef, vs.getD (vs.length - 1 - k) undef, undef, undef, undef, undef, undef, .slice psy m csy, .int .i64 (m : Int), .int .i64 (2 * (m : Int)), .int .i64 (2 * (m : Int) - 2), .slice (some ⟨b, 0, none⟩) vs.length cap, .func (.func 74) #[] #[.pointer (some ⟨G + 1 + 1 + 1, 0, none⟩)], .int .i64 ((vs.length - 1 - k : Nat) : Int), vs.getD (vs.length - 1 - k) undef, undef, undef, undef, undef, undef, undef, undef, undef, undef, undef, undef, undef, undef, undef, undef, undef, undef, undef, undef, undef, undef, undef, undef, undef, undef, undef, undef, undef, undef, undef, undef, undef], defers := [] }) ?assign ?body ?done
  case assign =>
    intro l k W K hk hK
    unfold encB
    revert hK
    generalize vs.getD (vs.length - 1 - k) undef = u
    generalize ((vs.length - 1 - k : Nat) : Int) = q
    intro hK
    have hG' := Lib.hid hG
    clear hsym hG hS
    gi_wp2
    exact hK
  case body =>
    intro l k W hR hk
    have hj : vs.length - 1 - k < vs.length := by omega
    have hvj := List.getElem?_eq_getElem hj
    have hgd : vs.getD (vs.length - 1 - k) undef = vs[vs.length - 1 - k] := by simp [hj]
    have hOj := he1 _ _ hvj
    dsimp only
    rw [hgd]
    generalize vs[vs.length - 1 - k] = u at *
    clear hgd hvj
    obtain ⟨pu, cu, rfl⟩ := own_shape hOj
    obtain ⟨ho1, ho2, ho3, ho4⟩ := hok k hk
    have HSUC := Lib.hid (show stt syms lens ls vs.length (k + 1) = (bump (syms.take ((stt syms lens ls vs.length k).2 - pcs ((ls (vs.length - 1 - k)).take (stt syms lens ls vs.length k).2))) (stt syms lens ls vs.length k).1, 2 * pcs ((ls (vs.length - 1 - k)).take (stt syms lens ls vs.length k).2)) from rfl)
    have hOE := own_E hOj rfl
    generalize ls (vs.length - 1 - k) = es at *
    generalize hst : stt syms lens ls vs.length k = st at *
    obtain ⟨lk, tk⟩ := st
    simp only at ho1 ho2 ho3 HSUC
    have HSE := slice_toE hOE rfl tk ho1
    have HSI := slice_toI hsy1 (tk - pcs (es.take tk)) (by rw [HM.out]; exact ho2)
    have hpt : pcs (es.take tk) ≤ tk := by have := pcs_le (es.take tk); rw [List.length_take] at this; omega
    have hRR : RoundRel S w1 W W gl (G + 1 + 1) lens.length (lk, tk) := ⟨hR, OnlyS.refl _ _, KeepsFrom.refl _ _⟩
    have hct := hR.taken.cell
    have hcb0 := (Boxed.cell ((hR.only.block _ hbx0.lt (by rw [hS]; omega)).trans hbx0) : W.cell? ⟨G, 0, none⟩ = _)
    have hcb1 := (Boxed.cell ((hR.only.block _ hbx1.lt (by rw [hS]; omega)).trans hbx1) : W.cell? ⟨G + 1, 0, none⟩ = _)
    have HPB : Hid (∀ a, pu = some a → ¬ S a.block) := Lib.hid (fun a ha hSa => by
      obtain ⟨_, ⟨e1, _⟩ | ⟨g0, c0, cur, e1, e2, e3, _⟩⟩ := hOj
      · injection e1 with e1 _ _
        rw [e1] at ha; cases ha
      · injection e1 with e1 _ _
        rw [e1] at ha; cases ha
        rw [hS] at hSa
        rcases hSa with h | h | h
        · simp only at h; subst h; rw [hl1] at e3; simp at e3
        · simp only at h; subst h; rw [show w1.heap[_]? = _ from hbx2] at e3; simp at e3
        · have := (Array.getElem?_eq_some_iff.1 e3).1; simp only at h; omega)
    have HSB : Hid (∀ g0 o0, psy = some ⟨g0, o0, none⟩ → 0 < m → RowAt w g0 o0 (ni (nsy syms)) → ¬ S g0) := Lib.hid (fun g0 o0 ha hm0 hrow hSa => by
      have h1 := hss _ _ _ (by rw [ha]) hm0
      have h2 := hrow.lt (by rw [hnl]; exact hm0)
      rw [hS] at hSa
      simp only at h1
      omega)
    have HSW := Lib.hid hsy
    have HRR := Lib.hid hRR
    have HFX := Lib.hid (And.intro hG (And.intro hsz (And.intro hsym (And.intro hst (And.intro hl hl1)))))
    have HSX := Lib.hid hS
    have HES := Lib.hid hOE
    have HSY := Lib.hid hsy1
    have HO3 := Lib.hid ho3
    have HIN := Lib.hid hin
    have hglS : S gl := by rw [hS]; exact .inl rfl
    have hgtS : S (G + 1 + 1) := by rw [hS]; exact .inr (.inl rfl)
    have hSge : ∀ i, w1.heap.size ≤ i → S i := fun i h => by rw [hS]; exact .inr (.inr h)
    have HNS : Hid (¬ S G ∧ ¬ S (G + 1)) := Lib.hid (by rw [hS]; omega)
    have HB3 := Lib.hid (And.intro hbx0 hbx1)
    clear hRR hG hsz hsym hst hl hl1 hS hOE hsy1 ho3 hin hbx0 hbx1 hbx2 hbx3 hI hI1 he he1 hok hsy hss hB1 hOj hR hj
    have hmi : (m : Int) ≤ 1024 := by omega
    have htk : tk ≤ 65536 := by omega
    gi_wp2
    gi_loopw [9, 11, 26] (fun v9 _ v26 wr => ∃ q : Nat, q ≤ tk ∧ v26 = .int .i64 q ∧ v9 = .int .i64 (pcs (es.take q) : Nat) ∧ RoundRel S w1 W wr gl (G + 1 + 1) lens.length (lk, tk)) (fun _ _ v26 _ => tk - (intOf v26).toNat)
    case atStart => exact ⟨0, Nat.zero_le _, rfl, by simp [pcs], HRR.out⟩
    case round =>
      clear HRR hct hcb0 hcb1
      obtain ⟨q, hq, rfl, rfl, hR2⟩ := hrel
      have HR2 := Lib.hid hR2
      clear hR2
      by_cases hlt : q < tk
      · have hlti : (q : Int) < (tk : Int) := by omega
        have hqe : q < es.length := by omega
        obtain ⟨g0, o0, hpu, hcap, hat⟩ := HES.out.at (by omega)
        subst hpu
        have hns := HPB.out _ rfl
        have hc0 := HR2.out.lay.only.cell (hat q es[q] (List.getElem?_eq_getElem hqe)).1 hns
        have hc1 := HR2.out.lay.only.cell (hat q es[q] (List.getElem?_eq_getElem hqe)).2 hns
        have HPS := Lib.hid (pcs_take_succ es q hqe)
        have hpq : pcs (es.take q) ≤ q := by have := pcs_le (es.take q); rw [List.length_take] at this; omega
        clear hat hns
        generalize es[q] = e at *
        obtain ⟨ec, ep⟩ := e
        simp only at hc0 hc1 HPS
        generalize pcs (es.take q) = pq at *
        have HR3 := Lib.hid (HR2.out.alloc (.cells #[.int .i64 ec, .bool ep] 106))
        clear HR2
        have hw64 : wrap64 ((pq : Int) + 1) = (pq : Int) + 1 := by unfold wrap64; omega
        cases ep with
        | true =>
          gi_wp2
          go_roundw
          case rel => exact ⟨q + 1, by omega, by go_num, by rw [HPS.out, hw64, if_pos rfl]; rfl, HR3.out⟩
          case measure => simp [intOf]; omega
        | false =>
          gi_wp2
          go_roundw
          case rel => exact ⟨q + 1, by omega, by go_num, by rw [HPS.out]; rfl, HR3.out⟩
          case measure => simp [intOf]; omega
      · have hlti : (tk : Int) ≤ (q : Int) := by omega
        obtain rfl : q = tk := by omega
        obtain ⟨t2, ht2⟩ : ∃ t2, t2 = q - pcs (es.take q) := ⟨_, rfl⟩
        rw [← ht2] at HSI ho2 HSUC
        have hti : (q : Int) - (pcs (es.take q) : Nat) = (t2 : Int) := by omega
        have HT2 := Lib.hid ht2
        clear ht2
        generalize pcs (es.take q) = pq at *
        have hct := HR2.out.lay.taken.cell
        have hcb1 := (Boxed.cell ((HR2.out.lay.only.block _ HB3.out.2.lt HNS.out.2).trans HB3.out.2) : wr.cell? ⟨G + 1, 0, none⟩ = _)
        have hpq2 : pq ≤ 65536 := by omega
        gi_wp2
        gi_loopw [13, 41] (fun _ v41 wr => ∃ q2 : Nat, q2 ≤ t2 ∧ v41 = .int .i64 q2 ∧ RoundRel S w1 W wr gl (G + 1 + 1) lens.length (bump (syms.take q2) lk, q)) (fun _ v41 _ => t2 - (intOf v41).toNat)
        case atStart => exact ⟨0, Nat.zero_le _, rfl, HR2.out⟩
        case round =>
          clear HR2 hct hcb1
          obtain ⟨q2, hq2, rfl, hR4⟩ := hrel
          have HR4 := Lib.hid hR4
          clear hR4
          by_cases hlt2 : q2 < t2
          · have hlti2 : (q2 : Int) < (t2 : Int) := by omega
            have hqs : q2 < syms.length := by omega
            have hmp : 0 < m := by have := HM.out; omega
            obtain ⟨g0, o0, hpsy, hrow⟩ := HSY.out.some hmp
            obtain ⟨g9, o9, hpsy9, hrow9⟩ := HSW.out.some hmp
            have hsame : g9 = g0 ∧ o9 = o0 := by rw [hpsy] at hpsy9; cases hpsy9; exact ⟨rfl, rfl⟩
            obtain ⟨rfl, rfl⟩ := hsame
            have hns := HSB.out g9 o9 hpsy hmp hrow9
            subst hpsy
            have hcs := HSY.out.le
            have hc0 := HR4.out.lay.only.cell (hrow.ni q2 (by simp [nsy]; exact hqs)) hns
            rw [show (nsy syms).getD q2 0 = ((syms[q2] : Nat) : Int) by simp [nsy, hqs]] at hc0
            have hsm := HIN.out syms[q2] (List.getElem_mem hqs)
            have HBS : Hid (bump (syms.take (q2 + 1)) lk = (bump (syms.take q2) lk).set syms[q2] ((bump (syms.take q2) lk).getD syms[q2] 0 + 1)) := Lib.hid (by
              rw [List.take_add_one, List.getElem?_eq_getElem hqs]; exact bump_snoc _ _ _)
            generalize syms[q2] = s at *
            have hbl : s < (bump (syms.take q2) lk).length := by rw [HR4.out.lay.len]; exact hsm
            have hbb := bump_bound (syms.take q2) lk 65536 HO3.out (bump (syms.take q2) lk)[s] (List.getElem_mem hbl)
            have htl : ((syms.take q2).length : Int) ≤ 65536 := by rw [List.length_take]; omega
            have he0 : (bump (syms.take q2) lk).getD s 0 = (bump (syms.take q2) lk)[s] := by simp [hbl]
            have hc1 : wr.cell? ⟨gl, s, none⟩ = some (.int .i64 ((bump (syms.take q2) lk).getD s 0)) := by
              rw [cell_of_row _ _ _ _ _ _ HR4.out.lay.lens]; simp [ni, hbl]
            have hf1 : wr.frozen? ⟨gl, s, none⟩ = false := frozen_of_row _ _ _ _ _ HR4.out.lay.lens
            have HR5 := Lib.hid (HR4.out.bumped hglS (by omega) s ((bump (syms.take q2) lk).getD s 0 + 1))
            rw [← HBS.out] at HR5
            rw [← he0] at hbb
            generalize (bump (syms.take q2) lk).getD s 0 = z at *
            have hcb0 := (Boxed.cell ((HR4.out.lay.only.block _ HB3.out.1.lt HNS.out.1).trans HB3.out.1) : wr.cell? ⟨G, 0, none⟩ = _)
            have hsmi : (s : Int) < (lens.length : Int) := by omega
            have hw64 : wrap64 (z + 1) = z + 1 := by unfold wrap64; omega
            clear HR4 hrow hrow9 hpsy9 hbl HBS he0 hns
            gi_wp2
            go_roundw
            case rel => exact ⟨q2 + 1, by omega, by go_num, HR5.out⟩
            case measure => simp [intOf]; omega
          · have hlti2 : (t2 : Int) ≤ (q2 : Int) := by omega
            obtain rfl : q2 = t2 := by omega
            have hct := HR4.out.lay.taken.cell
            have hft := HR4.out.lay.taken.frozen
            have HR5 := Lib.hid (HR4.out.took hgtS (by omega) (2 * pq))
            clear HR4
            gi_wp2
            rw [show 2 * (pq : Int) = ((2 * pq : Nat) : Int) by omega]
            exact ⟨HR5.out.book, HR5.out.kp, by show LayRel S w1 _ gl (G + 1 + 1) lens.length (stt syms lens ls vs.length (k + 1)); rw [HSUC.out]; exact HR5.out.lay⟩
  case done =>
    intro D W hD hR hK
    gi_wp2
    refine ⟨by simp, .inl ⟨_, _, rfl, run_takeDeferred hK, ?_⟩⟩
    refine ⟨_, results_none rfl _ _ _, rfl, ?_, ?_⟩
    · rw [World.putObj_heap_other (by omega)]; exact hR.lens
    · have h2 : OnlyS (fun i => i = gl ∨ w.heap.size ≤ i) w w1 := OnlyS.of_below (by rw [← hG]; exact hB1)
      have h3 : OnlyS (fun i => i = gl ∨ w.heap.size ≤ i) w W := h2.trans' hR.only (fun i h => by rw [hS] at h; rcases h with h | h | h <;> omega)
      exact h3.trans' (only_putObj (S := (· = D)) W D _ rfl) (fun i h => by omega)
end Go.Proofs.YtefeilgbofphjaaDoor
