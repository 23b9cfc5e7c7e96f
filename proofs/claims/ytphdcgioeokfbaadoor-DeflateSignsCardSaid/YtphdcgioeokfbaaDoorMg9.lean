/-
  Merged, in the order in which they build: Lists2.
-/
import Derived.Test.YtphdcgioeokfbaaDoorMg8
/-
  The contract of lists.
-/
namespace Go.Proofs.YtphdcgioeokfbaaDoor
open Go.RowKit Hf

/-- The list as it begins, and behind each packing. -/
def lst (items : List (Int × Bool)) : Nat → List (Int × Bool)
  | 0 => items
  | j + 1 => mg items (pk (lst items j))
def esum (es : List (Int × Bool)) : Int := (es.map (·.1)).sum
def epos (es : List (Int × Bool)) : Prop := ∀ e ∈ es, 0 ≤ e.1
theorem esum_cons (e : Int × Bool) (t : List (Int × Bool)) : esum (e :: t) = e.1 + esum t := rfl
theorem esum_append (a b : List (Int × Bool)) : esum (a ++ b) = esum a + esum b := by simp [esum]
theorem esum_pos (es : List (Int × Bool)) (h : epos es) : 0 ≤ esum es := by
  induction es with
  | nil => exact Int.le_refl _
  | cons e t ih =>
    rw [esum_cons]
    have := h e (by simp)
    have := ih (fun x hx => h x (by simp [hx]))
    omega
theorem esum_mem (es : List (Int × Bool)) (h : epos es) (e : Int × Bool) (he : e ∈ es) : e.1 ≤ esum es := by
  induction es with
  | nil => cases he
  | cons x t ih =>
    rw [esum_cons]
    have h0 := h x (by simp)
    have h1 := esum_pos t (fun y hy => h y (by simp [hy]))
    rcases List.mem_cons.1 he with rfl | he
    · omega
    · have := ih (fun y hy => h y (by simp [hy])) he
      omega
theorem mg_perm (items packs : List (Int × Bool)) : esum (mg items packs) = esum items + esum packs ∧ (epos items → epos packs → epos (mg items packs)) := by
  induction packs generalizing items with
  | nil => exact ⟨by simp [mg, esum], fun h _ => h⟩
  | cons p t ih =>
    have h1 := ih (items.dropWhile (fun e => decide (e.1 ≤ p.1)))
    have h2 := List.takeWhile_append_dropWhile (p := fun e : Int × Bool => decide (e.1 ≤ p.1)) (l := items)
    refine ⟨?_, fun hi hp => ?_⟩
    · rw [mg, esum_append, esum_cons, h1.1, esum_cons]
      have := congrArg esum h2
      rw [esum_append] at this
      omega
    · rw [mg]
      intro e he
      rcases List.mem_append.1 he with he | he
      · exact hi e (by rw [← h2]; exact List.mem_append.2 (.inl he))
      · rcases List.mem_cons.1 he with rfl | he
        · exact hp _ (by simp)
        · exact h1.2 (fun x hx => hi x (by rw [← h2]; exact List.mem_append.2 (.inr hx))) (fun x hx => hp x (by simp [hx])) e he
theorem pk_facts : ∀ (es : List (Int × Bool)), epos es → esum (pk es) ≤ esum es ∧ epos (pk es) ∧ (pk es).length ≤ es.length / 2
  | [], _ => ⟨Int.le_refl _, fun e he => (by cases he), Nat.zero_le _⟩
  | [x], h => ⟨by have := h x (by simp); show esum [] ≤ esum [x]; rw [esum_cons]; simp [esum]; omega, fun e he => (by cases he), Nat.zero_le _⟩
  | x :: y :: t, h => by
    have h0 := h x (by simp)
    have h1 := h y (by simp)
    obtain ⟨i1, i2, i3⟩ := pk_facts t (fun e he => h e (by simp [he]))
    refine ⟨?_, ?_, ?_⟩
    · show esum ((x.1 + y.1, true) :: pk t) ≤ _
      rw [esum_cons, esum_cons, esum_cons]; simp only; omega
    · intro e he
      have he : e ∈ (x.1 + y.1, true) :: pk t := he
      rcases List.mem_cons.1 he with rfl | he
      · simp only; omega
      · exact i2 e he
    · show ((x.1 + y.1, true) :: pk t).length ≤ _
      simp only [List.length_cons]; omega
theorem lst_facts (items : List (Int × Bool)) (h : epos items) (S : Int) (hS : esum items ≤ S) (j : Nat) : epos (lst items j) ∧ esum (lst items j) ≤ (j + 1) * S ∧ (lst items j).length ≤ 2 * items.length := by
  induction j with
  | zero => exact ⟨h, by show esum items ≤ _; simpa using hS, by show items.length ≤ _; omega⟩
  | succ j ih =>
    obtain ⟨h1, h2, h3⟩ := pk_facts _ ih.1
    obtain ⟨m1, m2⟩ := mg_perm items (pk (lst items j))
    refine ⟨m2 h h2, ?_, ?_⟩
    · show esum (mg items (pk (lst items j))) ≤ _
      rw [m1]
      have := ih.2.1
      have e : (((j + 1 : Nat) : Int) + 1) * S = S + ((j : Int) + 1) * S := by rw [Int.natCast_add, Int.add_mul, Int.add_comm]; simp
      rw [e]; omega
    · show (mg items (pk (lst items j))).length ≤ _
      rw [mg_length]
      have := ih.2.2
      omega
def cnts (counts : List Int) (syms : List Nat) : List Int := syms.map fun s => counts.getD s 0
def nsy (syms : List Nat) : List Int := syms.map fun (s : Nat) => (s : Int)
/-- Items of counts. -/
def its (cs : List Int) : List (Int × Bool) := cs.map fun c => (c, false)
theorem own_leK {base B k : Nat} {e : TypeId} {w : World} {v : Value} {n : Nat} {l : List Value} (h : w.ownsRow base e k v n l) (hB : B ≤ base) : w.ownsRow B e k v n l := by
  obtain ⟨h0, ⟨h1, h2⟩ | ⟨g, cap, cur, h1, h2, h3⟩⟩ := h
  · exact ⟨h0, .inl ⟨h1, h2⟩⟩
  · exact ⟨h0, .inr ⟨g, cap, cur, h1, by omega, h3⟩⟩
theorem own_staysK {base k : Nat} {e : TypeId} {w w' : World} {v : Value} {n : Nat} {l : List Value} (h : w.ownsRow base e k v n l) (hb : ∀ j, v.ownBlock = some j → w'.heap[j]? = w.heap[j]?) : w'.ownsRow base e k v n l := by
  obtain ⟨h0, ⟨h1, h2⟩ | ⟨g, cap, cur, h1, h2, h3, h4⟩⟩ := h
  · exact ⟨h0, .inl ⟨h1, h2⟩⟩
  · exact ⟨h0, .inr ⟨g, cap, cur, h1, h2, (hb g (by rw [h1]; rfl)).trans h3, h4⟩⟩
theorem own_apart {b1 b2 k1 k2 : Nat} {e1 e2 : TypeId} {w : World} {v u : Value} {n m : Nat} {l r : List Value} (h : w.ownsRow b1 e1 k1 v n l) (h' : w.ownsRow b2 e2 k2 u m r) (hne : e1 ≠ e2) : ∀ j, v.ownBlock = some j → u.ownBlock ≠ some j := by
  intro j hj hu
  obtain ⟨_, ⟨h1, h2⟩ | ⟨g, cap, cur, h1, h2, h3, h4⟩⟩ := h
  · rw [h1] at hj; cases hj
  obtain ⟨_, ⟨h1', h2'⟩ | ⟨g', cap', cur', h1', h2', h3', h4'⟩⟩ := h'
  · rw [h1'] at hu; cases hu
  rw [h1] at hj; rw [h1'] at hu
  simp [Value.ownBlock] at hj hu
  subst hj; subst hu
  rw [h3] at h3'
  simp at h3'
  exact hne h3'.2
theorem info138 : (Tryd.prog.info? 138).map (fun i => (i.zero, i.size, i.bytes)) = some (some (.slice none 0 0), 1, 24) := by kernel_rfl
theorem ne_set (es : List (Int × Bool)) (k : Nat) (hk : k < es.length) (c : Int) : (ne es).set (k * 2) (.int .i64 c) = ne (es.set k (c, (es[k]).2)) := by
  induction es generalizing k with
  | nil => simp at hk
  | cons e t ih =>
    cases k with
    | zero => rfl
    | succ k =>
      rw [ne_cons, show (k + 1) * 2 = k * 2 + 1 + 1 by omega, List.set_cons_succ, List.set_cons_succ, ih k (by simpa using hk)]
      rfl
/-- Items whose first k have their counts. -/
def ito (cs : List Int) (k : Nat) : List (Int × Bool) := (List.range cs.length).map fun i => (if i < k then cs.getD i 0 else 0, false)
theorem ito_length (cs : List Int) (k : Nat) : (ito cs k).length = cs.length := by simp [ito]
theorem ito_step (cs : List Int) (k : Nat) (hk : k < cs.length) : ne (ito cs (k + 1)) = (ne (ito cs k)).set (k * 2) (.int .i64 (cs.getD k 0)) := by
  rw [ne_set _ k (by rw [ito_length]; exact hk)]
  congr 1
  apply List.ext_getElem (by simp [ito])
  intro i h1 h2
  simp only [ito, List.getElem_map, List.getElem_range, List.getElem_set]
  by_cases h : k = i
  · subst h; simp
  · rw [if_neg h]
    by_cases h3 : i < k
    · rw [if_pos h3, if_pos (by omega)]
    · rw [if_neg h3, if_neg (by omega)]
theorem ito_all (cs : List Int) : ito cs cs.length = its cs := by
  apply List.ext_getElem (by simp [ito, its])
  intro i h1 h2
  have : i < cs.length := by simpa [ito] using h1
  simp [ito, its, this]
theorem made_E (n : Nat) : (madeCells (Value.agg #[.int .i64 0, .bool false]).cells (n * 2)).toList = ne (List.replicate n (0, false)) := by
  apply List.ext_getElem
  · simp [ne_length, size_madeCells]
  · intro i h1 h2
    have hi : i < n * 2 := by simpa [ne_length] using h2
    have key : ∀ (n j : Nat), j < n → (ne (List.replicate n (0, false)))[j * 2]? = some (.int .i64 0) ∧ (ne (List.replicate n (0, false)))[j * 2 + 1]? = some (.bool false) := by
      intro n
      induction n with
      | zero => intro j hj; omega
      | succ n ih =>
        intro j hj
        rw [List.replicate_succ, ne_cons]
        cases j with
        | zero => exact ⟨rfl, rfl⟩
        | succ j =>
          have := ih j (by omega)
          rw [show (j + 1) * 2 = j * 2 + 1 + 1 by omega]
          exact ⟨this.1, this.2⟩
    have h3 := key n (i / 2) (by omega)
    have e2 : ∀ v, (ne (List.replicate n (0, false)))[i]? = some v → (ne (List.replicate n (0, false)))[i] = v := fun v hv => (List.getElem?_eq_some_iff.1 hv).2
    rcases Nat.mod_two_eq_zero_or_one i with h | h
    · rw [e2 (.int .i64 0) (by rw [← h3.1]; congr 1; omega)]
      simp [madeCells, Value.cells, h]
    · rw [e2 (.bool false) (by rw [← h3.2]; congr 1; omega)]
      simp [madeCells, Value.cells, h]
structure IRel (w wr : World) (es : List (Int × Bool)) : Prop where
  below : Below w.heap.size w wr
  row : wr.heap[w.heap.size]? = some (.cells (ne es).toArray 140 (0, 0))
theorem IRel.cell {w wr : World} {es : List (Int × Bool)} (h : IRel w wr es) (k : Nat) (hk : k < es.length) : ∃ u, wr.cell? ⟨w.heap.size, k * 2, none⟩ = some u := by
  have : k * 2 < (ne es).length := by rw [ne_length]; omega
  exact ⟨(ne es)[k * 2], by rw [cell_of_row _ _ _ _ _ _ h.row]; simp [this]⟩
theorem IRel.free {w wr : World} {es : List (Int × Bool)} (h : IRel w wr es) (k : Nat) : wr.frozen? ⟨w.heap.size, k, none⟩ = false := frozen_of_row _ _ _ _ _ h.row
theorem IRel.step {w wr : World} {cs : List Int} {k : Nat} (h : IRel w wr (ito cs k)) (hk : k < cs.length) : IRel w (wr.setCell ⟨w.heap.size, k * 2, none⟩ (.int .i64 (cs.getD k 0))) (ito cs (k + 1)) :=
  ⟨h.below.setCell (Nat.le_refl _) _, by rw [heap_setCell_same _ _ _ _ _ _ h.row, ito_step cs k hk]; simp⟩
theorem IRel.own {w wr : World} {es : List (Int × Bool)} (h : IRel w wr es) (hl : es.length ≤ 4096) : wr.ownsRow w.heap.size 140 2 (.slice (some ⟨w.heap.size, 0, none⟩) es.length es.length) es.length (ne es) :=
  ⟨ne_length es, .inr ⟨w.heap.size, es.length, _, rfl, Nat.le_refl _, h.row, Nat.le_refl _, by unfold maxLen; omega, by simp [ne_length], by rw [← ne_length]; exact List.take_length⟩⟩
structure LsRel (w wr : World) (items : List (Int × Bool)) (v : Value) (vs : List Value) : Prop where
  below : Below w.heap.size w wr
  own : wr.ownsRow w.heap.size 138 1 v vs.length vs
  each : ∀ j u, vs[j]? = some u → wr.ownsRow w.heap.size 140 2 u (lst items j).length (ne (lst items j))
theorem LsRel.stays {w wr w' : World} {items : List (Int × Bool)} {v : Value} {vs : List Value} (h : LsRel w wr items v vs) (hb : Below wr.heap.size wr w') : LsRel w w' items v vs :=
  ⟨h.below.trans (hb.mono h.below.size), own_staysK h.own (fun j hj => hb.block j (h.own.lt j hj).2), fun j u hu => own_staysK (h.each j u hu) (fun i hi => hb.block i ((h.each j u hu).lt i hi).2)⟩
theorem LsRel.app {w wr wa w6 : World} {items : List (Int × Bool)} {v v' x : Value} {vs : List Value} (h : LsRel w wr items v vs) (hwa : Below wr.heap.size wr wa) (hown : w6.ownsRow w.heap.size 138 1 v' (vs.length + 1) (vs ++ [x])) (hgrow : wa.grownBy w6 v.ownBlock)
    (hx : wr.ownsRow w.heap.size 140 2 x (lst items vs.length).length (ne (lst items vs.length))) : LsRel w w6 items v' (vs ++ [x]) := by
  have key : ∀ {u : Value} {n : Nat} {l : List Value}, wr.ownsRow w.heap.size 140 2 u n l → w6.ownsRow w.heap.size 140 2 u n l := fun {u n l} h0 =>
    own_staysK h0 (fun i hi => by
      have hl := (h0.lt i hi).2
      rw [hgrow.block i (Nat.lt_of_lt_of_le hl hwa.size) (fun e => own_apart h0 h.own (by decide) i hi e.symm), hwa.block i hl])
  refine ⟨(h.below.trans (hwa.mono h.below.size)).grown hgrow (Nat.le_trans h.below.size hwa.size) (fun k e => (h.own.lt k e).1), by rw [List.length_append]; exact hown, fun j u hu => ?_⟩
  rcases Nat.lt_or_ge j vs.length with hj | hj
  · rw [List.getElem?_append_left hj] at hu
    exact key (h.each j u hu)
  · rw [List.getElem?_append_right hj] at hu
    have e0 : j - vs.length = 0 := by
      have := (List.getElem?_eq_some_iff.1 hu).1
      simp at this; omega
    rw [e0] at hu
    simp at hu
    subst hu
    obtain rfl : j = vs.length := by omega
    exact key hx
theorem LsRel.start {w wr : World} {items : List (Int × Bool)} {x : Value} (hb : Below w.heap.size w wr) (hx : wr.ownsRow w.heap.size 140 2 x items.length (ne items)) :
    LsRel w (wr.alloc (.cells #[x] 138)) items (.slice (some ⟨wr.heap.size, 0, none⟩) 1 1) [x] :=
  ⟨hb.alloc hb.size _, ⟨rfl, .inr ⟨wr.heap.size, 1, #[x], rfl, hb.size, heap_alloc_new _ _, Nat.le_refl _, by decide, rfl, rfl⟩⟩, fun j u hu => by
    have e0 : j = 0 := by have := (List.getElem?_eq_some_iff.1 hu).1; simp at this; omega
    subst e0
    simp at hu
    subst hu
    exact hx.alloc _⟩
theorem SlK_one (w : World) (x : Value) : SlK 1 (w.alloc (.cells #[x] 138)) (.slice (some ⟨w.heap.size, 0, none⟩) 1 1) 1 [x] := by
  refine ⟨rfl, .inl ⟨w.heap.size, 0, 1, rfl, Nat.le_refl _, fun i v hi => ?_⟩⟩
  rw [Nat.zero_add]
  exact (cell_of_row _ _ _ _ _ _ (heap_alloc_new w _)).trans (by simpa using hi)
theorem its_pos (counts : List Int) (syms : List Nat) (hc : ∀ c ∈ counts, 0 ≤ c ∧ c ≤ 4294967296) (hs : ∀ s ∈ syms, s < counts.length) (hl : syms.length ≤ 1024) : epos (its (cnts counts syms)) ∧ esum (its (cnts counts syms)) ≤ 4398046511104 := by
  have h1 : ∀ c ∈ cnts counts syms, 0 ≤ c ∧ c ≤ 4294967296 := by
    intro c h
    obtain ⟨s, hs1, rfl⟩ := List.mem_map.1 h
    have hlt := hs s hs1
    have e : counts.getD s 0 = counts[s] := by simp [hlt]
    rw [e]; exact hc _ (List.getElem_mem hlt)
  have h2 : ∀ (l : List Int), (∀ c ∈ l, 0 ≤ c ∧ c ≤ 4294967296) → esum (its l) ≤ (l.length : Int) * 4294967296 := by
    intro l
    induction l with
    | nil => intro _; simp [its, esum]
    | cons c t ih =>
      intro h
      have := ih (fun x hx => h x (by simp [hx]))
      have h0 := h c (by simp)
      show c + esum (its t) ≤ _
      rw [List.length_cons]
      have : ((t.length + 1 : Nat) : Int) * 4294967296 = (t.length : Int) * 4294967296 + 4294967296 := by omega
      omega
  refine ⟨fun e he => ?_, ?_⟩
  · obtain ⟨c, hc1, rfl⟩ := List.mem_map.1 he
    exact (h1 c hc1).1
  · have h3 := h2 _ h1
    have h4 : (cnts counts syms).length = syms.length := by simp [cnts]
    rw [h4] at h3
    omega
def LsPost (items : List (Int × Bool)) (limit : Nat) (w : World) (e : Ending) (w' : World) : Prop :=
  ∃ v vs, e = .returned v ∧ w'.ownsRow w.heap.size 138 1 v (vs : List Value).length vs ∧ vs.length = limit ∧ (∀ j u, vs[j]? = some u → w'.ownsRow w.heap.size 140 2 u (lst items j).length (ne (lst items j))) ∧ Below w.heap.size w w'
set_option maxRecDepth 100000 in
set_option maxHeartbeats 1000000 in
theorem lists_walk (w : World) (v u : Value) (syms : List Nat) (counts : List Int) (limit : Nat) (hv : SlV w v (ni (nsy syms))) (hu : SlV w u (ni counts)) (hs : ∀ s ∈ syms, s < counts.length) (hl : syms.length ≤ 1024) (hlim : 1 ≤ limit ∧ limit ≤ 15)
    (hc : ∀ c ∈ counts, 0 ≤ c ∧ c ≤ 4294967296) : Calls Tryd.prog 68 #[v, u, .int .i64 (limit : Int)] w (LsPost (its (cnts counts syms)) limit w) := by
  obtain ⟨p, cap, rfl⟩ := hv.shape
  obtain ⟨p2, cap2, rfl⟩ := hu.shape
  simp only [ni_length] at hv hu ⊢
  have HV := Lib.hid hv
  have HU := Lib.hid hu
  clear hv hu
  obtain ⟨n, hn⟩ : ∃ n, n = (nsy syms).length := ⟨_, rfl⟩
  obtain ⟨m, hm⟩ : ∃ m, m = counts.length := ⟨_, rfl⟩
  rw [← hn] at HV ⊢
  rw [← hm] at HU ⊢
  have hn1 : n ≤ 1024 := by rw [hn]; simpa [nsy] using hl
  have HN := Lib.hid hn
  have HM := Lib.hid hm
  clear hn hm
  obtain ⟨i0, hi, hz0, hz1, hz2⟩ := info_parts info140
  have HI0 := Lib.hid (And.intro hi (And.intro hz0 (And.intro hz1 hz2)))
  clear hi hz0 hz1 hz2
  go_enter Tryd.func68, Tryd.ntmps68
  go_wp2_with (refine wpList_make_full w rfl _ _ 138 rfl w.heap.size 140 i0 (.agg #[.int .i64 0, .bool false]) 2 Tryd.underlying138 HI0.out.1 HI0.out.2.1 HI0.out.2.2.1 .i64 .i64 _ _ n rfl rfl rfl rfl (by rw [HI0.out.2.2.2]; omega) (by unfold maxLen; omega) (Nat.le_refl _) ?_; intro w1 hown hgrow)
  obtain ⟨cs, hcs⟩ : ∃ cs, cs = cnts counts syms := ⟨_, rfl⟩
  have hcl : cs.length = n := by rw [hcs, HN.out]; simp [cnts, nsy]
  have HI1 : Hid (IRel w w1 (ito cs 0)) := by
    refine Lib.hid ⟨(Below.refl _ _).grown hgrow (Nat.le_refl _) (fun k e => by cases e), ?_⟩
    obtain ⟨h0, ⟨h1, _⟩ | ⟨g, cap', cur, h1, h2, h3, h4, h5, h6, h7⟩⟩ := hown
    · cases h1
    · cases h1
      rw [h3]
      have e : cur.toList = ne (ito cs 0) := by
        rw [List.take_of_length_le (by simp [h6])] at h7
        rw [h7, made_E]
        congr 1
        apply List.ext_getElem (by simp [ito, hcl])
        intro i h1 h2
        simp [ito]
      rw [← e]
  have HCS := Lib.hid hcs
  clear hown hgrow hcs
  go_loopw [8, 9, 16] (fun _ _ v16 wr => ∃ k : Nat, k ≤ n ∧ v16 = .int .i64 k ∧ IRel w wr (ito cs k)) (fun _ _ v16 _ => n - (intOf v16).toNat)
  case atStart => exact ⟨0, Nat.zero_le _, rfl, HI1.out⟩
  case round =>
    clear HI1
    obtain ⟨k, hk, rfl, hR⟩ := hrel
    have HR := Lib.hid hR
    clear hR
    by_cases hlt : k < n
    · have hlti : (k : Int) < (n : Int) := by omega
      obtain ⟨gz, o, rfl, hrow⟩ := HV.out.some (by omega)
      have hcap := HV.out.le
      have hks : k < syms.length := by have := HN.out; simp [nsy] at this; omega
      have hc0 := (hrow.below HR.out.below (hrow.lt (by rw [ni_length, ← HN.out]; omega))).ni k (by rw [← HN.out]; omega)
      have hsk : (nsy syms).getD k 0 = ((syms[k] : Nat) : Int) := by simp [nsy, hks]
      rw [hsk] at hc0
      have hsm := hs syms[k] (List.getElem_mem hks)
      have HCK : Hid (cs.getD k 0 = counts.getD syms[k] 0) := Lib.hid (by rw [HCS.out]; simp [cnts, hks])
      generalize syms[k] = s at *
      rw [← HM.out] at hsm
      have hsmi : (s : Int) < (m : Int) := by omega
      obtain ⟨gu, ou, rfl, hrow2⟩ := HU.out.some (by omega)
      have hcap2 := HU.out.le
      have hc1 := (hrow2.below HR.out.below (hrow2.lt (by rw [ni_length, ← HM.out]; omega))).ni s (by rw [← HM.out]; exact hsm)
      obtain ⟨u, hu⟩ := HR.out.cell k (by rw [ito_length]; omega)
      have hf := HR.out.free (k * 2)
      have HS := Lib.hid (HR.out.step (by omega))
      rw [HCK.out] at HS
      generalize counts.getD s 0 = c at *
      clear hrow hrow2 hsk
      go_wp2_with fail
      exact ⟨⟨k + 1, by omega, by go_num, HS.out⟩, by simp [intOf]; omega⟩
    · have hlti : (n : Int) ≤ (k : Int) := by omega
      obtain rfl : k = n := by omega
      have hR0 := HR.out
      rw [← hcl, ito_all] at hR0
      have HIT : Hid (its cs = its (cnts counts syms)) := Lib.hid (by rw [HCS.out])
      have hil : (its cs).length = k := by simp [its, hcl]
      have HOW := hR0.own (by omega)
      rw [hil] at HOW
      have HOW := Lib.hid HOW
      have HB1 := Lib.hid hR0.below
      clear hR0 HR
      obtain ⟨j0, hj, hj0, hj1, hj2⟩ := info_parts info138
      have HJ0 := Lib.hid (And.intro hj (And.intro hj0 (And.intro hj1 hj2)))
      clear hj hj0 hj1 hj2
      obtain ⟨hpos, hsum⟩ := its_pos counts syms hc hs hl
      rw [← HIT.out] at hpos hsum
      have HF := Lib.hid (fun j => lst_facts (its cs) hpos 4398046511104 hsum j)
      have HLS : Hid (LsRel w (wr.alloc (.cells #[.slice (some ⟨w.heap.size, 0, none⟩) k k] 138)) (its cs) (.slice (some ⟨wr.heap.size, 0, none⟩) 1 1) [.slice (some ⟨w.heap.size, 0, none⟩) k k]) := Lib.hid (LsRel.start HB1.out (by rw [hil]; exact HOW.out))
      have hlim1 : 1 ≤ limit := hlim.1
      have hlim2 : limit ≤ 15 := hlim.2
      have HIL := Lib.hid hil
      go_wp2_with fail
      clear hs hc hpos hsum hil
      generalize wr.heap.size = g0 at *
      generalize wr.alloc (.cells #[.slice (some ⟨w.heap.size, 0, none⟩) k k] 138) = wr1 at *
      have HOW1 : Hid (wr1.ownsRow w.heap.size 140 2 (.slice (some ⟨w.heap.size, 0, none⟩) k k) k (ne (its cs))) := Lib.hid (by have := HLS.out.each 0 _ rfl; rwa [show lst (its cs) 0 = its cs from rfl, HIL.out] at this)
      clear HOW HB1
      go_loopw [10, 34] (fun v10 v34 wr => ∃ j vs, j + 1 ≤ limit ∧ v34 = .int .i64 ((j : Nat) : Int) ∧ (vs : List Value).length = j + 1 ∧ vs[0]? = some (.slice (some ⟨w.heap.size, 0, none⟩) k k) ∧ LsRel w wr (its cs) v10 vs) (fun _ v34 _ => limit - (intOf v34).toNat)
      case atStart => exact ⟨0, _, hlim1, rfl, rfl, rfl, HLS.out⟩
      case round =>
        clear HLS HOW1
        obtain ⟨j, vs, hj, rfl, hvl, hv0, hR⟩ := hrel
        obtain ⟨p10, cap10, hsh0⟩ := own_shape hR.own
        rw [hvl] at hsh0
        subst hsh0
        have HR := Lib.hid hR
        have hO10 := hR.own
        rw [hvl] at hO10
        have HV0 := Lib.hid hv0
        have HVL := Lib.hid hvl
        by_cases hlt : j + 1 < limit
        · have hlti : (j : Int) < (limit : Int) - 1 := by omega
          obtain ⟨x, hx⟩ : ∃ x, vs[j]? = some x := ⟨_, List.getElem?_eq_getElem (by omega)⟩
          have hOx := hR.each j x hx
          obtain ⟨px, capx, rfl⟩ := own_shape hOx
          obtain ⟨ga, capa, hsh, h1, h2, h3, h4, h5, h6, h7⟩ := own_spot hO10 (by omega)
          cases hsh
          have hcx := h5 j _ hx
          have hF := HF.out j
          have hO0 := hR.each 0 _ hv0
          rw [show lst (its cs) 0 = its cs from rfl, HIL.out] at hO0
          have hPK := packages_walk _ _ _ (own_E hOx rfl) (fun e he => ⟨hF.1 e he, by have := esum_mem _ hF.1 e he; have := hF.2.1; omega⟩) (by have := hF.2.2; rw [HIL.out] at this; omega)
          have HPK := Lib.hid hPK
          have HX := Lib.hid hOx
          have HO0 := Lib.hid hO0
          have HF1 := Lib.hid (pk_facts _ hF.1)
          have HF2 := Lib.hid hF
          have hj1 : (j : Int) + 1 - 1 = (j : Int) := by omega
          clear hR hx hv0 hvl hOx hO10 h1 h2 h4 h5 h6 h7 hF hO0 hPK
          go_wp2_with fail
          refine HPK.out.mono ?_
          rintro e w7 ⟨v7, rfl, hO7, hB7⟩
          have HR7 := Lib.hid (HR.out.stays hB7)
          have HO07 := own_staysK HO0.out (fun i hi => hB7.block i (HO0.out.lt i hi).2)
          have hM := merged_walk w7 _ _ _ _ (own_E HO07 HIL.out) (own_E hO7 rfl) (by have h1 := HF1.out.2.2; have h2 := HF2.out.2.2; rw [HIL.out] at h2 ⊢; omega)
          have HMG := Lib.hid hM
          clear hM HO07 hO7 hB7 HPK HR HX HO0
          go_wp2_with fail
          refine HMG.out.mono ?_
          rintro e w8 ⟨v8, rfl, hO8, hB8⟩
          have HR8 := Lib.hid (HR7.out.stays hB8)
          have HO8 := Lib.hid (own_leK hO8 HR7.out.below.size)
          obtain ⟨p8, cap8, rfl⟩ := own_shape hO8
          have HWA : Hid (Below w8.heap.size w8 (w8.alloc (.cells #[.slice p8 (mg (its cs) (pk (lst (its cs) j))).length cap8] 138))) := Lib.hid ((Below.refl _ _).alloc (Nat.le_refl _) _)
          have HOA : Hid (w8.ownsRow w.heap.size 138 1 (.slice (some ⟨ga, 0, none⟩) (j + 1) cap10) (j + 1) vs) := Lib.hid (by have := HR8.out.own; rwa [HVL.out] at this)
          have HX8 : Hid (w8.ownsRow w.heap.size 140 2 (.slice p8 (mg (its cs) (pk (lst (its cs) j))).length cap8) (lst (its cs) (j + 1)).length (ne (lst (its cs) (j + 1)))) := Lib.hid HO8.out
          clear hO8 hB8 HMG HR7 HO8
          generalize (mg (its cs) (pk (lst (its cs) j))).length = n8 at *
          go_wp2_with (refine wpList_appK 126 138 j0 (.slice none 0 0) 1 24 Tryd.underlying126 HJ0.out.1 HJ0.out.2.1 HJ0.out.2.2.1 HJ0.out.2.2.2 rfl (by decide) (by decide) rfl _ _ rfl w.heap.size (.slice (some ⟨ga, 0, none⟩) (j + 1) cap10) (.slice (some ⟨w8.heap.size, 0, none⟩) 1 1) (j + 1) 1 vs [.slice p8 n8 cap8] rfl rfl (by intro y hy; simp at hy; subst hy; rfl) (HOA.out.alloc _) (SlK_one w8 _) (Nat.le_trans HR8.out.below.size (by simp)) (by omega) ?_; intro v' w9 hown hgrow _; have hR9 := HR8.out.app HWA.out (by rw [HVL.out]; exact hown) hgrow (by rw [HVL.out]; exact HX8.out); obtain ⟨p9, cap9, hv'⟩ := own_shape hown; have HR9 := Lib.hid hR9; clear hown hgrow hR9; subst hv')
          refine ⟨⟨j + 1, vs ++ [.slice p8 n8 cap8], by omega, by go_num, by simp [HVL.out], ?_, HR9.out⟩, by simp [intOf]; omega⟩
          rw [List.getElem?_append_left (by rw [HVL.out]; omega)]; exact HV0.out
        · have hlti : (limit : Int) - 1 ≤ (j : Int) := by omega
          go_wp2_with fail
          go_ret
          refine ⟨_, vs, rfl, HR.out.own, by rw [HVL.out]; omega, ?_, HR.out.below⟩
          rw [← HIT.out]; exact HR.out.each
end Go.Proofs.YtphdcgioeokfbaaDoor
