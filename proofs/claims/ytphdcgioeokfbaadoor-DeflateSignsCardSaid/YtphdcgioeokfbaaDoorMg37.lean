/-
  Merged, in the order in which they build: Run.
-/
import Derived.Deep.RegionHeldLaw
import Derived.Deep.RegionHeld3
import Derived.Test.YtphdcgioeokfbaaDoorMg36
/-
  runs: a row of lengths, told.
-/
namespace Go.Proofs.YtphdcgioeokfbaaDoor
open Go.RowKit Hf
def rs (gs : List Sg) : List Value := gs.flatMap run3
theorem rs_length : ∀ gs : List Sg, (rs gs).length = gs.length * 3
  | [] => rfl
  | g :: gs => by
    have e : rs (g :: gs) = .int .i64 (g.s : Int) :: .int .i64 (g.x : Int) :: .int .i64 (g.m : Int) :: rs gs := rfl
    rw [e]; simp only [List.length_cons]; rw [rs_length gs]; omega
theorem rs_snoc (gs : List Sg) (g : Sg) : rs (gs ++ [g]) = rs gs ++ run3 g := by simp [rs]
theorem rs_at : ∀ (l : List Sg) (i : Nat), i < l.length → (rs l)[i * 3]? = some (.int .i64 ((l.getD i ⟨0, 0, 0⟩).s : Int)) ∧ (rs l)[i * 3 + 1]? = some (.int .i64 ((l.getD i ⟨0, 0, 0⟩).x : Int)) ∧ (rs l)[i * 3 + 2]? = some (.int .i64 ((l.getD i ⟨0, 0, 0⟩).m : Int))
  | [], i, h => by simp at h
  | c :: cs, 0, _ => ⟨rfl, rfl, rfl⟩
  | c :: cs, i + 1, h => by
    have := rs_at cs i (by simpa using h)
    have e : rs (c :: cs) = .int .i64 (c.s : Int) :: .int .i64 (c.x : Int) :: .int .i64 (c.m : Int) :: rs cs := rfl
    rw [e, List.getD_cons_succ, show (i + 1) * 3 = i * 3 + 1 + 1 + 1 by omega]
    exact this
theorem info101 : (Tryd.prog.info? 101).map (fun i => (i.zero, i.size, i.bytes)) = some (some (.agg #[.int .i64 0, .int .i64 0, .int .i64 0]), 3, 24) := by kernel_rfl
theorem run3_one (g : Sg) : ∀ y ∈ run3 g, y.oneCell' = true := by
  intro y hy
  simp only [run3, List.mem_cons, List.not_mem_nil, or_false] at hy
  rcases hy with rfl | rfl | rfl <;> rfl
theorem slk_lit (k : Nat) (w : World) (vs : List Value) (e : TypeId) (m : Nat) (hm : vs.length = m * k) : SlK k (w.alloc (.cells vs.toArray e)) (.slice (some ⟨w.heap.size, 0, none⟩) m m) m vs :=
  ⟨hm, .inl ⟨w.heap.size, 0, _, rfl, Nat.le_refl _, fun i v hi => by
    rw [Nat.zero_add]
    exact (cell_of_row _ _ _ _ _ _ (heap_alloc_new _ _)).trans (by simpa using hi)⟩⟩
theorem runsF_more (l : List Int) : ∀ (f h k : Nat), l.length - k ≤ f → l.length - k ≤ h → Df.runsF l f k = Df.runsF l h k
  | 0, h, k, h1, _ => by
    cases h with
    | zero => rfl
    | succ h => rw [Df.runsF, Df.runsF, if_neg (by omega)]
  | f + 1, 0, k, _, h2 => by rw [Df.runsF, Df.runsF, if_neg (by omega)]
  | f + 1, h + 1, k, h1, h2 => by
    rw [Df.runsF, Df.runsF]
    by_cases hk : k < l.length
    · rw [if_pos hk, if_pos hk]
      have := Df.nxt_pos (l.getD k 0) (l.drop (k + 1)) (Df.kno l k)
      rw [runsF_more l f h _ (by omega) (by omega)]
    · rw [if_neg hk, if_neg hk]
/-- What is told from a place on. -/
def runsAt (l : List Int) (k : Nat) : List Sg := Df.runsF l (l.length - k) k
theorem runsAt_zero (l : List Int) : runsAt l 0 = Df.runsOf l := rfl
theorem runsAt_step (l : List Int) (k : Nat) (hk : k < l.length) : runsAt l k = (Df.nxt (l.getD k 0) (l.drop (k + 1)) (Df.kno l k)).1 :: runsAt l (k + (Df.nxt (l.getD k 0) (l.drop (k + 1)) (Df.kno l k)).2) ∧ k + (Df.nxt (l.getD k 0) (l.drop (k + 1)) (Df.kno l k)).2 ≤ l.length := by
  have hp := Df.nxt_pos (l.getD k 0) (l.drop (k + 1)) (Df.kno l k)
  have hl := (List.takeWhile_prefix (· == l.getD k 0) (l := l.drop (k + 1))).length_le
  rw [List.length_drop] at hl
  refine ⟨?_, by omega⟩
  unfold runsAt
  obtain ⟨f, hf⟩ : ∃ f, l.length - k = f + 1 := ⟨l.length - k - 1, by omega⟩
  rw [hf, Df.runsF, if_pos hk]
  congr 1
  exact runsF_more l _ _ _ (by omega) (by omega)
theorem runsAt_end (l : List Int) (k : Nat) (hk : l.length ≤ k) : runsAt l k = [] := by
  unfold runsAt
  rw [show l.length - k = 0 by omega]
  rfl
theorem takeD {P : Program} {ops : Array Oper} {Q : Exit → Act → World → Prop} {S : World → Prop} (i d : Nat) (v : Value) {oi : Oper} {fuel : Nat} {listed : Array Bool} {a : Act} {w : World} (hi : ops[i]? = some oi) (hd : oi.dst = some d)
    (hs : Region.noSelect ops = true) (hf : Region.free .any ops listed i = true) (hr : (Region.ready .any ops listed).contains i = true)
    (hQ : ∀ c a w v, Q (.panic c) (a.put (some d) v) w → Q (.panic c) a w) (hy : YieldsIf P ops S oi v a) (hS : S w)
    (h : wpAnyH P .any ops Q S fuel (listed.setIfInBounds i true) (a.put (some d) v) w) : wpAnyH P .any ops Q S (fuel + 1) listed a w :=
  wpAnyH_take hi hs hf hr (fun c a w h => hQ c a w v (by rw [← hd]; exact h)) hy hS (by rw [hd]; exact h)
theorem storeD {P : Program} {ops : Array Oper} {Q : Exit → Act → World → Prop} {S : World → Prop} (i : Nat) {o : Oper} {fuel : Nat} {listed : Array Bool} {a : Act} {w : World} (hr : Region.ready .any ops listed = [i]) (hi : ops[i]? = some o)
    (ty : TypeId) (x y : Operand) (ho : o.op = .store ty x y) (hd : o.dst = none) (hw : o.guard = none) (g : Nat) (cells : Array Value) (hx : a.eval x = .pointer (some ⟨g, 0, none⟩)) (hy : a.eval y = .agg cells)
    (t : TypeId) (old : Array Value) (hg : w.heap[g]? = some (.cells old t (0, 0))) (hin : (P.info? ty).map (·.size) = some cells.size) (hold : old.size = cells.size) (h1 : cells.all (·.oneCell') = true)
    (h : ∀ w', w'.heap[g]? = some (.cells cells t (0, 0)) → OnlyS (fun k => k = g) w w' → S w' ∧ wpAnyH P .any ops Q S fuel (listed.setIfInBounds i true) a w') : wpAnyH P .any ops Q S (fuel + 1) listed a w := by
  refine wpAnyH_ready (rs := [i]) hr (by simp) (AllReadyH.cons hi (fun K hK => ?_) AllReadyH.nil)
  rw [if_pos (by simp [Region.wanted, hw])]
  have h2 := h (w.setRow g cells) (setRow_heap w g old cells t _ hg) ⟨rfl, rfl, rfl, by simp, fun k _ hne => setRow_other w g k cells hne⟩
  exact wp_store_row ty x y ho g cells hx hy t old hg hin hold h1 (hK.out _ _ h2.1 fun _ => (by rw [hd]; exact h2.2))
set_option maxRecDepth 100000 in
set_option maxHeartbeats 800000 in
theorem runs_walk (w : World) (v : Value) (l : List Int) (hv : SlV w v (ni l)) (hl : l.length ≤ 1000000) (hb : ∀ i, 0 ≤ l.getD i 0 ∧ l.getD i 0 ≤ 15) :
    Calls Tryd.prog 40 #[v] w fun e w' => ∃ u, e = .returned u ∧ OnlyS (fun _ => False) w w' ∧ w'.ownsRow w.heap.size 101 3 u (Df.runsOf l).length (rs (Df.runsOf l)) := by
  obtain ⟨p, c, rfl⟩ := hv.shape
  rw [ni_length] at *
  obtain ⟨n, hn⟩ : ∃ n, n = l.length := ⟨_, rfl⟩
  rw [← hn] at hv hl ⊢
  have HN := Lib.hid hn
  have HV := Lib.hid hv
  have HB := Lib.hid hb
  obtain ⟨i0, hi, hz0, hz1, hz2⟩ := info_parts info101
  have HI0 := Lib.hid (And.intro hi (And.intro hz0 (And.intro hz1 hz2)))
  clear hv hn hb hi hz0 hz1 hz2
  go_enter Tryd.func40, Tryd.ntmps40
  go_wp2_with fail
  go_loopw [3, 4] (fun v3 v4 wr => ∃ (k : Nat) (P : List Sg), k ≤ n ∧ v4 = .int .i64 (k : Int) ∧ P ++ runsAt l k = Df.runsOf l ∧ P.length ≤ k ∧ wr.ownsRow w.heap.size 101 3 v3 P.length (rs P) ∧ OnlyS (fun _ => False) w wr) (fun _ v4 _ => n - (intOf v4).toNat)
  case atStart => exact ⟨0, [], Nat.zero_le _, rfl, rfl, Nat.le_refl _, World.ownsRow_nil _ _ _ _, OnlyS.refl _ _⟩
  case round =>
    obtain ⟨k, P, hk, rfl, hP, hPk, hown, ho⟩ := hrel
    have HP := Lib.hid hP
    have HOW := Lib.hid hown
    have HO := Lib.hid ho
    by_cases hlt : k < n
    · have hlti : (k : Int) < (n : Int) := by omega
      obtain ⟨hst, hle⟩ := runsAt_step l k (by rw [← HN.out]; exact hlt)
      obtain ⟨R, hR⟩ : ∃ R, R = Df.nxt (l.getD k 0) (l.drop (k + 1)) (Df.kno l k) := ⟨_, rfl⟩
      rw [← hR] at hst hle
      rw [← HN.out] at hle
      have hpos : 1 ≤ R.2 := by rw [hR]; exact (Df.nxt_pos _ _ _).1
      obtain ⟨g, o, rfl, hrow⟩ := HV.out.some (by omega)
      have hcap := HV.out.le
      have hck : ¬ c = k := by omega
      have hk0 : (0 : Int) ≤ (k : Int) := by omega
      have hkn : (k : Int) ≤ (n : Int) := by omega
      have hnc : (n : Int) ≤ (c : Int) := by omega
      have hsv : SlV wr (.slice (some ⟨g, o + k, none⟩) (n - k) (c - k)) (ni (l.drop k)) := by
        have h2 := hrow.drop k
        rw [show (ni l).drop k = ni (l.drop k) by simp [ni, List.map_drop]] at h2
        have hl2 : (ni (l.drop k)).length = n - k := by rw [ni_length, List.length_drop, ← HN.out]
        exact (SlV.only (.inl ⟨g, o + k, c - k, by rw [hl2], by rw [hl2]; omega, h2⟩) ho (fun _ _ _ _ _ h => h))
      have e0 : (l.drop k).getD 0 0 = l.getD k 0 := by simp only [List.getD_eq_getElem?_getD, List.getElem?_drop, Nat.add_zero]
      have e1 : (l.drop k).drop 1 = l.drop (k + 1) := by rw [List.drop_drop]
      have HC := Lib.hid (fun (wx : World) (h : OnlyS (fun _ => False) wr wx) => next_walk wx (.slice (some ⟨g, o + k, none⟩) (n - k) (c - k)) (l.drop k) (Df.kno l k) (hsv.only h (fun _ _ _ _ _ h => h)) (by rw [List.length_drop, ← HN.out]; omega) (by rw [List.length_drop, ← HN.out]; omega) (by rw [e0]; exact HB.out k))
      rw [e0, e1, ← hR] at HC
      obtain ⟨pv, cv, hsh⟩ := own_shape hown
      subst hsh
      have hc1 := ho.cell (hrow.ni k (by rw [← HN.out]; exact hlt)) (fun h => h)
      obtain ⟨z, hz⟩ : ∃ z, z = l.getD k 0 := ⟨_, rfl⟩
      rw [← hz] at hc1
      obtain ⟨q, t, hq⟩ : ∃ q t, R = (q, t) := ⟨_, _, rfl⟩
      rw [hq] at hst hle hpos HC
      simp only at hst hle hpos
      have HST := Lib.hid hst
      have HO0 := Lib.hid ho
      clear e0 e1 hR hq hst hsv hown ho hP
      have hgl : (IntKind.i64.wrap 0) = 0 := by decide
      by_cases hk1 : k = 0
      · have hgd : decide ((0 : Int) < (k : Int)) = false := by simp; omega
        subst hk1
        rw [show Df.kno l 0 = false from rfl, Nat.add_zero, Nat.sub_zero, Nat.sub_zero] at HC
        go_wp2_with fail
        refine wp_region_held_drew (S := fun w' => OnlyS (fun _ => False) wr w') (by kernel_rfl) (OnlyS.drew _) (fun hHeld => ?_)
        refine takeD 0 12 (.slice (some ⟨g, o, none⟩) n c) rfl rfl (by kernel_rfl) (by kernel_rfl) (by kernel_rfl) (fun _ _ _ _ h => h) (Or.inl ⟨by rfl, fun w hw => by go_simp⟩) hHeld ?_
        simp only [Act.put, List.setIfInBounds_toArray, List.set_cons_zero, List.set_cons_succ]
        refine takeD 1 13 (.int .i64 0) rfl rfl (by kernel_rfl) (by kernel_rfl) (by kernel_rfl) (fun _ _ _ _ h => h) (Or.inl ⟨by rfl, fun w hw => by go_simp⟩) hHeld ?_
        simp only [Act.put, List.setIfInBounds_toArray, List.set_cons_zero, List.set_cons_succ]
        refine takeD 2 14 (.slice (some ⟨g, o, none⟩) n c) rfl rfl (by kernel_rfl) (by kernel_rfl) (by kernel_rfl) (fun _ _ _ _ h => h) (Or.inl ⟨by rfl, fun w hw => by go_simp⟩) hHeld ?_
        simp only [Act.put, List.setIfInBounds_toArray, List.set_cons_zero, List.set_cons_succ]
        refine takeD 3 15 (.int .i64 0) rfl rfl (by kernel_rfl) (by kernel_rfl) (by kernel_rfl) (fun _ _ _ _ h => h) (Or.inl ⟨by rfl, fun w hw => by go_simp⟩) hHeld ?_
        simp only [Act.put, List.setIfInBounds_toArray, List.set_cons_zero, List.set_cons_succ]
        refine takeD 4 16 (.bool false) rfl rfl (by kernel_rfl) (by kernel_rfl) (by kernel_rfl) (fun _ _ _ _ h => h) (Or.inl ⟨by rfl, fun w hw => by go_simp⟩) hHeld ?_
        simp only [Act.put, List.setIfInBounds_toArray, List.set_cons_zero, List.set_cons_succ]
        refine takeD 5 17 (.bool false) rfl rfl (by kernel_rfl) (by kernel_rfl) (by kernel_rfl) (fun _ _ _ _ h => h) (Or.inl ⟨by rfl, fun w hw => by go_simp⟩) hHeld ?_
        simp only [Act.put, List.setIfInBounds_toArray, List.set_cons_zero, List.set_cons_succ]
        refine takeD 6 18 undef rfl rfl (by kernel_rfl) (by kernel_rfl) (by kernel_rfl) (fun _ _ _ _ h => h) (Or.inr ⟨by rfl, rfl⟩) hHeld ?_
        simp only [Act.put, List.setIfInBounds_toArray, List.set_cons_zero, List.set_cons_succ]
        refine takeD 7 19 undef rfl rfl (by kernel_rfl) (by kernel_rfl) (by kernel_rfl) (fun _ _ _ _ h => h) (Or.inr ⟨by rfl, rfl⟩) hHeld ?_
        simp only [Act.put, List.setIfInBounds_toArray, List.set_cons_zero, List.set_cons_succ]
        refine takeD 8 20 undef rfl rfl (by kernel_rfl) (by kernel_rfl) (by kernel_rfl) (fun _ _ _ _ h => h) (Or.inr ⟨by rfl, rfl⟩) hHeld ?_
        simp only [Act.put, List.setIfInBounds_toArray, List.set_cons_zero, List.set_cons_succ]
        refine takeD 9 21 undef rfl rfl (by kernel_rfl) (by kernel_rfl) (by kernel_rfl) (fun _ _ _ _ h => h) (Or.inr ⟨by rfl, rfl⟩) hHeld ?_
        simp only [Act.put, List.setIfInBounds_toArray, List.set_cons_zero, List.set_cons_succ]
        refine takeD 10 22 undef rfl rfl (by kernel_rfl) (by kernel_rfl) (by kernel_rfl) (fun _ _ _ _ h => h) (Or.inr ⟨by rfl, rfl⟩) hHeld ?_
        simp only [Act.put, List.setIfInBounds_toArray, List.set_cons_zero, List.set_cons_succ]
        refine takeD 11 23 undef rfl rfl (by kernel_rfl) (by kernel_rfl) (by kernel_rfl) (fun _ _ _ _ h => h) (Or.inr ⟨by rfl, rfl⟩) hHeld ?_
        simp only [Act.put, List.setIfInBounds_toArray, List.set_cons_zero, List.set_cons_succ]
        refine takeD 12 24 undef rfl rfl (by kernel_rfl) (by kernel_rfl) (by kernel_rfl) (fun _ _ _ _ h => h) (Or.inr ⟨by rfl, rfl⟩) hHeld ?_
        simp only [Act.put, List.setIfInBounds_toArray, List.set_cons_zero, List.set_cons_succ]
        refine takeD 13 25 undef rfl rfl (by kernel_rfl) (by kernel_rfl) (by kernel_rfl) (fun _ _ _ _ h => h) (Or.inr ⟨by rfl, rfl⟩) hHeld ?_
        simp only [Act.put, List.setIfInBounds_toArray, List.set_cons_zero, List.set_cons_succ]
        refine takeD 14 26 undef rfl rfl (by kernel_rfl) (by kernel_rfl) (by kernel_rfl) (fun _ _ _ _ h => h) (Or.inr ⟨by rfl, rfl⟩) hHeld ?_
        simp only [Act.put, List.setIfInBounds_toArray, List.set_cons_zero, List.set_cons_succ]
        refine takeD 15 27 undef rfl rfl (by kernel_rfl) (by kernel_rfl) (by kernel_rfl) (fun _ _ _ _ h => h) (Or.inr ⟨by rfl, rfl⟩) hHeld ?_
        simp only [Act.put, List.setIfInBounds_toArray, List.set_cons_zero, List.set_cons_succ]
        refine takeD 16 28 (.bool false) rfl rfl (by kernel_rfl) (by kernel_rfl) (by kernel_rfl) (fun _ _ _ _ h => h) (Or.inl ⟨by rfl, fun w hw => by go_simp⟩) hHeld ?_
        simp only [Act.put, List.setIfInBounds_toArray, List.set_cons_zero, List.set_cons_succ]
        refine wpAnyH_ready (rs := [17, 21]) (by kernel_rfl) (by simp) ?_
        refine AllReadyH.cons rfl (fun K hK => ?_) (AllReadyH.cons rfl (fun K hK => ?_) AllReadyH.nil)
        · go_simp
          go_at_call 58
          refine (HC.out _ hHeld).mono ?_
          rintro e w2 ⟨rfl, ho2⟩
          have HS2 : Hid (wr.heap.size ≤ w2.heap.size) := Lib.hid (Nat.le_trans hHeld.size ho2.size)
          refine hK.out _ _ (hHeld.trans ho2) (fun hHeld => ?_)
          try simp only [Act.put, List.setIfInBounds_toArray, List.set_cons_zero, List.set_cons_succ]
          refine takeD 18 11 (.tuple #[runV3 q, .int .i64 (t : Int)]) rfl rfl (by kernel_rfl) (by kernel_rfl) (by kernel_rfl) (fun _ _ _ _ h => h) (Or.inl ⟨by rfl, fun w hw => by go_simp⟩) hHeld ?_
          simp only [Act.put, List.setIfInBounds_toArray, List.set_cons_zero, List.set_cons_succ]
          refine takeD 19 30 (runV3 q) rfl rfl (by kernel_rfl) (by kernel_rfl) (by kernel_rfl) (fun _ _ _ _ h => h) (Or.inl ⟨by rfl, fun w hw => by go_simp⟩) hHeld ?_
          simp only [Act.put, List.setIfInBounds_toArray, List.set_cons_zero, List.set_cons_succ]
          refine takeD 20 31 (.int .i64 (t : Int)) rfl rfl (by kernel_rfl) (by kernel_rfl) (by kernel_rfl) (fun _ _ _ _ h => h) (Or.inl ⟨by rfl, fun w hw => by go_simp⟩) hHeld ?_
          simp only [Act.put, List.setIfInBounds_toArray, List.set_cons_zero, List.set_cons_succ]
          refine wpAnyH_ready (rs := [21]) (by kernel_rfl) (by simp) ?_
          refine AllReadyH.cons rfl (fun K hK => ?_) AllReadyH.nil
          go_simp
          have hr := heap_alloc_new w2 (.cells #[.int .i64 0, .int .i64 0, .int .i64 0] 101 (0, 0))
          refine hK.out _ _ (hHeld.trans (OnlyS.alloc _ _)) (fun hHeld => ?_)
          try simp only [Act.put, List.setIfInBounds_toArray, List.set_cons_zero, List.set_cons_succ]
          have hHeld2 : wr.heap.size ≤ w2.heap.size := HS2.out
          refine storeD 22 (by kernel_rfl) rfl 101 (.tmp 5) (.tmp 30) rfl rfl rfl w2.heap.size (run3 q).toArray rfl rfl 101 _ hr (by kernel_rfl) rfl (all_oneCell_toArray (run3_one q)) ?_
          intro w4 hr4 ho4
          have hH4 : OnlyS (fun _ => False) wr w4 := hHeld.trans' ho4 (fun i hi => .inr (by rw [hi]; exact hHeld2))
          refine ⟨hH4, ?_⟩
          refine takeD 23 6 (.int .i64 (t : Int)) rfl rfl (by kernel_rfl) (by kernel_rfl) (by kernel_rfl) (fun _ _ _ _ h => h) (Or.inl ⟨by rfl, fun w hw => by go_simp⟩) hH4 ?_
          simp only [Act.put, List.setIfInBounds_toArray, List.set_cons_zero, List.set_cons_succ]
          refine wpAnyH_done (by kernel_rfl) ?_ _
          obtain ⟨x0, x1, x2, f0, f1, f2⟩ := row3 hr4
          have HO4 := Lib.hid hH4
          have HOW4 := Lib.hid ((own_staysK HOW.out (fun j hj => HO4.out.block j (HOW.out.lt j hj).2 (fun h => h))).alloc (.cells (run3 q).toArray 101 (0, 0)))
          have HSZ : Hid (w.heap.size ≤ (w4.alloc (.cells (run3 q).toArray 101 (0, 0))).heap.size) := Lib.hid (by have h1 := HO4.out.size; have h2 := HO.out.size; rw [World.size_alloc]; omega)
          clear hHeld ho4 hr4 hH4 HOW
          go_wp2_with (refine wpList_appK 93 101 i0 (.agg #[.int .i64 0, .int .i64 0, .int .i64 0]) 3 24 Tryd.underlying93 HI0.out.1 HI0.out.2.1 HI0.out.2.2.1 HI0.out.2.2.2 rfl (by decide) (by decide) rfl _ _ rfl w.heap.size (.slice pv P.length cv) (.slice (some ⟨w4.heap.size, 0, none⟩) 1 1) P.length 1 (rs P) (run3 q) rfl rfl (run3_one q) HOW4.out (slk_lit 3 w4 (run3 q) _ 1 rfl) HSZ.out (by omega) ?_; intro v' w5 hown5 hgrow _; have HOW5 := Lib.hid hown5; have HGR := Lib.hid hgrow; clear hown5 hgrow)
          refine ⟨⟨0 + t, P ++ [q], hle, by go_num, ?_, ?_, ?_, ?_⟩, ?_⟩
          · rw [List.append_assoc, List.singleton_append, ← HST.out]; exact HP.out
          · rw [List.length_append, List.length_singleton]; omega
          · rw [List.length_append, List.length_singleton, rs_snoc]; exact HOW5.out
          · exact ((HO.out.trans HO4.out).trans (OnlyS.alloc _ _)).trans' (OnlyS.grown (S := fun k => w.heap.size ≤ k) HGR.out (fun k e => (HOW4.out.lt k e).1)) (fun i hi => .inr hi)
          · simp only [intOf]; omega
        · go_simp
          have hr := heap_alloc_new wr (.cells #[.int .i64 0, .int .i64 0, .int .i64 0] 101 (0, 0))
          refine hK.out _ _ (hHeld.trans (OnlyS.alloc _ _)) (fun hHeld => ?_)
          try simp only [Act.put, List.setIfInBounds_toArray, List.set_cons_zero, List.set_cons_succ]
          refine wpAnyH_ready (rs := [17]) (by kernel_rfl) (by simp) ?_
          refine AllReadyH.cons rfl (fun K hK => ?_) AllReadyH.nil
          go_simp
          go_at_call 58
          refine (HC.out _ hHeld).mono ?_
          rintro e w2 ⟨rfl, ho2⟩
          have hr2 := (ho2.block _ (Array.getElem?_eq_some_iff.1 hr).1 (fun h => h)).trans hr
          refine hK.out _ _ (hHeld.trans ho2) (fun hHeld => ?_)
          try simp only [Act.put, List.setIfInBounds_toArray, List.set_cons_zero, List.set_cons_succ]
          refine takeD 18 11 (.tuple #[runV3 q, .int .i64 (t : Int)]) rfl rfl (by kernel_rfl) (by kernel_rfl) (by kernel_rfl) (fun _ _ _ _ h => h) (Or.inl ⟨by rfl, fun w hw => by go_simp⟩) hHeld ?_
          simp only [Act.put, List.setIfInBounds_toArray, List.set_cons_zero, List.set_cons_succ]
          refine takeD 19 30 (runV3 q) rfl rfl (by kernel_rfl) (by kernel_rfl) (by kernel_rfl) (fun _ _ _ _ h => h) (Or.inl ⟨by rfl, fun w hw => by go_simp⟩) hHeld ?_
          simp only [Act.put, List.setIfInBounds_toArray, List.set_cons_zero, List.set_cons_succ]
          refine takeD 20 31 (.int .i64 (t : Int)) rfl rfl (by kernel_rfl) (by kernel_rfl) (by kernel_rfl) (fun _ _ _ _ h => h) (Or.inl ⟨by rfl, fun w hw => by go_simp⟩) hHeld ?_
          simp only [Act.put, List.setIfInBounds_toArray, List.set_cons_zero, List.set_cons_succ]
          refine storeD 22 (by kernel_rfl) rfl 101 (.tmp 5) (.tmp 30) rfl rfl rfl wr.heap.size (run3 q).toArray rfl rfl 101 _ hr2 (by kernel_rfl) rfl (all_oneCell_toArray (run3_one q)) ?_
          intro w4 hr4 ho4
          have hH4 : OnlyS (fun _ => False) wr w4 := hHeld.trans' ho4 (fun i hi => .inr (by rw [hi]; exact Nat.le_refl _))
          refine ⟨hH4, ?_⟩
          refine takeD 23 6 (.int .i64 (t : Int)) rfl rfl (by kernel_rfl) (by kernel_rfl) (by kernel_rfl) (fun _ _ _ _ h => h) (Or.inl ⟨by rfl, fun w hw => by go_simp⟩) hH4 ?_
          simp only [Act.put, List.setIfInBounds_toArray, List.set_cons_zero, List.set_cons_succ]
          refine wpAnyH_done (by kernel_rfl) ?_ _
          obtain ⟨x0, x1, x2, f0, f1, f2⟩ := row3 hr4
          have HO4 := Lib.hid hH4
          have HOW4 := Lib.hid ((own_staysK HOW.out (fun j hj => HO4.out.block j (HOW.out.lt j hj).2 (fun h => h))).alloc (.cells (run3 q).toArray 101 (0, 0)))
          have HSZ : Hid (w.heap.size ≤ (w4.alloc (.cells (run3 q).toArray 101 (0, 0))).heap.size) := Lib.hid (by have h1 := HO4.out.size; have h2 := HO.out.size; rw [World.size_alloc]; omega)
          clear hHeld ho4 hr4 hH4 HOW
          go_wp2_with (refine wpList_appK 93 101 i0 (.agg #[.int .i64 0, .int .i64 0, .int .i64 0]) 3 24 Tryd.underlying93 HI0.out.1 HI0.out.2.1 HI0.out.2.2.1 HI0.out.2.2.2 rfl (by decide) (by decide) rfl _ _ rfl w.heap.size (.slice pv P.length cv) (.slice (some ⟨w4.heap.size, 0, none⟩) 1 1) P.length 1 (rs P) (run3 q) rfl rfl (run3_one q) HOW4.out (slk_lit 3 w4 (run3 q) _ 1 rfl) HSZ.out (by omega) ?_; intro v' w5 hown5 hgrow _; have HOW5 := Lib.hid hown5; have HGR := Lib.hid hgrow; clear hown5 hgrow)
          refine ⟨⟨0 + t, P ++ [q], hle, by go_num, ?_, ?_, ?_, ?_⟩, ?_⟩
          · rw [List.append_assoc, List.singleton_append, ← HST.out]; exact HP.out
          · rw [List.length_append, List.length_singleton]; omega
          · rw [List.length_append, List.length_singleton, rs_snoc]; exact HOW5.out
          · exact ((HO.out.trans HO4.out).trans (OnlyS.alloc _ _)).trans' (OnlyS.grown (S := fun k => w.heap.size ≤ k) HGR.out (fun k e => (HOW4.out.lt k e).1)) (fun i hi => .inr hi)
          · simp only [intOf]; omega
      · obtain ⟨j, hkj⟩ : ∃ j, k = j + 1 := ⟨k - 1, by omega⟩
        have hc0 := hrow.ni j (by rw [← HN.out]; omega)
        obtain ⟨y, hy⟩ : ∃ y, y = l.getD j 0 := ⟨_, rfl⟩
        rw [← hy] at hc0
        have hkn2 : Df.kno l k = (y == z) := by unfold Df.kno; rw [hz, hy, hkj, Nat.add_sub_cancel, decide_eq_true (by omega), Bool.true_and]
        rw [hkn2] at HC
        have HC0 := Lib.hid (HO0.out.cell hc0 (fun h => h))
        have HC1 := Lib.hid hc1
        have hgt : 0 < k := by omega
        have hsb : ((k : Int) - 1) = (j : Int) := by omega
        have hjn : (j : Int) < (n : Int) := by omega
        have hj0 : (0 : Int) ≤ (j : Int) := by omega
        have hwj : IntKind.i64.wrap (j : Int) = (j : Int) := IntWalk.i64_in _ (by omega)
        clear hrow hy hz hc0 hc1 hkn2 hkj
        go_wp2_with fail
        refine wp_region_held_drew (S := fun w' => OnlyS (fun _ => False) wr w') (by kernel_rfl) (OnlyS.drew _) (fun hHeld => ?_)
        refine takeD 0 12 (.slice (some ⟨g, o, none⟩) n c) rfl rfl (by kernel_rfl) (by kernel_rfl) (by kernel_rfl) (fun _ _ _ _ h => h) (Or.inl ⟨by rfl, fun w hw => by go_simp⟩) hHeld ?_
        simp only [Act.put, List.setIfInBounds_toArray, List.set_cons_zero, List.set_cons_succ]
        refine takeD 1 13 (.int .i64 (k : Int)) rfl rfl (by kernel_rfl) (by kernel_rfl) (by kernel_rfl) (fun _ _ _ _ h => h) (Or.inl ⟨by rfl, fun w hw => by go_simp⟩) hHeld ?_
        simp only [Act.put, List.setIfInBounds_toArray, List.set_cons_zero, List.set_cons_succ]
        refine takeD 2 14 (.slice (some ⟨g, o + k, none⟩) (n - k) (c - k)) rfl rfl (by kernel_rfl) (by kernel_rfl) (by kernel_rfl) (fun _ _ _ _ h => h) (Or.inl ⟨by rfl, fun w hw => by go_simp⟩) hHeld ?_
        simp only [Act.put, List.setIfInBounds_toArray, List.set_cons_zero, List.set_cons_succ]
        refine takeD 3 15 (.int .i64 (k : Int)) rfl rfl (by kernel_rfl) (by kernel_rfl) (by kernel_rfl) (fun _ _ _ _ h => h) (Or.inl ⟨by rfl, fun w hw => by go_simp⟩) hHeld ?_
        simp only [Act.put, List.setIfInBounds_toArray, List.set_cons_zero, List.set_cons_succ]
        refine takeD 4 16 (.bool true) rfl rfl (by kernel_rfl) (by kernel_rfl) (by kernel_rfl) (fun _ _ _ _ h => h) (Or.inl ⟨by rfl, fun w hw => by go_simp⟩) hHeld ?_
        simp only [Act.put, List.setIfInBounds_toArray, List.set_cons_zero, List.set_cons_succ]
        refine takeD 5 17 (.bool true) rfl rfl (by kernel_rfl) (by kernel_rfl) (by kernel_rfl) (fun _ _ _ _ h => h) (Or.inl ⟨by rfl, fun w hw => by go_simp⟩) hHeld ?_
        simp only [Act.put, List.setIfInBounds_toArray, List.set_cons_zero, List.set_cons_succ]
        refine takeD 6 18 (.slice (some ⟨g, o, none⟩) n c) rfl rfl (by kernel_rfl) (by kernel_rfl) (by kernel_rfl) (fun _ _ _ _ h => h) (Or.inl ⟨by rfl, fun w hw => by go_simp⟩) hHeld ?_
        simp only [Act.put, List.setIfInBounds_toArray, List.set_cons_zero, List.set_cons_succ]
        refine takeD 7 19 (.int .i64 (k : Int)) rfl rfl (by kernel_rfl) (by kernel_rfl) (by kernel_rfl) (fun _ _ _ _ h => h) (Or.inl ⟨by rfl, fun w hw => by go_simp⟩) hHeld ?_
        simp only [Act.put, List.setIfInBounds_toArray, List.set_cons_zero, List.set_cons_succ]
        refine takeD 8 20 (.int .i64 (j : Int)) rfl rfl (by kernel_rfl) (by kernel_rfl) (by kernel_rfl) (fun _ _ _ _ h => h) (Or.inl ⟨by rfl, fun w hw => by go_simp⟩) hHeld ?_
        simp only [Act.put, List.setIfInBounds_toArray, List.set_cons_zero, List.set_cons_succ]
        refine takeD 9 21 (.pointer (some ⟨g, o + j, none⟩)) rfl rfl (by kernel_rfl) (by kernel_rfl) (by kernel_rfl) (fun _ _ _ _ h => h) (Or.inl ⟨by rfl, fun w hw => by go_simp⟩) hHeld ?_
        simp only [Act.put, List.setIfInBounds_toArray, List.set_cons_zero, List.set_cons_succ]
        refine takeD 10 22 (.int .i64 y) rfl rfl (by kernel_rfl) (by kernel_rfl) (by kernel_rfl) (fun _ _ _ _ h => h) (Or.inl ⟨by rfl, fun w hw => by (have c1 := hw.cell HC0.out (fun h => h); go_simp)⟩) hHeld ?_
        simp only [Act.put, List.setIfInBounds_toArray, List.set_cons_zero, List.set_cons_succ]
        refine takeD 11 23 (.slice (some ⟨g, o, none⟩) n c) rfl rfl (by kernel_rfl) (by kernel_rfl) (by kernel_rfl) (fun _ _ _ _ h => h) (Or.inl ⟨by rfl, fun w hw => by go_simp⟩) hHeld ?_
        simp only [Act.put, List.setIfInBounds_toArray, List.set_cons_zero, List.set_cons_succ]
        refine takeD 12 24 (.int .i64 (k : Int)) rfl rfl (by kernel_rfl) (by kernel_rfl) (by kernel_rfl) (fun _ _ _ _ h => h) (Or.inl ⟨by rfl, fun w hw => by go_simp⟩) hHeld ?_
        simp only [Act.put, List.setIfInBounds_toArray, List.set_cons_zero, List.set_cons_succ]
        refine takeD 13 25 (.pointer (some ⟨g, o + k, none⟩)) rfl rfl (by kernel_rfl) (by kernel_rfl) (by kernel_rfl) (fun _ _ _ _ h => h) (Or.inl ⟨by rfl, fun w hw => by go_simp⟩) hHeld ?_
        simp only [Act.put, List.setIfInBounds_toArray, List.set_cons_zero, List.set_cons_succ]
        refine takeD 14 26 (.int .i64 z) rfl rfl (by kernel_rfl) (by kernel_rfl) (by kernel_rfl) (fun _ _ _ _ h => h) (Or.inl ⟨by rfl, fun w hw => by (have c1 := hw.cell HC1.out (fun h => h); go_simp)⟩) hHeld ?_
        simp only [Act.put, List.setIfInBounds_toArray, List.set_cons_zero, List.set_cons_succ]
        refine takeD 15 27 (.bool (y == z)) rfl rfl (by kernel_rfl) (by kernel_rfl) (by kernel_rfl) (fun _ _ _ _ h => h) (Or.inl ⟨by rfl, fun w hw => by go_simp⟩) hHeld ?_
        simp only [Act.put, List.setIfInBounds_toArray, List.set_cons_zero, List.set_cons_succ]
        refine takeD 16 28 (.bool (y == z)) rfl rfl (by kernel_rfl) (by kernel_rfl) (by kernel_rfl) (fun _ _ _ _ h => h) (Or.inl ⟨by rfl, fun w hw => by go_simp⟩) hHeld ?_
        simp only [Act.put, List.setIfInBounds_toArray, List.set_cons_zero, List.set_cons_succ]
        refine wpAnyH_ready (rs := [17, 21]) (by kernel_rfl) (by simp) ?_
        refine AllReadyH.cons rfl (fun K hK => ?_) (AllReadyH.cons rfl (fun K hK => ?_) AllReadyH.nil)
        · go_simp
          go_at_call 58
          refine (HC.out _ hHeld).mono ?_
          rintro e w2 ⟨rfl, ho2⟩
          have HS2 : Hid (wr.heap.size ≤ w2.heap.size) := Lib.hid (Nat.le_trans hHeld.size ho2.size)
          refine hK.out _ _ (hHeld.trans ho2) (fun hHeld => ?_)
          try simp only [Act.put, List.setIfInBounds_toArray, List.set_cons_zero, List.set_cons_succ]
          refine takeD 18 11 (.tuple #[runV3 q, .int .i64 (t : Int)]) rfl rfl (by kernel_rfl) (by kernel_rfl) (by kernel_rfl) (fun _ _ _ _ h => h) (Or.inl ⟨by rfl, fun w hw => by go_simp⟩) hHeld ?_
          simp only [Act.put, List.setIfInBounds_toArray, List.set_cons_zero, List.set_cons_succ]
          refine takeD 19 30 (runV3 q) rfl rfl (by kernel_rfl) (by kernel_rfl) (by kernel_rfl) (fun _ _ _ _ h => h) (Or.inl ⟨by rfl, fun w hw => by go_simp⟩) hHeld ?_
          simp only [Act.put, List.setIfInBounds_toArray, List.set_cons_zero, List.set_cons_succ]
          refine takeD 20 31 (.int .i64 (t : Int)) rfl rfl (by kernel_rfl) (by kernel_rfl) (by kernel_rfl) (fun _ _ _ _ h => h) (Or.inl ⟨by rfl, fun w hw => by go_simp⟩) hHeld ?_
          simp only [Act.put, List.setIfInBounds_toArray, List.set_cons_zero, List.set_cons_succ]
          refine wpAnyH_ready (rs := [21]) (by kernel_rfl) (by simp) ?_
          refine AllReadyH.cons rfl (fun K hK => ?_) AllReadyH.nil
          go_simp
          have hr := heap_alloc_new w2 (.cells #[.int .i64 0, .int .i64 0, .int .i64 0] 101 (0, 0))
          refine hK.out _ _ (hHeld.trans (OnlyS.alloc _ _)) (fun hHeld => ?_)
          try simp only [Act.put, List.setIfInBounds_toArray, List.set_cons_zero, List.set_cons_succ]
          have hHeld2 : wr.heap.size ≤ w2.heap.size := HS2.out
          refine storeD 22 (by kernel_rfl) rfl 101 (.tmp 5) (.tmp 30) rfl rfl rfl w2.heap.size (run3 q).toArray rfl rfl 101 _ hr (by kernel_rfl) rfl (all_oneCell_toArray (run3_one q)) ?_
          intro w4 hr4 ho4
          have hH4 : OnlyS (fun _ => False) wr w4 := hHeld.trans' ho4 (fun i hi => .inr (by rw [hi]; exact hHeld2))
          refine ⟨hH4, ?_⟩
          refine takeD 23 6 (.int .i64 (t : Int)) rfl rfl (by kernel_rfl) (by kernel_rfl) (by kernel_rfl) (fun _ _ _ _ h => h) (Or.inl ⟨by rfl, fun w hw => by go_simp⟩) hH4 ?_
          simp only [Act.put, List.setIfInBounds_toArray, List.set_cons_zero, List.set_cons_succ]
          refine wpAnyH_done (by kernel_rfl) ?_ _
          obtain ⟨x0, x1, x2, f0, f1, f2⟩ := row3 hr4
          have HO4 := Lib.hid hH4
          have HOW4 := Lib.hid ((own_staysK HOW.out (fun j hj => HO4.out.block j (HOW.out.lt j hj).2 (fun h => h))).alloc (.cells (run3 q).toArray 101 (0, 0)))
          have HSZ : Hid (w.heap.size ≤ (w4.alloc (.cells (run3 q).toArray 101 (0, 0))).heap.size) := Lib.hid (by have h1 := HO4.out.size; have h2 := HO.out.size; rw [World.size_alloc]; omega)
          clear hHeld ho4 hr4 hH4 HOW
          go_wp2_with (refine wpList_appK 93 101 i0 (.agg #[.int .i64 0, .int .i64 0, .int .i64 0]) 3 24 Tryd.underlying93 HI0.out.1 HI0.out.2.1 HI0.out.2.2.1 HI0.out.2.2.2 rfl (by decide) (by decide) rfl _ _ rfl w.heap.size (.slice pv P.length cv) (.slice (some ⟨w4.heap.size, 0, none⟩) 1 1) P.length 1 (rs P) (run3 q) rfl rfl (run3_one q) HOW4.out (slk_lit 3 w4 (run3 q) _ 1 rfl) HSZ.out (by omega) ?_; intro v' w5 hown5 hgrow _; have HOW5 := Lib.hid hown5; have HGR := Lib.hid hgrow; clear hown5 hgrow)
          refine ⟨⟨k + t, P ++ [q], hle, by go_num, ?_, ?_, ?_, ?_⟩, ?_⟩
          · rw [List.append_assoc, List.singleton_append, ← HST.out]; exact HP.out
          · rw [List.length_append, List.length_singleton]; omega
          · rw [List.length_append, List.length_singleton, rs_snoc]; exact HOW5.out
          · exact ((HO.out.trans HO4.out).trans (OnlyS.alloc _ _)).trans' (OnlyS.grown (S := fun k => w.heap.size ≤ k) HGR.out (fun k e => (HOW4.out.lt k e).1)) (fun i hi => .inr hi)
          · simp only [intOf]; omega
        · go_simp
          have hr := heap_alloc_new wr (.cells #[.int .i64 0, .int .i64 0, .int .i64 0] 101 (0, 0))
          refine hK.out _ _ (hHeld.trans (OnlyS.alloc _ _)) (fun hHeld => ?_)
          try simp only [Act.put, List.setIfInBounds_toArray, List.set_cons_zero, List.set_cons_succ]
          refine wpAnyH_ready (rs := [17]) (by kernel_rfl) (by simp) ?_
          refine AllReadyH.cons rfl (fun K hK => ?_) AllReadyH.nil
          go_simp
          go_at_call 58
          refine (HC.out _ hHeld).mono ?_
          rintro e w2 ⟨rfl, ho2⟩
          have hr2 := (ho2.block _ (Array.getElem?_eq_some_iff.1 hr).1 (fun h => h)).trans hr
          refine hK.out _ _ (hHeld.trans ho2) (fun hHeld => ?_)
          try simp only [Act.put, List.setIfInBounds_toArray, List.set_cons_zero, List.set_cons_succ]
          refine takeD 18 11 (.tuple #[runV3 q, .int .i64 (t : Int)]) rfl rfl (by kernel_rfl) (by kernel_rfl) (by kernel_rfl) (fun _ _ _ _ h => h) (Or.inl ⟨by rfl, fun w hw => by go_simp⟩) hHeld ?_
          simp only [Act.put, List.setIfInBounds_toArray, List.set_cons_zero, List.set_cons_succ]
          refine takeD 19 30 (runV3 q) rfl rfl (by kernel_rfl) (by kernel_rfl) (by kernel_rfl) (fun _ _ _ _ h => h) (Or.inl ⟨by rfl, fun w hw => by go_simp⟩) hHeld ?_
          simp only [Act.put, List.setIfInBounds_toArray, List.set_cons_zero, List.set_cons_succ]
          refine takeD 20 31 (.int .i64 (t : Int)) rfl rfl (by kernel_rfl) (by kernel_rfl) (by kernel_rfl) (fun _ _ _ _ h => h) (Or.inl ⟨by rfl, fun w hw => by go_simp⟩) hHeld ?_
          simp only [Act.put, List.setIfInBounds_toArray, List.set_cons_zero, List.set_cons_succ]
          refine storeD 22 (by kernel_rfl) rfl 101 (.tmp 5) (.tmp 30) rfl rfl rfl wr.heap.size (run3 q).toArray rfl rfl 101 _ hr2 (by kernel_rfl) rfl (all_oneCell_toArray (run3_one q)) ?_
          intro w4 hr4 ho4
          have hH4 : OnlyS (fun _ => False) wr w4 := hHeld.trans' ho4 (fun i hi => .inr (by rw [hi]; exact Nat.le_refl _))
          refine ⟨hH4, ?_⟩
          refine takeD 23 6 (.int .i64 (t : Int)) rfl rfl (by kernel_rfl) (by kernel_rfl) (by kernel_rfl) (fun _ _ _ _ h => h) (Or.inl ⟨by rfl, fun w hw => by go_simp⟩) hH4 ?_
          simp only [Act.put, List.setIfInBounds_toArray, List.set_cons_zero, List.set_cons_succ]
          refine wpAnyH_done (by kernel_rfl) ?_ _
          obtain ⟨x0, x1, x2, f0, f1, f2⟩ := row3 hr4
          have HO4 := Lib.hid hH4
          have HOW4 := Lib.hid ((own_staysK HOW.out (fun j hj => HO4.out.block j (HOW.out.lt j hj).2 (fun h => h))).alloc (.cells (run3 q).toArray 101 (0, 0)))
          have HSZ : Hid (w.heap.size ≤ (w4.alloc (.cells (run3 q).toArray 101 (0, 0))).heap.size) := Lib.hid (by have h1 := HO4.out.size; have h2 := HO.out.size; rw [World.size_alloc]; omega)
          clear hHeld ho4 hr4 hH4 HOW
          go_wp2_with (refine wpList_appK 93 101 i0 (.agg #[.int .i64 0, .int .i64 0, .int .i64 0]) 3 24 Tryd.underlying93 HI0.out.1 HI0.out.2.1 HI0.out.2.2.1 HI0.out.2.2.2 rfl (by decide) (by decide) rfl _ _ rfl w.heap.size (.slice pv P.length cv) (.slice (some ⟨w4.heap.size, 0, none⟩) 1 1) P.length 1 (rs P) (run3 q) rfl rfl (run3_one q) HOW4.out (slk_lit 3 w4 (run3 q) _ 1 rfl) HSZ.out (by omega) ?_; intro v' w5 hown5 hgrow _; have HOW5 := Lib.hid hown5; have HGR := Lib.hid hgrow; clear hown5 hgrow)
          refine ⟨⟨k + t, P ++ [q], hle, by go_num, ?_, ?_, ?_, ?_⟩, ?_⟩
          · rw [List.append_assoc, List.singleton_append, ← HST.out]; exact HP.out
          · rw [List.length_append, List.length_singleton]; omega
          · rw [List.length_append, List.length_singleton, rs_snoc]; exact HOW5.out
          · exact ((HO.out.trans HO4.out).trans (OnlyS.alloc _ _)).trans' (OnlyS.grown (S := fun k => w.heap.size ≤ k) HGR.out (fun k e => (HOW4.out.lt k e).1)) (fun i hi => .inr hi)
          · simp only [intOf]; omega
    · have hkn : k = n := by omega
      subst hkn
      have hPe : P = Df.runsOf l := by rw [← HP.out, runsAt_end l _ (by rw [← HN.out]; exact Nat.le_refl _), List.append_nil]
      go_wp2_with fail
      go_ret
      refine ⟨_, rfl, HO.out, ?_⟩
      rw [← hPe]
      exact HOW.out
end Go.Proofs.YtphdcgioeokfbaaDoor
