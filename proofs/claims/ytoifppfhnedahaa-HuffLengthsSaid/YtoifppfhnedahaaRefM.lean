/-
  The document's Lengths, walked.
-/
import Derived.Test.YtoifppfhnedahaaRefK
namespace Go.Proofs.Ytoifppfhnedahaa
open Go.RowKit Hf
theorem pkR_all (P Q : Rp → Prop) (h : ∀ a b : Rp, P a → P b → Q (a.1 + b.1, true, a.2.2 ++ b.2.2)) : ∀ l : List Rp, (∀ e ∈ l, P e) → ∀ e ∈ pkR l, Q e
  | [], _ => fun e he => by cases he
  | [_], _ => fun e he => by cases he
  | a :: b :: t, hl => fun e he => by
    have he : e ∈ (a.1 + b.1, true, a.2.2 ++ b.2.2) :: pkR t := he
    rcases List.mem_cons.1 he with rfl | he
    · exact h a b (hl a (by simp)) (hl b (by simp))
    · exact pkR_all P Q h t (fun e he => hl e (by simp [he])) e he
theorem fold_all (Q : Rp → Prop) (ps : List Rp) : ∀ items : List Rp, (∀ e ∈ items, Q e) → (∀ e ∈ ps, Q e) → ∀ e ∈ ps.foldl putR items, Q e := by
  induction ps with
  | nil => intro items h _; exact h
  | cons p t ih =>
    intro items h hp
    rw [List.foldl_cons]
    refine ih _ (fun e he => ?_) (fun e he => hp e (by simp [he]))
    unfold putR at he
    rcases List.mem_append.1 he with he | he
    · exact h e (List.takeWhile_subset _ he)
    · rcases List.mem_cons.1 he with rfl | he
      · exact hp _ (by simp)
      · exact h e (List.dropWhile_subset _ he)
/-- A pack of the j-th list has at most 2 to j symbols. -/
theorem lstR_short (c : Nat → Int) (ss : List Nat) (j : Nat) : ∀ e ∈ lstR (itR c ss) j, e.2.2.length ≤ 2 ^ j := by
  have h0 : ∀ e ∈ itR c ss, e.2.2.length ≤ 1 := by
    intro e he
    obtain ⟨y, _, rfl⟩ := List.mem_map.1 he
    exact Nat.le_refl _
  induction j with
  | zero => exact h0
  | succ j ih =>
    refine fold_all (fun e => e.2.2.length ≤ 2 ^ (j + 1)) _ _ (fun e he => Nat.le_trans (h0 e he) (Nat.pow_pos (by decide))) (pkR_all (fun e => e.2.2.length ≤ 2 ^ j) _ (fun a b ha hb => ?_) _ ih)
    show (a.2.2 ++ b.2.2).length ≤ _
    rw [List.length_append, Nat.pow_succ]; omega
theorem pkR_take_succ : ∀ (l : List Rp) (t : Nat) (a b : Rp), l[2 * t]? = some a → l[2 * t + 1]? = some b → (pkR l).take (t + 1) = (pkR l).take t ++ [(a.1 + b.1, true, a.2.2 ++ b.2.2)]
  | [], t, a, b, h, _ => by simp at h
  | [x], t, a, b, _, h => by simp at h
  | x :: y :: l, 0, a, b, h, h2 => by
    simp at h h2
    subst h; subst h2
    rfl
  | x :: y :: l, t + 1, a, b, h, h2 => by
    have h : l[2 * t]? = some a := by simpa [Nat.mul_add] using h
    have h2 : l[2 * t + 1]? = some b := by simpa [Nat.mul_add] using h2
    have := pkR_take_succ l t a b h h2
    show (_ :: pkR l).take (t + 1 + 1) = (_ :: pkR l).take (t + 1) ++ _
    rw [List.take_succ_cons, List.take_succ_cons, this, List.cons_append]
/-- Each pack has a symbol. -/
theorem lstR_pos (c : Nat → Int) (ss : List Nat) (j : Nat) : ∀ e ∈ lstR (itR c ss) j, 0 < e.2.2.length := by
  have h0 : ∀ e ∈ itR c ss, 0 < e.2.2.length := by
    intro e he
    obtain ⟨y, _, rfl⟩ := List.mem_map.1 he
    exact Nat.one_pos
  induction j with
  | zero => exact h0
  | succ j ih =>
    refine fold_all (fun e => 0 < e.2.2.length) _ _ h0 (pkR_all (fun e => 0 < e.2.2.length) _ (fun a b ha hb => ?_) _ ih)
    show 0 < (a.2.2 ++ b.2.2).length
    rw [List.length_append]; omega
theorem okC_iff (C : List Int) (h : okC C = true) : (∀ c ∈ C, 0 ≤ c ∧ c ≤ 4294967296) ∧ C.length ≤ 1024 := by
  unfold okC at h
  rw [Bool.and_eq_true, List.all_eq_true, decide_eq_true_iff] at h
  exact ⟨fun c hc => by have := h.1 c hc; simpa using this, h.2⟩
/-- The counts of packs are no great ones. -/
theorem lstR_bd (C : List Int) (h : okC C = true) (j : Nat) (hj : j ≤ 20) : ∀ e ∈ lstR (itR (cf C) (syms C)) j, 0 ≤ e.1 ∧ e.1 ≤ 1125899906842624 := by
  intro e he
  obtain ⟨h1, h2⟩ := okC_iff C h
  obtain ⟨h3, h4⟩ := its_pos C (syms C) h1 (syms_lt C) (by rw [syms_length]; exact Nat.le_trans (posTo_le C _) h2)
  obtain ⟨h5, h6, _⟩ := lst_facts (its (cnts C (syms C))) h3 4398046511104 h4 j
  have h7 := (pr_lst (itR (cf C) (syms C)) (by rw [pr_it]; exact syms_ris C) j).1
  rw [pr_it] at h7
  have h8 : (e.1, e.2.1) ∈ lst (its (cnts C (syms C))) j := by
    rw [cnts_is, ← h7]; exact List.mem_map.2 ⟨e, he, rfl⟩
  have h9 := esum_mem _ h5 _ h8
  have h10 := h5 _ h8
  simp only at h9 h10
  refine ⟨h10, ?_⟩
  have h11 : ((j : Int) + 1) * 4398046511104 ≤ 21 * 4398046511104 := by omega
  omega
theorem putR_length (l : List Rp) (x : Rp) : (putR l x).length = l.length + 1 := by
  have h := congrArg List.length (List.takeWhile_append_dropWhile (p := fun e : Rp => decide (e.1 ≤ x.1)) (l := l))
  unfold putR
  rw [List.length_append] at h
  rw [List.length_append, List.length_cons]; omega
theorem fold_putR_length (ps : List Rp) : ∀ l : List Rp, (ps.foldl putR l).length = l.length + ps.length := by
  induction ps with
  | nil => intro l; rfl
  | cons p t ih => intro l; rw [List.foldl_cons, ih, putR_length, List.length_cons]; omega
/-- A block of packs in memory stands when another is laid. -/
theorem cells_at {w : World} {g : Nat} {c0 c1 : Value} (h : w.heap[g]? = some (.cells #[c0, c1] 71 (0, 0))) : w.cell? ⟨g, 0, none⟩ = some c0 ∧ w.cell? ⟨g, 1, none⟩ = some c1 ∧ ∀ i, w.frozen? ⟨g, i, none⟩ = false :=
  ⟨by rw [cell_of_row _ _ _ _ _ _ h]; rfl, by rw [cell_of_row _ _ _ _ _ _ h]; rfl, fun _ => frozen_of_row _ _ _ _ _ h⟩
theorem ni_get {zs : List Int} {x : Nat} (h : x < zs.length) : (ni zs)[x]? = some (.int .i64 (zs.getD x 0)) := by simp [ni, h]
set_option maxRecDepth 100000 in
set_option maxHeartbeats 16000000 in
theorem rLengths_walk (w : World) (v : Value) (C : List Int) (lim : Int) (hv : SlV w v (ni C)) (hl : C.length ≤ 60) : Calls Try.prog 10 #[v, .int .i64 lim] w (LenPost C lim w) := by
  obtain ⟨i0, hi, hz0, hz1, hz2⟩ := info_parts info3
  have HI0 := Lib.hid (And.intro hi (And.intro hz0 (And.intro hz1 hz2)))
  clear hi hz0 hz1 hz2
  obtain ⟨p, cap, rfl⟩ := hv.shape
  rw [ni_length] at hv ⊢
  obtain ⟨n, hn⟩ : ∃ n, n = C.length := ⟨_, rfl⟩
  rw [← hn] at hv hl ⊢
  have HV := Lib.hid hv
  have HN := Lib.hid hn
  clear hv hn
  have HBAD : Hid (lenErr C lim = 1 → ∀ w9 : World, Below w.heap.size w w9 → LenPost C lim w (.returned (.tuple #[.slice none 0 0, .int .i64 1])) w9) := Lib.hid (fun h w9 hb => ⟨.slice none 0 0, by rw [h], hb, fun h0 => absurd (h.symm.trans h0) (by decide), fun _ => rfl⟩)
  go_enter Try.func10, Try.ntmps10
  by_cases hlim : 1 ≤ lim ∧ lim ≤ 15
  · obtain ⟨h1, h2⟩ := hlim
    obtain ⟨L, rfl⟩ : ∃ L : Nat, lim = (L : Int) := ⟨lim.toNat, by omega⟩
    have d1 : decide ((1024 : Int) < (n : Int)) = false := decide_eq_false (by omega)
    have d2 : decide ((L : Int) < 1) = false := decide_eq_false (by omega)
    have d3 : decide ((15 : Int) < (L : Int)) = false := decide_eq_false (by omega)
    go_wp2_with fail
    clear d1 d2 d3
    go_loopw [6, 7] (fun v6 v7 wr => ∃ (i : Nat) (Q : List Qe), i ≤ n ∧ v7 = .int .i64 i ∧ PkAt w.heap.size wr v6 Q ∧ Q.map rq = itR (cf C) (itS C i) ∧ (∀ x, x < i → 0 ≤ C.getD x 0 ∧ C.getD x 0 ≤ 4294967296) ∧ Below w.heap.size w wr) (fun _ v7 _ => n - (intOf v7).toNat)
    case atStart => exact ⟨0, [], Nat.zero_le _, rfl, PkAt.nil _ _, rfl, fun x hx => by omega, Below.refl _ _⟩
    case round =>
      obtain ⟨i, Q, hi, rfl, hP, hQ, hall, hB⟩ := hrel
      have hQl := len_of_rq hQ
      have hil := itS_len C i
      obtain ⟨p6, cap6, rfl⟩ := own_shape hP.row
      have HP := Lib.hid hP
      have HQ := Lib.hid hQ
      have HA := Lib.hid hall
      have HB := Lib.hid hB
      have HQL := Lib.hid hQl
      clear hP hQ hall hB hQl
      by_cases hlt : i < n
      · have hlti : (i : Int) < (n : Int) := by omega
        obtain ⟨g, o, rfl, hrow⟩ := (HV.out.below HB.out (Nat.le_refl _)).some (by omega)
        have hcap := HV.out.le
        have hiC : i < C.length := by rw [← HN.out]; exact hlt
        have hc := hrow.ni i hiC
        clear hrow
        have HIT := Lib.hid (itS_succ C i)
        have HNOT := Lib.hid (fun h => okC_not C i hiC h)
        have HCI : Hid (cf C i = C.getD i 0) := Lib.hid rfl
        clear hiC
        generalize hci : C.getD i 0 = c at *
        have HCC := Lib.hid hci
        clear hci
        by_cases hc0 : c < 0
        · have HE : Hid (lenErr C (L : Int) = 1) := Lib.hid (by unfold lenErr; rw [if_neg (fun h => by rw [HNOT.out (.inl hc0)] at h; cases h.1)])
          clear HNOT
          go_wp2_with fail
          go_ret2
          exact HBAD.out HE.out _ HB.out
        · have hc0' : decide (c < 0) = false := decide_eq_false hc0
          by_cases hc1 : 4294967296 < c
          · have HE : Hid (lenErr C (L : Int) = 1) := Lib.hid (by unfold lenErr; rw [if_neg (fun h => by rw [HNOT.out (.inr hc1)] at h; cases h.1)])
            clear HNOT
            go_wp2_with fail
            go_ret2
            exact HBAD.out HE.out _ HB.out
          · have hc1' : decide (4294967296 < c) = false := decide_eq_false hc1
            clear HNOT
            have hallN : ∀ x, x < i + 1 → 0 ≤ C.getD x 0 ∧ C.getD x 0 ≤ 4294967296 := fun x hx => by
              rcases Nat.lt_or_ge x i with h | h
              · exact HA.out x h
              · obtain rfl : x = i := by omega
                rw [HCC.out]; omega
            have HAN := Lib.hid hallN
            clear hallN
            by_cases hcp : 0 < c
            · have HIT2 := HIT.out
              rw [if_pos hcp] at HIT2
              have HIT2 := Lib.hid HIT2
              clear HIT
              have HB1 : Hid (Below wr.heap.size wr (wr.alloc (.cells #[.int .i64 (i : Int)] 3))) := Lib.hid ((Below.refl _ _).alloc (Nat.le_refl _) _)
              have HR1 : Hid (RowAt (wr.alloc (.cells #[.int .i64 (i : Int)] 3)) wr.heap.size 0 (nl [i])) := Lib.hid (fun x u hx => by
                rw [Nat.zero_add]
                exact (cell_of_row _ _ _ _ _ _ (heap_alloc_new wr _)).trans (by simpa [nl, ni] using hx))
              have HS1 : Hid ((wr.alloc (.cells #[.int .i64 (i : Int)] 3)).heap.size = wr.heap.size + 1) := Lib.hid (by simp)
              have HSW : Hid (w.heap.size ≤ wr.heap.size) := Lib.hid HB.out.size
              go_wp2_with fail
              refine (putQ_walk w.heap.size _ _ Q c false [i] wr.heap.size 1 (HP.out.keep HB1.out (Nat.le_refl _)) (by rw [HS1.out]; have := HSW.out; omega) (by have := HQL.out; omega) (Nat.le_refl _) HSW.out (by rw [HS1.out]; omega) HR1.out).mono ?_
              rintro e w3 ⟨v3, rfl, hP3, hB3⟩
              have HP3 := Lib.hid hP3
              have HB3 := Lib.hid (HB.out.trans ((HB1.out.trans (hB3.mono HB1.out.size)).mono HSW.out))
              have HQ3 : Hid ((putQ Q (c, false, [i], .slice (some ⟨wr.heap.size, 0, none⟩) [i].length 1)).map rq = itR (cf C) (itS C (i + 1))) := Lib.hid (by
                rw [putQ_r, HQ.out, HIT2.out, ← HCC.out]
                exact putR_it (cf C) (itS C i) i)
              clear hP3 hB3
              go_wp2_with fail
              refine ⟨⟨i + 1, _, ?_, ?_, HP3.out, HQ3.out, HAN.out, HB3.out⟩, ?_⟩
              · omega
              · go_num
              · simp only [intOf]; omega
            · obtain rfl : c = 0 := by omega
              have HIT2 := HIT.out
              rw [if_neg (by decide)] at HIT2
              have HIT2 := Lib.hid HIT2
              clear HIT
              go_wp2_with fail
              refine ⟨⟨i + 1, Q, ?_, ?_, HP.out, ?_, HAN.out, HB.out⟩, ?_⟩
              · omega
              · go_num
              · rw [HIT2.out]; exact HQ.out
              · simp only [intOf]; omega
      · have hlti : (n : Int) ≤ (i : Int) := by omega
        obtain rfl : i = n := by omega
        have HOK : Hid (okC C = true) := Lib.hid (by rw [okC_of C (fun x hx => HA.out x (by rw [HN.out]; exact hx)), decide_eq_true_iff, ← HN.out]; omega)
        have HQS : Hid (Q.map rq = itR (cf C) (syms C)) := Lib.hid (by rw [HQ.out, HN.out, itS_all])
        have HKS : Hid (Q.length = (syms C).length) := Lib.hid (len_of_rq HQS.out)
        obtain ⟨k, hk⟩ : ∃ k, k = Q.length := ⟨_, rfl⟩
        rw [← hk] at HKS ⊢
        have hki : k ≤ i := by have := HQL.out; omega
        have HK := Lib.hid hk
        clear hk HA HQ HQL hil
        go_wp2_with fail
        refine (power_walk _ L (by omega)).mono ?_
        rintro e w3 ⟨rfl, rfl⟩
        obtain ⟨P, hP⟩ : ∃ P, P = p2 L := ⟨_, rfl⟩
        have hP15 := p2_le L (by omega)
        rw [← hP] at hP15 ⊢
        have HPP := Lib.hid hP
        clear hP
        by_cases hover : P < k
        · have hoi : (P : Int) < (k : Int) := by omega
          have HE : Hid (lenErr C (L : Int) = 1) := Lib.hid (by
            unfold lenErr
            rw [if_pos ⟨HOK.out, by omega, by omega⟩, Int.toNat_natCast, if_pos (by have h1 := HPP.out; have h2 := HKS.out; unfold p2 at h1; omega)])
          go_wp2_with fail
          go_ret2
          exact HBAD.out HE.out _ HB.out
        · have hoi : (k : Int) ≤ (P : Int) := by omega
          have HE : Hid (lenErr C (L : Int) = 0) := Lib.hid (by
            unfold lenErr
            rw [if_pos ⟨HOK.out, by omega, by omega⟩, Int.toNat_natCast, if_neg (by have h1 := HPP.out; have h2 := HKS.out; unfold p2 at h1; omega)])
          have HKL : Hid ((syms C).length ≤ 2 ^ L) := Lib.hid (by have h1 := HPP.out; have h2 := HKS.out; unfold p2 at h1; omega)
          have HGOOD : Hid (∀ (g9 : Nat) (w9 : World), w9.ownsRow w.heap.size 3 1 (.slice (some ⟨g9, 0, none⟩) i i) i (ni (lensF C L)) → Below w.heap.size w w9 → LenPost C (L : Int) w (.returned (.tuple #[.slice (some ⟨g9, 0, none⟩) i i, .int .i64 0])) w9) := Lib.hid (fun g9 w9 h1 h2 => ⟨.slice (some ⟨g9, 0, none⟩) i i, by rw [HE.out], h2, fun _ => by rw [← HN.out, Int.toNat_natCast]; exact h1, fun h => absurd HE.out h⟩)
          have HSW : Hid (w.heap.size ≤ w3.heap.size) := Lib.hid HB.out.size
          clear HBAD
          rcases Nat.lt_trichotomy k 1 with hk1 | hk1 | hk1
          · obtain rfl : k = 0 := by omega
            go_wp2_with (at_make; refine wpList_make_full w3 rfl _ _ 22 rfl w.heap.size 3 i0 (.int .i64 0) 1 Try.underlying22 HI0.out.1 HI0.out.2.1 HI0.out.2.2.1 .i64 .i64 i i i rfl rfl rfl rfl (by rw [HI0.out.2.2.2]; omega) (by unfold maxLen; omega) HSW.out ?_; intro w4 hown hgrow; rw [zeros_made] at hown; have hB4 : Below w3.heap.size w3 w4 := (Below.refl _ _).grown hgrow (Nat.le_refl _) (fun k e => by cases e); have HB4 := Lib.hid hB4; have HOW := Lib.hid hown; clear hown hgrow hB4)
            go_ret2
            refine HGOOD.out _ _ ?_ (HB.out.trans (HB4.out.mono HSW.out))
            have e : lensF C L = zeros i := by unfold lensF; rw [if_neg (by have := HKS.out; omega), if_neg (by have := HKS.out; omega), ← HN.out]
            rw [e]; exact HOW.out
          · subst hk1
            obtain ⟨q, hq⟩ : ∃ q, Q = [q] := List.length_eq_one_iff.1 HK.out.symm
            obtain ⟨s, hs⟩ : ∃ s, syms C = [s] := List.length_eq_one_iff.1 HKS.out.symm
            have hqs : q.2.2.1 = [s] := by
              have h := HQS.out
              rw [hq, hs] at h
              have h : [rq q] = [(cf C s, false, [s])] := h
              injection h with h _
              exact congrArg (fun e : Rp => e.2.2) h
            have hsi : s < i := by rw [HN.out]; exact syms_lt C s (by rw [hs]; simp)
            obtain ⟨g2, cap2, e2, hle2, hB2, hlt2, hrow2⟩ := HP.out.syms q (by rw [hq]; simp)
            rw [hqs] at e2 hrow2
            have hsl := HP.out.sl
            rw [← HK.out] at hsl
            obtain ⟨g1, o1, rfl, hcap1, hcell⟩ := hsl.at (by decide)
            have hc1 := (hcell 0 (vq q) (by rw [hq]; rfl)).2
            have e3 : (vq q).2 = .slice (some ⟨g2, 0, none⟩) 1 cap2 := e2
            rw [e3] at hc1
            have hc2 := hrow2 0 (.int .i64 (s : Int)) rfl
            rw [Nat.zero_mul, Nat.add_zero] at hc1
            rw [Nat.add_zero] at hc2
            have hg1 := block_lt_of_cell hc1
            have hg2 := block_lt_of_cell hc2
            clear hcell e2 e3 hrow2 hsl hlt2 hle2
            have hsii : (s : Int) < (i : Int) := by omega
            go_wp2_with (at_make; refine wpList_make_full w3 rfl _ _ 22 rfl w.heap.size 3 i0 (.int .i64 0) 1 Try.underlying22 HI0.out.1 HI0.out.2.1 HI0.out.2.2.1 .i64 .i64 i i i rfl rfl rfl rfl (by rw [HI0.out.2.2.2]; omega) (by unfold maxLen; omega) HSW.out ?_; intro w4 hown hgrow; rw [zeros_made] at hown; have hB4 : Below w3.heap.size w3 w4 := (Below.refl _ _).grown hgrow (Nat.le_refl _) (fun k e => by cases e); have HB4 := Lib.hid hB4; have HOW := Lib.hid hown; have hc1 := (hB4.cell (p := ⟨g1, o1 + 1, none⟩) hg1).trans hc1; have hc2 := (hB4.cell (p := ⟨g2, 0, none⟩) hg2).trans hc2; obtain ⟨g0, cap0, e0, _, _, hle0, _, hcell0, hfr0, hset0⟩ := own_spot hown (by omega); cases e0; have hzs := hcell0 s (.int .i64 0) (by simp [ni, zeros, hsi]); have hfs := hfr0 s; have hst := Lib.hid (hset0 s (.int .i64 1) hsi); clear hown hgrow hB4 hcell0 hfr0 hset0)
            go_ret2
            refine HGOOD.out _ _ ?_ (HB.out.trans ((HB4.out.setCell (Nat.le_refl _) _).mono HSW.out))
            have e : lensF C L = (zeros i).set s 1 := by unfold lensF; rw [if_pos (by rw [hs]; rfl), ← HN.out, hs]; rfl
            rw [e]
            have := hst.out
            unfold ni at this ⊢
            rw [List.map_set]; exact this
          · have hk1i : ((k : Int) == 1) = false := by rw [beq_eq_false_iff_ne]; omega
            have hk2i : (2 : Int) ≤ (k : Int) := by omega
            go_wp2_with (at_make; refine wpList_make_full w3 rfl _ _ 22 rfl w.heap.size 3 i0 (.int .i64 0) 1 Try.underlying22 HI0.out.1 HI0.out.2.1 HI0.out.2.2.1 .i64 .i64 i i i rfl rfl rfl rfl (by rw [HI0.out.2.2.2]; omega) (by unfold maxLen; omega) HSW.out ?_; intro w4 hown hgrow; rw [zeros_made] at hown; have hB4 : Below w3.heap.size w3 w4 := (Below.refl _ _).grown hgrow (Nat.le_refl _) (fun k e => by cases e); have HB4 := Lib.hid hB4; have HOW := Lib.hid hown; clear hown hgrow hB4)
            have hp4 := HP.out.keep HB4.out (Nat.le_refl _)
            rw [← HK.out] at hp4
            have HP4 := Lib.hid hp4
            clear hp4
            have HNE : Hid (∀ q ∈ Q, ∀ g n cap, q.2.2.2 = .slice (some ⟨g, 0, none⟩) n cap → g ≠ w3.heap.size) := Lib.hid (fun q hq g n cap e h => by
              obtain ⟨g2, cap2, e2, _, _, h2, _⟩ := HP.out.syms q hq
              rw [e] at e2
              injection e2 with e2
              injection e2 with e2
              injection e2 with e2
              omega)
            have HB5 : Hid (Below w.heap.size w w4) := Lib.hid (HB.out.trans (HB4.out.mono HSW.out))
            have HS4 : Hid (w.heap.size ≤ w4.heap.size ∧ w3.heap.size < w4.heap.size ∧ w.heap.size ≤ w3.heap.size) := Lib.hid ⟨HB5.out.size, by
              obtain ⟨g0, cap0, e0, _, h, _⟩ := own_spot HOW.out (by omega)
              cases e0; exact h, HSW.out⟩
            generalize hgl : w3.heap.size = gl at *
            clear hgl HB HB4 HP HSW
            go_loopw [10, 11] (fun v10 v11 wy => ∃ (j : Nat) (R : List Qe), 1 ≤ j ∧ j ≤ L ∧ v11 = .int .i64 j ∧ PkAt w.heap.size wy v10 R ∧ R.map rq = lstR (itR (cf C) (syms C)) (j - 1) ∧ (∀ q ∈ R, ∀ g n cap, q.2.2.2 = .slice (some ⟨g, 0, none⟩) n cap → g ≠ gl) ∧ Below w4.heap.size w4 wy) (fun _ v11 _ => L - (intOf v11).toNat)
            case atStart => exact ⟨1, Q, Nat.le_refl _, by omega, rfl, HP4.out, HQS.out, HNE.out, Below.refl _ _⟩
            case round =>
              obtain ⟨j, R, hj1, hjL, rfl, hP, hR, hNE, hB⟩ := hrel
              obtain ⟨p10, cap10, rfl⟩ := own_shape hP.row
              have HPR := Lib.hid hP
              have HRR := Lib.hid hR
              have HNR := Lib.hid hNE
              have HBR := Lib.hid hB
              clear hP hR hNE hB
              obtain ⟨r, hr⟩ : ∃ r, r = R.length := ⟨_, rfl⟩
              rw [← hr]
              have HRL := Lib.hid hr
              clear hr
              by_cases hjl : j < L
              · have hjli : (j : Int) < (L : Int) := by omega
                go_wp2_with fail
                have HPI := Lib.hid (HP4.out.keep HBR.out (Nat.le_refl _))
                have HTL0 : Hid ((pkR (R.map rq)).length = r / 2) := Lib.hid (by
                  rw [← pr_length, pr_pk, pk_length, pr_length, List.length_map, ← HRL.out])
                have hr120 : r ≤ 200 := by
                  have h1 := lst_le (its (cnts C (syms C))) (j - 1)
                  rw [← lstR_len, ← HRR.out, List.length_map, ← HRL.out, its_length, cnts_length, ← HKS.out] at h1
                  omega
                go_loopw [12, 13] (fun v12 v13 wy => ∃ (t : Nat) (X : List Qe), 2 * t ≤ r ∧ v13 = .int .i64 ((2 * t : Nat) : Int) ∧ PkAt w.heap.size wy v12 X ∧ X.map rq = ((pkR (R.map rq)).take t).foldl putR (itR (cf C) (syms C)) ∧ (∀ q ∈ X, ∀ g n cap, q.2.2.2 = .slice (some ⟨g, 0, none⟩) n cap → g ≠ gl) ∧ Below wr.heap.size wr wy) (fun _ v13 _ => r + 2 - (intOf v13).toNat)
                case atStart => exact ⟨0, Q, Nat.zero_le _, rfl, HPI.out, HQS.out, HNE.out, Below.refl _ _⟩
                case round =>
                  obtain ⟨t, X, ht, rfl, hX, hXr, hXn, hB⟩ := hrel
                  have HX := Lib.hid hX
                  have HXR := Lib.hid hXr
                  have HXN := Lib.hid hXn
                  have HBX := Lib.hid hB
                  clear hX hXr hXn hB
                  rw [show ((2 * t : Nat) : Int) = 2 * (t : Int) by omega]
                  by_cases htr : 2 * t + 1 < r
                  · obtain ⟨u, hu⟩ : ∃ u : Nat, u = 2 * t := ⟨_, rfl⟩
                    rw [show 2 * (t : Int) = (u : Int) by omega]
                    have htri : (u : Int) + 1 < (r : Int) := by omega
                    have htr0 : (u : Int) < (r : Int) := by omega
                    have hP := HPR.out.keep HBX.out (Nat.le_refl _)
                    have HPK := Lib.hid hP
                    have hsl := hP.sl
                    rw [← HRL.out] at hsl
                    obtain ⟨g1, o1, rfl, hcap1, hcell⟩ := hsl.at (by omega)
                    have h2r : u < R.length := by rw [← HRL.out]; omega
                    have h2s : u + 1 < R.length := by rw [← HRL.out]; omega
                    obtain ⟨a, hqa⟩ : ∃ a, a = R[u] := ⟨_, rfl⟩
                    obtain ⟨b, hqb⟩ : ∃ b, b = R[u + 1] := ⟨_, rfl⟩
                    have hma : a ∈ R := by rw [hqa]; exact List.getElem_mem h2r
                    have hmb : b ∈ R := by rw [hqb]; exact List.getElem_mem h2s
                    obtain ⟨hca1, hca2⟩ := hcell u (vq a) (by rw [List.getElem?_map, List.getElem?_eq_getElem h2r, hqa]; rfl)
                    obtain ⟨hcb1, hcb2⟩ := hcell (u + 1) (vq b) (by rw [List.getElem?_map, List.getElem?_eq_getElem h2s, hqb]; rfl)
                    have hva : (vq a).1 = a.1 := rfl
                    have hvb : (vq b).1 = b.1 := rfl
                    have hva2 : (vq a).2 = a.2.2.2 := rfl
                    have hvb2 : (vq b).2 = b.2.2.2 := rfl
                    obtain ⟨ga, capa, ea, hlea, _, hlta, hrowa⟩ := hP.syms a hma
                    obtain ⟨gb, capb, eb, hleb, _, hltb, hrowb⟩ := hP.syms b hmb
                    have HTK : Hid ((pkR (R.map rq)).take (t + 1) = (pkR (R.map rq)).take t ++ [(a.1 + b.1, true, a.2.2.1 ++ b.2.2.1)]) := Lib.hid (pkR_take_succ (R.map rq) t (rq a) (rq b) (by rw [← hu, List.getElem?_map, List.getElem?_eq_getElem h2r, hqa]; rfl) (by rw [← hu, List.getElem?_map, List.getElem?_eq_getElem h2s, hqb]; rfl))
                    have hRa : rq a ∈ lstR (itR (cf C) (syms C)) (j - 1) := by rw [← HRR.out]; exact List.mem_map.2 ⟨a, hma, rfl⟩
                    have hRb : rq b ∈ lstR (itR (cf C) (syms C)) (j - 1) := by rw [← HRR.out]; exact List.mem_map.2 ⟨b, hmb, rfl⟩
                    have hba := lstR_bd C HOK.out (j - 1) (by omega) _ hRa
                    have hbb := lstR_bd C HOK.out (j - 1) (by omega) _ hRb
                    have hpa := lstR_pos (cf C) (syms C) (j - 1) _ hRa
                    have hsa := lstR_short (cf C) (syms C) (j - 1) _ hRa
                    have hsb := lstR_short (cf C) (syms C) (j - 1) _ hRb
                    have h2j : 2 ^ (j - 1) ≤ 2 ^ 15 := Nat.pow_le_pow_right (by decide) (by omega)
                    have h2e : (2 : Nat) ^ 15 = 32768 := by decide
                    rw [hva] at hca1
                    rw [hvb] at hcb1
                    rw [hva2, ea] at hca2
                    rw [hvb2, eb] at hcb2
                    have hg1a := block_lt_of_cell hca1
                    clear hcell hsl hP hva hvb hva2 hvb2 hqa hqb hma hmb hRa hRb ea eb
                    have hba1 : a.1 = (rq a).1 := rfl
                    have hbb1 : b.1 = (rq b).1 := rfl
                    have hpa1 : a.2.2.1 = (rq a).2.2 := rfl
                    have hpb1 : b.2.2.1 = (rq b).2.2 := rfl
                    rw [← hba1] at hba
                    rw [← hbb1] at hbb
                    rw [← hpa1] at hpa hsa
                    rw [← hpb1] at hsb
                    clear hba1 hbb1 hpa1 hpb1
                    obtain ⟨c1, hc1⟩ : ∃ c1, c1 = a.1 := ⟨_, rfl⟩
                    obtain ⟨c2, hc2⟩ : ∃ c2, c2 = b.1 := ⟨_, rfl⟩
                    obtain ⟨sa, hsa0⟩ : ∃ sa, sa = a.2.2.1 := ⟨_, rfl⟩
                    obtain ⟨sb, hsb0⟩ : ∃ sb, sb = b.2.2.1 := ⟨_, rfl⟩
                    rw [← hc1] at hca1 hba HTK
                    rw [← hc2] at hcb1 hbb HTK
                    rw [← hsa0] at hca2 hlea hrowa hpa hsa HTK
                    rw [← hsb0] at hcb2 hleb hrowb hsb HTK
                    clear hc1 hc2 hsa0 hsb0 h2r h2s
                    obtain ⟨na, hna⟩ : ∃ na, na = sa.length := ⟨_, rfl⟩
                    obtain ⟨nb, hnb⟩ : ∃ nb, nb = sb.length := ⟨_, rfl⟩
                    rw [← hna] at hca2 hlea hpa hsa
                    rw [← hnb] at hcb2 hleb hsb
                    have HNA := Lib.hid hna
                    have HNB := Lib.hid hnb
                    have HRA := Lib.hid hrowa
                    have HRB := Lib.hid hrowb
                    have HGL := Lib.hid (And.intro hlta (And.intro hltb hg1a))
                    have HUT := Lib.hid hu
                    have hna15 : na ≤ 32768 := by omega
                    have hnb15 : nb ≤ 32768 := by omega
                    clear hna hnb hrowa hrowb hlta hltb hg1a hu h2j h2e hsa hsb
                    have hs1 : 0 ≤ c1 := hba.1
                    have hs2 : c1 ≤ 1125899906842624 := hba.2
                    have hs3 : 0 ≤ c2 := hbb.1
                    have hs4 : c2 ≤ 1125899906842624 := hbb.2
                    have hu2 : (u : Int) + 1 ≤ 200 := by omega
                    have hu0 : 0 ≤ (u : Int) + 1 := by omega
                    have hw1 : IntKind.i64.wrap ((u : Int) + 1) = (u : Int) + 1 := IntWalk.i64_in _ (by omega)
                    have hw2 : IntKind.i64.wrap (c1 + c2) = c1 + c2 := IntWalk.i64_in _ (by omega)
                    have hw3 : ((u : Int) + 1).toNat = u + 1 := by omega
                    have hda1 : ∀ o, (wr.alloc o).cell? _ = _ := fun o => (((Below.refl wr.heap.size wr).alloc (Nat.le_refl _) o).cell (block_lt_of_cell hca1)).trans hca1
                    have hdb1 : ∀ o, (wr.alloc o).cell? _ = _ := fun o => (((Below.refl wr.heap.size wr).alloc (Nat.le_refl _) o).cell (block_lt_of_cell hcb1)).trans hcb1
                    clear hba hbb
                    go_wp2_with fail
                    go_region
                    have hB1 : Below wr.heap.size wr (wr.alloc (.cells #[.int .i64 (c1 + c2), .slice none 0 0] 71)).drew := ((Below.refl _ _).alloc (Nat.le_refl _) _).trans ⟨rfl, rfl, rfl, Nat.le_refl _, fun _ _ => rfl⟩
                    have hr1 : (wr.alloc (.cells #[.int .i64 (c1 + c2), .slice none 0 0] 71)).drew.heap[wr.heap.size]? = some (.cells #[.int .i64 (c1 + c2), .slice none 0 0] 71 (0, 0)) := heap_alloc_new wr _
                    have hz1 : (wr.alloc (.cells #[.int .i64 (c1 + c2), .slice none 0 0] 71)).drew.heap.size = wr.heap.size + 1 := by simp
                    generalize (wr.alloc (Obj.cells #[Value.int IntKind.i64 (c1 + c2), Value.slice none 0 0] 71)).drew = w1 at hB1 hr1 hz1 ⊢
                    obtain ⟨hx0, hx1, hxf⟩ := cells_at hr1
                    have hxf1 := hxf 1
                    have hya := (hB1.cell (block_lt_of_cell hca2)).trans hca2
                    have HYB := Lib.hid hcb2
                    have HB1 := Lib.hid hB1
                    have HS1 : Hid (SlK 1 w1 (.slice (some ⟨ga, 0, none⟩) na capa) na (nl sa)) := Lib.hid ⟨by rw [HNA.out]; simp [nl, ni], .inl ⟨ga, 0, capa, rfl, hlea, fun x v hx => (HB1.out.cell (p := ⟨ga, 0 + x, none⟩) HGL.out.1).trans (HRA.out x v hx)⟩⟩
                    have HR1 := Lib.hid hr1
                    have HZ1 := Lib.hid hz1
                    clear hB1 hr1 hz1 hca1 hca2 hcb1 hcb2 hda1 hdb1 hxf hx0
                    go_wp2_with fail
                    go_region_law (refine step_appI rfl (.tmp 110) (.tmp 115) rfl (wr.heap.size + 1) (.slice none 0 0) (.slice (some ⟨ga, 0, none⟩) na capa) 0 na [] (nl sa) rfl rfl (ni_one _) (World.ownsRow_nil _ _ _ _) HS1.out (Nat.le_of_eq HZ1.out.symm) (by omega) ?_; intro v' w6 hown hgrow _; rw [Nat.zero_add, List.nil_append] at hown; have hr6 : w6.heap[wr.heap.size]? = some (.cells #[.int .i64 (c1 + c2), .slice none 0 0] 71 (0, 0)) := (hgrow.block wr.heap.size (Nat.lt_of_lt_of_eq (Nat.lt_succ_self _) HZ1.out.symm) (by simp [Value.ownBlock])).trans HR1.out; obtain ⟨-, hy1, hyf⟩ := cells_at hr6; have hyf1 := hyf 1; obtain ⟨p9, cap9, hv'⟩ := own_shape hown; have HO6 := Lib.hid hown; have HG6 := Lib.hid hgrow; have HR6 := Lib.hid hr6; clear hown hgrow hr6 hyf; subst hv')
                    all_goals (
                      have hr7 : (w6.setCell ⟨wr.heap.size, 1, none⟩ (.slice p9 na cap9)).heap[wr.heap.size]? = some (.cells #[.int .i64 (c1 + c2), .slice p9 na cap9] 71 (0, 0)) := by rw [heap_setCell_same _ _ _ _ _ _ HR6.out]; rfl
                      have hO7 := own_stays (w' := w6.setCell ⟨wr.heap.size, 1, none⟩ (.slice p9 na cap9)) HO6.out (fun k hk => heap_setCell_other _ _ _ _ (fun e => by have h9 := (HO6.out.lt k hk).1; have e : k = wr.heap.size := e; omega))
                      have hB7 : Below wr.heap.size wr (w6.setCell ⟨wr.heap.size, 1, none⟩ (.slice p9 na cap9)) := ((Below.drew' HB1.out).grown HG6.out HB1.out.size (fun k hk => by cases hk)).setCell (Nat.le_refl _) _
                      have hz7 : wr.heap.size + 1 ≤ (w6.setCell ⟨wr.heap.size, 1, none⟩ (.slice p9 na cap9)).heap.size := (Array.getElem?_eq_some_iff.1 hr7).1
                      clear hy1 hyf1 HR6 HO6 HG6 hx1 hxf1 hya HS1 HB1 HR1 HZ1
                      generalize w6.setCell ⟨wr.heap.size, 1, none⟩ (.slice p9 na cap9) = w7 at hr7 hO7 hB7 hz7 ⊢
                      obtain ⟨-, hx1, hxf⟩ := cells_at hr7
                      have hxf1 := hxf 1
                      have hyb := (hB7.cell (block_lt_of_cell HYB.out)).trans HYB.out
                      have HS2 : Hid (SlK 1 w7 (.slice (some ⟨gb, 0, none⟩) nb capb) nb (nl sb)) := Lib.hid ⟨by rw [HNB.out]; simp [nl, ni], .inl ⟨gb, 0, capb, rfl, hleb, fun x v hx => (hB7.cell (p := ⟨gb, 0 + x, none⟩) HGL.out.2.1).trans (HRB.out x v hx)⟩⟩
                      have HB7 := Lib.hid hB7
                      have HR7 := Lib.hid hr7
                      have HO7 := Lib.hid hO7
                      have HZ7 := Lib.hid hz7
                      clear hB7 hr7 hO7 hz7 hxf
                      go_wp2_with fail
                      go_region_law (refine step_appI rfl (.tmp 119) (.tmp 125) rfl (wr.heap.size + 1) (.slice p9 na cap9) (.slice (some ⟨gb, 0, none⟩) nb capb) na nb (nl sa) (nl sb) rfl rfl (ni_one _) HO7.out HS2.out HZ7.out (by omega) ?_; intro v' w8 hown hgrow _; have hr8 : w8.heap[wr.heap.size]? = some (.cells #[.int .i64 (c1 + c2), .slice p9 na cap9] 71 (0, 0)) := (hgrow.block wr.heap.size HZ7.out (fun e => by have := (HO7.out.lt _ e.symm).1; omega)).trans HR7.out; obtain ⟨-, hy1, hyf⟩ := cells_at hr8; have hyf1 := hyf 1; obtain ⟨p11, cap11, hv'⟩ := own_shape hown; have HO8 := Lib.hid hown; have HG8 := Lib.hid hgrow; have HR8 := Lib.hid hr8; clear hown hgrow hr8 hyf; subst hv')
                      all_goals (
                        have hr9 : (w8.setCell ⟨wr.heap.size, 1, none⟩ (.slice p11 (na + nb) cap11)).heap[wr.heap.size]? = some (.cells #[.int .i64 (c1 + c2), .slice p11 (na + nb) cap11] 71 (0, 0)) := by rw [heap_setCell_same _ _ _ _ _ _ HR8.out]; rfl
                        have hO9 := own_stays (w' := w8.setCell ⟨wr.heap.size, 1, none⟩ (.slice p11 (na + nb) cap11)) HO8.out (fun k hk => heap_setCell_other _ _ _ _ (fun e => by have h9 := (HO8.out.lt k hk).1; have e : k = wr.heap.size := e; omega))
                        have hB9 : Below wr.heap.size wr (w8.setCell ⟨wr.heap.size, 1, none⟩ (.slice p11 (na + nb) cap11)) := ((Below.drew' HB7.out).grown HG8.out HB7.out.size (fun k hk => by have := (HO7.out.lt k hk).1; omega)).setCell (Nat.le_refl _) _
                        clear hy1 hyf1 HR8 HO8 HG8 hx1 hxf1 hyb HS2 HB7 HR7 HZ7 HO7
                        generalize w8.setCell ⟨wr.heap.size, 1, none⟩ (.slice p11 (na + nb) cap11) = w9 at hr9 hO9 hB9 ⊢
                        obtain ⟨hx0, hx1, -⟩ := cells_at hr9
                        obtain ⟨g9, cap9', e9, hg9, hg9w, hc9, -, hcell9, -, -⟩ := own_spot hO9 (by omega)
                        cases e9
                        have HO9 := Lib.hid hO9
                        have HB9 := Lib.hid hB9
                        clear hr9 hO9 hB9
                        have hsz : w.heap.size ≤ wr.heap.size ∧ gl < wr.heap.size := by
                          have h1 := HS4.out; have h2 := HBR.out.size; have h3 := HBX.out.size; omega
                        have hxl : X.length ≤ 4096 := by
                          have h1 := congrArg List.length HXR.out
                          rw [List.length_map, fold_putR_length] at h1
                          have h2 : (itR (cf C) (syms C)).length = k := by rw [HKS.out]; simp [itR]
                          have h3 := List.length_take_le t (pkR (R.map rq))
                          omega
                        have hp := putQ_walk w.heap.size w9 _ X (c1 + c2) true (sa ++ sb) g9 cap11 (HX.out.keep HB9.out (Nat.le_refl _)) (Nat.le_trans hsz.1 HB9.out.size) hxl (by rw [List.length_append, ← HNA.out, ← HNB.out]; exact hc9) (by omega) hg9w (fun x v hx => by rw [Nat.zero_add]; exact hcell9 x v (by rw [nl_append] at hx; exact hx))
                        rw [List.length_append, ← HNA.out, ← HNB.out] at hp
                        have HXR2 : Hid ((putQ X (c1 + c2, true, sa ++ sb, .slice (some ⟨g9, 0, none⟩) (na + nb) cap11)).map rq = ((pkR (R.map rq)).take (t + 1)).foldl putR (itR (cf C) (syms C))) := Lib.hid (by
                          rw [putQ_r, HXR.out, HTK.out, List.foldl_append]; rfl)
                        have HXN2 : Hid (∀ q ∈ putQ X (c1 + c2, true, sa ++ sb, .slice (some ⟨g9, 0, none⟩) (na + nb) cap11), ∀ g n cap, q.2.2.2 = .slice (some ⟨g, 0, none⟩) n cap → g ≠ gl) := Lib.hid (fun q hq g n cap e => by
                          rcases putQ_mem _ _ _ hq with h | rfl
                          · exact HXN.out q h g n cap e
                          · injection e with e
                            injection e with e
                            injection e with e
                            omega)
                        have HUN := Lib.hid (show u + 2 = 2 * (t + 1) by have := HUT.out; omega)
                        clear hcell9 hg9 hg9w hc9
                        go_wp2_with fail
                        refine hp.mono ?_
                        rintro e w10 ⟨v10, rfl, hP10, hB10⟩
                        have HP10 := Lib.hid hP10
                        have HB10 := Lib.hid (HBX.out.trans ((HB9.out.trans (hB10.mono HB9.out.size)).mono HBX.out.size))
                        clear hP10 hB10 hp hx0 hx1
                        go_wp2_with fail
                        refine ⟨⟨t + 1, _, ?_, ?_, HP10.out, HXR2.out, HXN2.out, HB10.out⟩, ?_⟩
                        · omega
                        · rw [← HUN.out]; go_num
                        · simp only [intOf]; omega))
                  · have htri : (r : Int) ≤ 2 * (t : Int) + 1 := by omega
                    have HALL : Hid (X.map rq = lstR (itR (cf C) (syms C)) (j + 1 - 1)) := Lib.hid (by
                      have h := HXR.out
                      rw [List.take_of_length_le (by rw [HTL0.out]; omega), HRR.out] at h
                      rw [h, Nat.add_sub_cancel]
                      obtain ⟨j0, rfl⟩ : ∃ j0, j = j0 + 1 := ⟨j - 1, by omega⟩
                      rfl)
                    go_wp2_with fail
                    refine ⟨⟨j + 1, X, ?_, ?_, ?_, HX.out, HALL.out, HXN.out, HBR.out.trans (HBX.out.mono HBR.out.size)⟩, ?_⟩
                    · omega
                    · omega
                    · go_num
                    · simp only [intOf]; omega
              · have hjli : (L : Int) ≤ (j : Int) := by omega
                obtain rfl : j = L := by omega
                obtain ⟨T, hT⟩ : ∃ T, T = lstR (itR (cf C) (syms C)) (j - 1) := ⟨_, rfl⟩
                rw [← hT] at HRR
                have hTl : T.length = r := by rw [← HRR.out, List.length_map]; exact HRL.out.symm
                have hk2 : 2 ≤ (syms C).length := by have := HKS.out; omega
                have hlong : 2 * k - 2 ≤ r := by
                  have := last_long C j (by omega) hk2 HKL.out
                  rw [← hT, hTl, ← HKS.out] at this; exact this
                have hOW := own_staysK HOW.out fun x hx => HBR.out.block x (HOW.out.lt x hx).2
                have HWAY := Lib.hid (way_le C j (by omega) (by omega) hk2 HKL.out)
                have HREF := Lib.hid (ref_lens C j (by omega) hk2)
                rw [← hT, ← HKS.out, ← HN.out] at HREF
                rw [← hT, ← HKS.out, ← HN.out] at HWAY
                have HSH : Hid (∀ e ∈ T, e.2.2.length ≤ 32768) := Lib.hid (fun e he => by
                  rw [hT] at he
                  have h1 := lstR_short (cf C) (syms C) (j - 1) e he
                  have h2 : 2 ^ (j - 1) ≤ 2 ^ 15 := Nat.pow_le_pow_right (by decide) (by omega)
                  have h3 : (2 : Nat) ^ 15 = 32768 := by decide
                  omega)
                have HIN : Hid (∀ e ∈ T, ∀ x ∈ e.2.2, x < i) := Lib.hid (fun e he x hx => by
                  rw [hT] at he
                  rw [HN.out]; exact syms_lt C x (lstR_in (cf C) (syms C) _ e he x hx))
                have HAP : Hid (∀ g cap, Value.slice p10 r cap10 = .slice (some ⟨g, 0, none⟩) r cap → 0 < r → g ≠ gl) := Lib.hid (fun g cap e h0 h => by
                  rw [HRL.out] at e h0
                  have := own_apart HPR.out.row hOW (by decide) g (by rw [e]; simp [Value.ownBlock])
                  exact this (by rw [h]; simp [Value.ownBlock]))
                have HTL := Lib.hid hTl
                have HOWR : Hid (wr.ownsRow w.heap.size 3 1 (.slice (some ⟨gl, 0, none⟩) i i) i (ni (bump (allS (T.take 0)) (zeros i)))) := Lib.hid hOW
                clear hOW hT hTl
                obtain ⟨wa, rfl⟩ : ∃ wa, wa = wr := ⟨_, rfl⟩
                go_wp2_with fail
                go_loopw [15] (fun v15 wy => ∃ a : Nat, a ≤ 2 * k - 2 ∧ v15 = .int .i64 a ∧ wy.ownsRow w.heap.size 3 1 (.slice (some ⟨gl, 0, none⟩) i i) i (ni (bump (allS (T.take a)) (zeros i))) ∧ OnlyS (· = gl) wa wy) (fun v15 _ => 2 * k - 2 - (intOf v15).toNat)
                case atStart => exact ⟨0, Nat.zero_le _, rfl, HOWR.out, OnlyS.refl _ _⟩
                case round =>
                  obtain ⟨a, ha, rfl, hOW, hOn⟩ := hrel
                  have HOWA := Lib.hid hOW
                  have HON := Lib.hid hOn
                  clear hOW hOn HOWR
                  by_cases hak : a < 2 * k - 2
                  · have haki : (a : Int) < 2 * (k : Int) - 2 := by omega
                    have har : a < r := by omega
                    have haR : a < R.length := by rw [← HRL.out]; exact har
                    have haT : a < T.length := by rw [HTL.out]; exact har
                    obtain ⟨q, hq⟩ : ∃ q, q = R[a] := ⟨_, rfl⟩
                    have hqm : q ∈ R := by rw [hq]; exact List.getElem_mem haR
                    have hqT : T[a] = rq q := by
                      have h := HRR.out
                      subst h
                      rw [List.getElem_map, hq]
                    have HWY := Lib.hid (fun b => HWAY.out a b hak haT)
                    have HNX := Lib.hid (allS_take_succ T a haT)
                    rw [hqT] at HWY HNX
                    obtain ⟨g2, cap2, e2, hle2, hB2, hlt2, hrow2⟩ := HPR.out.syms q hqm
                    have hne2 := HNR.out q hqm g2 _ cap2 e2
                    have hsl := HPR.out.sl
                    rw [← HRL.out] at hsl
                    obtain ⟨g1, o1, rfl, hcap1, hcell⟩ := hsl.at (by omega)
                    have hc1 := (hcell a (vq q) (by rw [List.getElem?_map, List.getElem?_eq_getElem haR, hq]; rfl)).2
                    have hv2 : (vq q).2 = q.2.2.2 := rfl
                    rw [hv2, e2] at hc1
                    have HINQ : Hid (∀ x ∈ q.2.2.1, x < i) := Lib.hid (fun x hx => HIN.out (T[a]) (List.getElem_mem haT) x (by rw [hqT]; exact hx))
                    have hss : (rq q).2.2 = q.2.2.1 := rfl
                    have hshort : q.2.2.1.length ≤ 32768 := by
                      have := HSH.out (T[a]) (List.getElem_mem haT)
                      rw [hqT] at this; exact this
                    rw [hss] at HWY HNX
                    have hg1 : g1 ≠ gl := by
                      have := own_apart HPR.out.row (own_staysK HOW.out fun x hx => HBR.out.block x (HOW.out.lt x hx).2) (by decide) g1 (by
                        rw [← HRL.out]; simp [Value.ownBlock])
                      intro h; exact this (by rw [h]; simp [Value.ownBlock])
                    obtain ⟨ss, hss2⟩ : ∃ ss, ss = q.2.2.1 := ⟨_, rfl⟩
                    rw [← hss2] at HWY HNX hle2 hrow2 hc1 HINQ hshort
                    have HR2 := Lib.hid hrow2
                    have HC1 := Lib.hid hc1
                    obtain ⟨m, hm⟩ : ∃ m, m = ss.length := ⟨_, rfl⟩
                    rw [← hm] at hle2 HC1 hshort
                    have HMM := Lib.hid hm
                    clear hcell hsl hv2 e2 hrow2 hc1 hss hq hqT hqm hss2 hlt2 hB2 hm haR haT
                    go_wp2_with fail
                    go_loopw [16] (fun v16 wy => ∃ b : Nat, b ≤ m ∧ v16 = .int .i64 b ∧ wy.ownsRow w.heap.size 3 1 (.slice (some ⟨gl, 0, none⟩) i i) i (ni (bump (allS (T.take a) ++ ss.take b) (zeros i))) ∧ OnlyS (· = gl) wa wy) (fun v16 _ => m - (intOf v16).toNat)
                    case atStart => exact ⟨0, Nat.zero_le _, rfl, by rw [List.take_zero, List.append_nil]; exact HOWA.out, HON.out⟩
                    case round =>
                      obtain ⟨b, hb, rfl, hOW, hOn⟩ := hrel
                      have hc1 := hOn.cell HC1.out hg1
                      have HOWB := Lib.hid hOW
                      have HOB := Lib.hid hOn
                      clear hOW hOn
                      by_cases hbm : b < m
                      · have hbmi : (b : Int) < (m : Int) := by omega
                        have hbl : b < ss.length := by rw [← HMM.out]; exact hbm
                        have hc2 := HOB.out.cell (HR2.out b _ (nl_at ss b hbl)) hne2
                        rw [Nat.zero_add] at hc2
                        have hsi := HINQ.out (ss.getD b 0) (getD_mem0 hbl)
                        have HBS : Hid (bump (allS (T.take a) ++ ss.take (b + 1)) (zeros i) = (bump (allS (T.take a) ++ ss.take b) (zeros i)).set (ss.getD b 0) ((bump (allS (T.take a) ++ ss.take b) (zeros i)).getD (ss.getD b 0) 0 + 1)) := Lib.hid (by
                          rw [List.take_add_one, List.getElem?_eq_getElem hbl, ← List.append_assoc]
                          have e : ss.getD b 0 = ss[b] := by simp [hbl]
                          rw [e, Option.toList_some, bump_snoc])
                        have hzb := HWY.out b (ss.getD b 0)
                        have hsii : ((ss.getD b 0 : Nat) : Int) < (i : Int) := by omega
                        obtain ⟨g0, cap0, e0, _, _, hle0, _, hcell0, hfr0, hset0⟩ := own_spot HOWB.out (by omega)
                        cases e0
                        have hz0 := hcell0 (ss.getD b 0) (.int .i64 ((bump (allS (T.take a) ++ ss.take b) (zeros i)).getD (ss.getD b 0) 0)) (by
                          have hl : ss.getD b 0 < (bump (allS (T.take a) ++ ss.take b) (zeros i)).length := by rw [bump_length, zeros_length]; exact hsi
                          exact ni_get hl)
                        have hf0 := hfr0 (ss.getD b 0)
                        have hst0 := fun x => hset0 (ss.getD b 0) x hsi
                        clear hcell0 hfr0 hset0 hbl
                        generalize hsb : ss.getD b 0 = s at *
                        generalize hzz : (bump (allS (T.take a) ++ ss.take b) (zeros i)).getD s 0 = z at *
                        have HN3 : Hid ((wr.setCell ⟨gl, s, none⟩ (.int .i64 (z + 1))).ownsRow w.heap.size 3 1 (.slice (some ⟨gl, 0, none⟩) i i) i (ni (bump (allS (T.take a) ++ ss.take (b + 1)) (zeros i)))) := Lib.hid (by
                          have h := hst0 (.int .i64 (z + 1))
                          rw [HBS.out]
                          unfold ni at h ⊢
                          rw [List.map_set]; exact h)
                        have HO3 : Hid (OnlyS (· = gl) wa (wr.setCell ⟨gl, s, none⟩ (.int .i64 (z + 1)))) := Lib.hid (HOB.out.trans (OnlyS.setCell _ _ _ _ rfl))
                        clear hst0 hsb hzz
                        go_wp2_with fail
                        refine ⟨⟨b + 1, hbm, ?_, HN3.out, HO3.out⟩, ?_⟩
                        · go_num
                        · simp only [intOf]; omega
                      · have hbmi : (m : Int) ≤ (b : Int) := by omega
                        obtain rfl : b = m := by omega
                        go_wp2_with fail
                        refine ⟨⟨a + 1, ?_, ?_, ?_, HOB.out⟩, ?_⟩
                        · omega
                        · go_num
                        · rw [HNX.out]
                          have h := HOWB.out
                          rw [HMM.out, List.take_length] at h
                          exact h
                        · simp only [intOf]; omega
                  · have haki : 2 * (k : Int) - 2 ≤ (a : Int) := by omega
                    obtain rfl : a = 2 * k - 2 := by omega
                    go_wp2_with fail
                    go_ret2
                    refine HGOOD.out _ _ ?_ (HB5.out.trans ((HBR.out.mono HS4.out.1).trans (HON.out.below (Nat.le_trans HS4.out.1 HBR.out.size) fun x e => ?_)))
                    · have h := HOWA.out
                      rw [HREF.out] at h
                      exact h
                    · rw [e]; exact HS4.out.2.2
  · have HE : Hid (lenErr C lim = 1) := Lib.hid (by unfold lenErr; rw [if_neg (fun h => hlim h.2)])
    by_cases h1 : lim < 1
    · clear hlim
      go_wp2_with fail
      go_ret2
      exact HBAD.out HE.out _ (Below.refl _ _)
    · have h2 : 15 < lim := by omega
      clear hlim
      go_wp2_with fail
      go_ret2
      exact HBAD.out HE.out _ (Below.refl _ _)
end Go.Proofs.Ytoifppfhnedahaa
