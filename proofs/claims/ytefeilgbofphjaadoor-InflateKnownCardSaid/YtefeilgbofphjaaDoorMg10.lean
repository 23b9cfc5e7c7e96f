/-
  Merged, in the order in which they build: Lengths ByN LenOneN LenManyN LenOverN LenOkN.
-/
import Derived.Test.YtefeilgbofphjaaDoorMg3
import Derived.Test.YtefeilgbofphjaaDoorMg5
import Derived.Test.YtefeilgbofphjaaDoorMg8
import Derived.Test.YtefeilgbofphjaaDoorMg9
/-
  The contracts of countable, byCount, Lengths (fewer than 20 symbols).
-/
namespace Go.Proofs.YtefeilgbofphjaaDoor
open Go.RowKit Hf

def okC (counts : List Int) : Bool := counts.all (fun c => decide (0 ≤ c) && decide (c ≤ 4294967296)) && decide (counts.length ≤ 1024)
def CtLoop (w : World) (counts : List Int) (v : Value) (wr : World) : Prop := ∃ k : Nat, k ≤ counts.length ∧ v = .int .i64 k ∧ wr = w ∧ ∀ i, i < k → 0 ≤ counts.getD i 0 ∧ counts.getD i 0 ≤ 4294967296
theorem okC_of (counts : List Int) (h : ∀ i, i < counts.length → 0 ≤ counts.getD i 0 ∧ counts.getD i 0 ≤ 4294967296) : okC counts = decide (counts.length ≤ 1024) := by
  unfold okC
  rw [show counts.all (fun c => decide (0 ≤ c) && decide (c ≤ 4294967296)) = true from by
    rw [List.all_eq_true]
    intro c hc
    obtain ⟨i, hi, rfl⟩ := List.getElem_of_mem hc
    have := h i hi
    have e : counts.getD i 0 = counts[i] := by simp [hi]
    rw [e] at this
    simp [this], Bool.true_and]
theorem okC_not (counts : List Int) (i : Nat) (hi : i < counts.length) (h : counts.getD i 0 < 0 ∨ 4294967296 < counts.getD i 0) : okC counts = false := by
  unfold okC
  rw [show counts.all (fun c => decide (0 ≤ c) && decide (c ≤ 4294967296)) = false from by
    rw [List.all_eq_false]
    refine ⟨counts[i], List.getElem_mem hi, ?_⟩
    have e : counts.getD i 0 = counts[i] := by simp [hi]
    rw [e] at h
    simp; omega, Bool.false_and]
set_option maxRecDepth 100000 in
set_option maxHeartbeats 1000000 in
theorem countable_walk (w : World) (v : Value) (counts : List Int) (hv : SlV w v (ni counts)) (hl : counts.length ≤ 1099511627776) : Calls Tryd.prog 33 #[v] w fun e w' => e = .returned (.bool (okC counts)) ∧ w' = w := by
  obtain ⟨p, cap, rfl⟩ := hv.shape
  rw [ni_length] at *
  obtain ⟨l, hl0⟩ : ∃ l, l = counts.length := ⟨_, rfl⟩
  rw [← hl0] at hv hl ⊢
  have HN := Lib.hid hl0
  have HV := Lib.hid hv
  clear hl0 hv
  go_enter Tryd.func33, Tryd.ntmps33
  go_wp2_with fail
  go_loopw [4, 7] (fun _ v wr => CtLoop w counts v wr) (fun _ v _ => l - (intOf v).toNat)
  case atStart => exact ⟨0, Nat.zero_le _, rfl, rfl, fun i hi => by omega⟩
  case round =>
    obtain ⟨k, hk, rfl, rfl, hall⟩ := hrel
    have HA := Lib.hid hall
    clear hall
    by_cases hlt : k < l
    · have hlti : (k : Int) < (l : Int) := by omega
      obtain ⟨g, o, rfl, hrow⟩ := HV.out.some (by omega)
      have hcap := HV.out.le
      have hc := hrow.ni k (by rw [← HN.out]; omega)
      clear hrow
      obtain ⟨z, hz⟩ : ∃ z, z = counts.getD k 0 := ⟨_, rfl⟩
      rw [← hz] at hc
      have HZ := Lib.hid hz
      clear hz
      by_cases hz0 : z < 0
      · have HG : Hid (okC counts = false) := Lib.hid (okC_not counts k (by rw [← HN.out]; omega) (.inl (by rw [← HZ.out]; exact hz0)))
        go_wp2_with fail
        go_ret
        exact ⟨by rw [HG.out]; rfl, rfl⟩
      · by_cases hz1 : 4294967296 < z
        · have HG : Hid (okC counts = false) := Lib.hid (okC_not counts k (by rw [← HN.out]; omega) (.inr (by rw [← HZ.out]; exact hz1)))
          go_wp2_with fail
          go_ret
          exact ⟨by rw [HG.out]; rfl, rfl⟩
        · go_wp2_with fail
          refine ⟨⟨k + 1, by have := HN.out; omega, by go_num, rfl, fun i hi => ?_⟩, by simp [intOf]; omega⟩
          rcases Nat.lt_or_ge i k with h | h
          · exact HA.out i h
          · obtain rfl : i = k := by omega
            rw [← HZ.out]; omega
    · have hlti : (l : Int) ≤ (k : Int) := by omega
      have HG := Lib.hid (okC_of counts (fun i hi => HA.out i (by have := HN.out; omega)))
      go_wp2_with fail
      go_ret
      refine ⟨?_, rfl⟩
      rw [HG.out, ← HN.out]
      show Ending.returned (.bool (decide ((l : Int) ≤ 1024))) = _
      congr 2
      exact decide_eq_decide.2 (by omega)
/-- The symbols that count, among the first k. -/
def posTo (counts : List Int) (k : Nat) : List Nat := (List.range k).filter fun i => decide (0 < counts.getD i 0)
theorem posTo_succ (counts : List Int) (k : Nat) : posTo counts (k + 1) = posTo counts k ++ (if 0 < counts.getD k 0 then [k] else []) := by
  unfold posTo
  rw [List.range_succ, List.filter_append]
  by_cases h : 0 < counts.getD k 0 <;> simp_all
theorem posTo_le (counts : List Int) (k : Nat) : (posTo counts k).length ≤ k := by
  unfold posTo; refine Nat.le_trans (List.length_filter_le _ _) ?_; simp
theorem posTo_mem (counts : List Int) (k s : Nat) (h : s ∈ posTo counts k) : s < k := by
  unfold posTo at h; exact List.mem_range.1 (List.mem_filter.1 h).1
/-- The symbols, sorted. -/
def syms (counts : List Int) : List Nat := isTo (fun s => counts.getD s 0) ((posTo counts counts.length).length - 1) (posTo counts counts.length)
def ByPost (counts : List Int) (w : World) (e : Ending) (w' : World) : Prop :=
  ∃ v, e = .returned v ∧ w'.ownsRow w.heap.size 3 1 v (posTo counts counts.length).length (nl (syms counts)) ∧ (∀ s ∈ syms counts, s < counts.length) ∧ Below w.heap.size w w'
theorem nl_append (a b : List Nat) : nl (a ++ b) = nl a ++ nl b := by simp [nl, ni]
set_option maxRecDepth 100000 in
set_option maxHeartbeats 1000000 in
theorem byCount_walk (w : World) (v : Value) (counts : List Int) (hv : SlV w v (ni counts)) (hl : counts.length ≤ 1024) (hm : (posTo counts counts.length).length < 20) : Calls Tryd.prog 34 #[v] w (ByPost counts w) := by
  have hmf : ∀ (fn : Fn) (first cap : Array Value) (w : World), (Instr.makeFunc fn first cap).run Tryd.prog w = .ok (.func fn first cap) w := fun _ _ _ _ => rfl
  obtain ⟨p, cap, rfl⟩ := hv.shape
  rw [ni_length] at *
  obtain ⟨l, hl0⟩ : ∃ l, l = counts.length := ⟨_, rfl⟩
  rw [← hl0] at hv hl hm ⊢
  have HN := Lib.hid hl0
  have HV := Lib.hid hv
  have HM := Lib.hid hm
  clear hl0 hv hm
  have HB0 : Hid (Below w.heap.size w (w.alloc (.cells #[.slice p l cap] 53))) := Lib.hid ((Below.refl _ _).alloc (Nat.le_refl _) _)
  have HBX : Hid ((w.alloc (.cells #[.slice p l cap] 53)).cell? ⟨w.heap.size, 0, none⟩ = some (.slice p l cap)) := Lib.hid (Boxed.new w 53 (.slice p l cap)).cell
  have hsz0 : (w.alloc (.cells #[.slice p l cap] 53)).heap.size = w.heap.size + 1 := by simp
  obtain ⟨i0, hi, hz0, hz1, hz2⟩ := info_parts info3
  have HI0 := Lib.hid (And.intro hi (And.intro hz0 (And.intro hz1 hz2)))
  clear hi hz0 hz1 hz2
  go_enter Tryd.func34, Tryd.ntmps34
  go_wp2_with fail
  generalize w.alloc (.cells #[.slice p l cap] 53) = w1 at *
  go_loopw [3, 4, 5, 8] (fun v3 _ _ v8 wr => ∃ k : Nat, k ≤ l ∧ v8 = .int .i64 k ∧ wr.ownsRow w1.heap.size 3 1 v3 (posTo counts k).length (nl (posTo counts k)) ∧ Below w1.heap.size w1 wr) (fun _ _ _ v8 _ => l - (intOf v8).toNat)
  case atStart => exact ⟨0, Nat.zero_le _, rfl, World.ownsRow_nil _ _ _ _, Below.refl _ _⟩
  case round =>
    obtain ⟨k, hk, rfl, hO, hB⟩ := hrel
    obtain ⟨p3, cap3, rfl⟩ := own_shape hO
    have HO := Lib.hid hO
    have HB := Lib.hid hB
    clear hO hB
    by_cases hlt : k < l
    · have hlti : (k : Int) < (l : Int) := by omega
      obtain ⟨g, o, rfl, hrow⟩ := HV.out.some (by omega)
      have hcap := HV.out.le
      have hlw := hrow.lt (by rw [ni_length, ← HN.out]; omega)
      have hc := (hrow.below (HB0.out.trans (HB.out.mono HB0.out.size)) hlw).ni k (by rw [← HN.out]; omega)
      clear hrow hlw
      have HP := Lib.hid (posTo_succ counts k)
      have hpl := posTo_le counts k
      obtain ⟨z, hz⟩ : ∃ z, z = counts.getD k 0 := ⟨_, rfl⟩
      rw [← hz] at hc HP
      clear hz
      generalize hpk : (posTo counts k).length = np at *
      have HPK := Lib.hid hpk
      clear hpk
      have hle1 : w1.heap.size ≤ wr.heap.size := HB.out.size
      by_cases hz0 : 0 < z
      · have HP2 := HP.out
        rw [if_pos hz0] at HP2
        have HP2 := Lib.hid HP2
        clear HP
        go_wp2_with (refine wpList_appK 53 3 i0 (.int .i64 0) 1 8 Tryd.underlying53 HI0.out.1 HI0.out.2.1 HI0.out.2.2.1 HI0.out.2.2.2 rfl (by decide) (by decide) rfl _ _ rfl w1.heap.size (.slice p3 np cap3) (.slice (some ⟨wr.heap.size, 0, none⟩) 1 1) np 1 _ [.int .i64 (k : Int)] rfl rfl (by intro y hy; simp at hy; subst hy; rfl) (HO.out.alloc _) (⟨rfl, .inl ⟨wr.heap.size, 0, 1, rfl, Nat.le_refl _, fun i v hi => by rw [Nat.zero_add]; exact (cell_of_row _ _ _ _ _ _ (heap_alloc_new wr _)).trans (by simpa using hi)⟩⟩) (by simp; omega) (by omega) ?_; intro v' w9 hown hgrow _; obtain ⟨p9, cap9, hv'⟩ := own_shape hown; have HOW := Lib.hid hown; have HGR := Lib.hid hgrow; clear hown hgrow; subst hv')
        refine ⟨⟨k + 1, by omega, by go_num, ?_, ((HB.out.alloc HB.out.size _).grown HGR.out (by simp; omega) (fun k e => (HO.out.lt k e).1))⟩, by simp [intOf]; omega⟩
        rw [HP2.out, nl_append, List.length_append, HPK.out]
        exact HOW.out
      · have HP2 := HP.out
        rw [if_neg hz0, List.append_nil] at HP2
        have HP2 := Lib.hid HP2
        clear HP
        go_wp2_with fail
        refine ⟨⟨k + 1, by omega, by go_num, ?_, HB.out⟩, by simp [intOf]; omega⟩
        rw [HP2.out, HPK.out]
        exact HO.out
    · have hlti : (l : Int) ≤ (k : Int) := by omega
      obtain rfl : k = l := by omega
      have hsy : isTo (fun s => counts.getD s 0) ((posTo counts k).length - 1) (posTo counts k) = syms counts := by unfold syms; rw [← HN.out]
      have HSY := Lib.hid hsy
      have hmm := HM.out
      have hpm : ∀ s ∈ posTo counts k, s < counts.length := fun s hs => by have := posTo_mem counts k s hs; have := HN.out; omega
      have hbx := HB.out.cell (p := ⟨w.heap.size, 0, none⟩) (by show w.heap.size < _; omega)
      have hbx2 := hbx.trans HBX.out
      have hsl2 := HV.out.below (HB0.out.trans (HB.out.mono HB0.out.size)) (Nat.le_refl _)
      have hfin : ∀ (v9 : Value) (w9 : World), w9.ownsRow w1.heap.size 3 1 v9 (posTo counts k).length (nl (syms counts)) → Below w1.heap.size w1 w9 → (∀ s ∈ syms counts, s < counts.length) → ByPost counts w (.returned v9) w9 := fun v9 w9 h1 h2 h3 =>
        ⟨v9, rfl, by rw [← HN.out]; exact own_leK h1 (by omega), h3, HB0.out.trans (h2.mono (by omega))⟩
      have HFIN := Lib.hid hfin
      clear hsy hbx hfin
      rcases hO0 : HO.out with ⟨hlen0, ⟨hsn, hn0⟩ | ⟨gd, capd, cur, hsd, hgd, hrest⟩⟩
      · injection hsn with hp3 hln hcp
        subst hp3 hcp
        have he : posTo counts k = [] := List.eq_nil_of_length_eq_zero hn0
        have hs0 : syms counts = [] := by rw [← HSY.out, he]; rfl
        have HN0 := Lib.hid (And.intro hn0 hs0)
        rw [hn0]
        clear hO0 hn0 he hs0 hlen0 hln
        go_wp2_with fail
        refine (sort_nil _ _).mono ?_
        rintro e w9 ⟨rfl, rfl⟩
        go_wp2_with fail
        go_ret
        refine HFIN.out _ _ (by rw [HN0.out.1, HN0.out.2]; exact World.ownsRow_nil _ _ _ _) HB.out (by rw [HN0.out.2]; intro s hs; cases hs)
      · injection hsd with hp3 hln hcp
        subst hp3 hcp
        have HSA : Hid (SortAt wr wr gd (posTo counts k).length cap3 w.heap.size (.slice p k cap) counts (posTo counts k)) := Lib.hid ⟨own_leK HO.out (Nat.zero_le _), rfl, hbx2, hsl2, by omega, fun q m c hq hm => by
            rcases HV.out with ⟨g, o, c', h1, h2, h3⟩ | ⟨q', h1, h2⟩
            · have hlt2 := h3.lt (by injection h1 with _ h1 _; injection hq with _ hq _; omega)
              have hqg : q = ⟨g, o, none⟩ := by
                injection h1 with h1 _ _; injection hq with hq _ _
                rw [hq] at h1; injection h1
              rw [hqg]; simp only; omega
            · injection h1 with _ h1 _; injection hq with _ hq _; omega, hpm, OnlyS.refl _ _⟩
        clear hO0 hrest hbx2 hsl2
        go_wp2_with fail
        refine (sort_walk _ _ _ _ _ _ _ _ HSA.out hmm).mono ?_
        rintro e w9 ⟨rfl, hS9⟩
        have HS9 := Lib.hid hS9
        clear hS9
        rw [HSY.out] at HS9
        go_wp2_with fail
        go_ret
        refine HFIN.out _ _ ?_ (HB.out.trans (HS9.out.only.below HB.out.size (fun i hi => by omega))) HS9.out.mem
        refine own_le HS9.out.own (fun i hi => ?_)
        simp [Value.ownBlock] at hi
        omega

/-- One more at a place. -/
def zeros (n : Nat) : List Int := List.replicate n 0
/-- The lengths of counts that may be. -/
def lensF (counts : List Int) (limit : Nat) : List Int :=
  if (syms counts).length = 1 then (zeros counts.length).set ((syms counts).getD 0 0) 1
  else if 1 < (syms counts).length then (stt (syms counts) (zeros counts.length) (lst (its (cnts counts (syms counts)))) limit limit).1
  else zeros counts.length
/-- What is answered. -/
def lenErr (counts : List Int) (limit : Int) : Int := if okC counts = true ∧ 1 ≤ limit ∧ limit ≤ 15 then (if 2 ^ limit.toNat < (syms counts).length then 1 else 0) else 1
def LenPost (counts : List Int) (limit : Int) (w : World) (e : Ending) (w' : World) : Prop :=
  ∃ v, e = .returned (.tuple #[v, .int .i64 (lenErr counts limit)]) ∧ Below w.heap.size w w' ∧ (lenErr counts limit = 0 → w'.ownsRow w.heap.size 3 1 v counts.length (ni (lensF counts limit.toNat))) ∧ (lenErr counts limit ≠ 0 → v = .slice none 0 0)
theorem syms_length (counts : List Int) : (syms counts).length = (posTo counts counts.length).length := by unfold syms; rw [isTo_length]
theorem zeros_made (n : Nat) : (madeCells (Value.int .i64 0).cells (n * 1)).toList = ni (zeros n) := by
  apply List.ext_getElem
  · simp [ni, zeros, size_madeCells]
  · intro i h1 h2
    simp [madeCells, ni, zeros, Value.cells, Nat.mod_one]
set_option maxRecDepth 100000 in
set_option maxHeartbeats 1000000 in
theorem Lengths_arg (w : World) (v : Value) (counts : List Int) (limit : Int) (hv : SlV w v (ni counts)) (hl : counts.length ≤ 1099511627776) (hbad : ¬ (okC counts = true ∧ 1 ≤ limit ∧ limit ≤ 15)) :
    Calls Tryd.prog 25 #[v, .int .i64 limit] w (LenPost counts limit w) := by
  have HC := Lib.hid (countable_walk w v counts hv hl)
  have HE : Hid (lenErr counts limit = 1) := Lib.hid (by unfold lenErr; rw [if_neg hbad])
  have hfin : LenPost counts limit w (.returned (.tuple #[.slice none 0 0, .int .i64 1])) w := ⟨_, by rw [HE.out], Below.refl _ _, fun h => (by rw [HE.out] at h; cases h), fun _ => rfl⟩
  have HFIN := Lib.hid hfin
  clear hv hfin
  go_enter Tryd.func25, Tryd.ntmps25
  go_wp2_with fail
  refine HC.out.mono ?_
  rintro e w1 ⟨rfl, rfl⟩
  clear HC
  cases hc : okC counts with
  | false =>
    go_wp2_with fail
    go_ret2
    exact HFIN.out
  | true =>
    rw [hc] at hbad
    by_cases h1 : limit < 1
    · clear hbad
      go_wp2_with fail
      go_ret2
      exact HFIN.out
    · have h2 : 15 < limit := by
        apply Classical.byContradiction
        intro h; exact hbad ⟨rfl, by omega, by omega⟩
      clear hbad
      go_wp2_with fail
      go_ret2
      exact HFIN.out
theorem made_row {w2 w3 : World} {B n : Nat} (h : w3.ownsRow B 3 1 (.slice (some ⟨w2.heap.size, 0, none⟩) n n) n (madeCells (Value.int .i64 0).cells (n * 1)).toList) : w3.heap[w2.heap.size]? = some (.cells (ni (zeros n)).toArray 3 (0, 0)) := by
  obtain ⟨h0, ⟨h1, _⟩ | ⟨g, cap', cur, h1, h2, h3, h4, h5, h6, h7⟩⟩ := h
  · cases h1
  · cases h1
    rw [h3]
    have e : cur.toList = ni (zeros n) := by
      rw [List.take_of_length_le (by simp [h6])] at h7
      rw [h7, zeros_made]
    rw [← e]
theorem row_own {w : World} {g n B : Nat} {l : List Int} (h : w.heap[g]? = some (.cells (ni l).toArray 3 (0, 0))) (hl : l.length = n) (hB : B ≤ g) (hn : n ≤ 1024) : w.ownsRow B 3 1 (.slice (some ⟨g, 0, none⟩) n n) n (ni l) :=
  ⟨by simp [hl], .inr ⟨g, n, _, rfl, hB, h, Nat.le_refl _, by unfold maxLen; omega, by simp [hl], by rw [← hl, Nat.mul_one, ← ni_length l]; exact List.take_length⟩⟩
theorem zeros_length (n : Nat) : (zeros n).length = n := by simp [zeros]
theorem stt_length (ss : List Nat) (lens : List Int) (ls : Nat → List (Int × Bool)) (L k : Nat) : (stt ss lens ls L k).1.length = lens.length := by
  induction k with
  | zero => rfl
  | succ k ih => rw [stt]; simp only; rw [bump_length, ih]
end Go.Proofs.YtefeilgbofphjaaDoor
/-
  The contract of byCount, whatever the number of symbols.
-/
namespace Go.Proofs.YtefeilgbofphjaaDoor
open Go.RowKit Hf

theorem posTo_up (counts : List Int) (k : Nat) : ∀ p q, p < q → q < (posTo counts k).length → at0 (posTo counts k) p < at0 (posTo counts k) q := by
  have h : (posTo counts k).Pairwise (· < ·) := by
    unfold posTo
    exact List.Pairwise.filter _ List.pairwise_lt_range
  rw [List.pairwise_iff_getElem] at h
  intro p q hpq hq
  have := h p q (by omega) hq hpq
  unfold at0
  simpa [hq, show p < (posTo counts k).length by omega] using this
set_option maxRecDepth 100000 in
set_option maxHeartbeats 1000000 in
theorem byCountN_walk (w : World) (v : Value) (counts : List Int) (hv : SlV w v (ni counts)) (hl : counts.length ≤ 1024) : Calls Tryd.prog 34 #[v] w (ByPost counts w) := by
  have hmf : ∀ (fn : Fn) (first cap : Array Value) (w : World), (Instr.makeFunc fn first cap).run Tryd.prog w = .ok (.func fn first cap) w := fun _ _ _ _ => rfl
  obtain ⟨p, cap, rfl⟩ := hv.shape
  rw [ni_length] at *
  obtain ⟨l, hl0⟩ : ∃ l, l = counts.length := ⟨_, rfl⟩
  rw [← hl0] at hv hl ⊢
  have HN := Lib.hid hl0
  have HV := Lib.hid hv
  clear hl0 hv
  have HB0 : Hid (Below w.heap.size w (w.alloc (.cells #[.slice p l cap] 53))) := Lib.hid ((Below.refl _ _).alloc (Nat.le_refl _) _)
  have HBX : Hid ((w.alloc (.cells #[.slice p l cap] 53)).cell? ⟨w.heap.size, 0, none⟩ = some (.slice p l cap)) := Lib.hid (Boxed.new w 53 (.slice p l cap)).cell
  have hsz0 : (w.alloc (.cells #[.slice p l cap] 53)).heap.size = w.heap.size + 1 := by simp
  obtain ⟨i0, hi, hz0, hz1, hz2⟩ := info_parts info3
  have HI0 := Lib.hid (And.intro hi (And.intro hz0 (And.intro hz1 hz2)))
  clear hi hz0 hz1 hz2
  go_enter Tryd.func34, Tryd.ntmps34
  go_wp2_with fail
  generalize w.alloc (.cells #[.slice p l cap] 53) = w1 at *
  go_loopw [3, 4, 5, 8] (fun v3 _ _ v8 wr => ∃ k : Nat, k ≤ l ∧ v8 = .int .i64 k ∧ wr.ownsRow w1.heap.size 3 1 v3 (posTo counts k).length (nl (posTo counts k)) ∧ Below w1.heap.size w1 wr) (fun _ _ _ v8 _ => l - (intOf v8).toNat)
  case atStart => exact ⟨0, Nat.zero_le _, rfl, World.ownsRow_nil _ _ _ _, Below.refl _ _⟩
  case round =>
    obtain ⟨k, hk, rfl, hO, hB⟩ := hrel
    obtain ⟨p3, cap3, rfl⟩ := own_shape hO
    have HO := Lib.hid hO
    have HB := Lib.hid hB
    clear hO hB
    by_cases hlt : k < l
    · have hlti : (k : Int) < (l : Int) := by omega
      obtain ⟨g, o, rfl, hrow⟩ := HV.out.some (by omega)
      have hcap := HV.out.le
      have hlw := hrow.lt (by rw [ni_length, ← HN.out]; omega)
      have hc := (hrow.below (HB0.out.trans (HB.out.mono HB0.out.size)) hlw).ni k (by rw [← HN.out]; omega)
      clear hrow hlw
      have HP := Lib.hid (posTo_succ counts k)
      have hpl := posTo_le counts k
      obtain ⟨z, hz⟩ : ∃ z, z = counts.getD k 0 := ⟨_, rfl⟩
      rw [← hz] at hc HP
      clear hz
      generalize hpk : (posTo counts k).length = np at *
      have HPK := Lib.hid hpk
      clear hpk
      have hle1 : w1.heap.size ≤ wr.heap.size := HB.out.size
      by_cases hz0 : 0 < z
      · have HP2 := HP.out
        rw [if_pos hz0] at HP2
        have HP2 := Lib.hid HP2
        clear HP
        go_wp2_with (refine wpList_appK 53 3 i0 (.int .i64 0) 1 8 Tryd.underlying53 HI0.out.1 HI0.out.2.1 HI0.out.2.2.1 HI0.out.2.2.2 rfl (by decide) (by decide) rfl _ _ rfl w1.heap.size (.slice p3 np cap3) (.slice (some ⟨wr.heap.size, 0, none⟩) 1 1) np 1 _ [.int .i64 (k : Int)] rfl rfl (by intro y hy; simp at hy; subst hy; rfl) (HO.out.alloc _) (⟨rfl, .inl ⟨wr.heap.size, 0, 1, rfl, Nat.le_refl _, fun i v hi => by rw [Nat.zero_add]; exact (cell_of_row _ _ _ _ _ _ (heap_alloc_new wr _)).trans (by simpa using hi)⟩⟩) (by simp; omega) (by omega) ?_; intro v' w9 hown hgrow _; obtain ⟨p9, cap9, hv'⟩ := own_shape hown; have HOW := Lib.hid hown; have HGR := Lib.hid hgrow; clear hown hgrow; subst hv')
        refine ⟨⟨k + 1, by omega, by go_num, ?_, ((HB.out.alloc HB.out.size _).grown HGR.out (by simp; omega) (fun k e => (HO.out.lt k e).1))⟩, by simp [intOf]; omega⟩
        rw [HP2.out, nl_append, List.length_append, HPK.out]
        exact HOW.out
      · have HP2 := HP.out
        rw [if_neg hz0, List.append_nil] at HP2
        have HP2 := Lib.hid HP2
        clear HP
        go_wp2_with fail
        refine ⟨⟨k + 1, by omega, by go_num, ?_, HB.out⟩, by simp [intOf]; omega⟩
        rw [HP2.out, HPK.out]
        exact HO.out
    · have hlti : (l : Int) ≤ (k : Int) := by omega
      obtain rfl : k = l := by omega
      have hsy : isTo (fun s => counts.getD s 0) ((posTo counts k).length - 1) (posTo counts k) = syms counts := by unfold syms; rw [← HN.out]
      have HSY := Lib.hid hsy
      have hmm : (posTo counts k).length ≤ 1048576 := by have := posTo_le counts k; omega
      have hpm : ∀ s ∈ posTo counts k, s < counts.length := fun s hs => by have := posTo_mem counts k s hs; have := HN.out; omega
      have hbx := HB.out.cell (p := ⟨w.heap.size, 0, none⟩) (by show w.heap.size < _; omega)
      have hbx2 := hbx.trans HBX.out
      have hsl2 := HV.out.below (HB0.out.trans (HB.out.mono HB0.out.size)) (Nat.le_refl _)
      have hfin : ∀ (v9 : Value) (w9 : World), w9.ownsRow w1.heap.size 3 1 v9 (posTo counts k).length (nl (syms counts)) → Below w1.heap.size w1 w9 → (∀ s ∈ syms counts, s < counts.length) → ByPost counts w (.returned v9) w9 := fun v9 w9 h1 h2 h3 =>
        ⟨v9, rfl, by rw [← HN.out]; exact own_leK h1 (by omega), h3, HB0.out.trans (h2.mono (by omega))⟩
      have HFIN := Lib.hid hfin
      clear hsy hbx hfin
      rcases hO0 : HO.out with ⟨hlen0, ⟨hsn, hn0⟩ | ⟨gd, capd, cur, hsd, hgd, hrest⟩⟩
      · injection hsn with hp3 hln hcp
        subst hp3 hcp
        have he : posTo counts k = [] := List.eq_nil_of_length_eq_zero hn0
        have hs0 : syms counts = [] := by rw [← HSY.out, he]; rfl
        have HN0 := Lib.hid (And.intro hn0 hs0)
        rw [hn0]
        clear hO0 hn0 he hs0 hlen0 hln
        go_wp2_with fail
        refine (sort_nil _ _).mono ?_
        rintro e w9 ⟨rfl, rfl⟩
        go_wp2_with fail
        go_ret
        refine HFIN.out _ _ (by rw [HN0.out.1, HN0.out.2]; exact World.ownsRow_nil _ _ _ _) HB.out (by rw [HN0.out.2]; intro s hs; cases hs)
      · injection hsd with hp3 hln hcp
        subst hp3 hcp
        have HSA : Hid (SortAt wr wr gd (posTo counts k).length cap3 w.heap.size (.slice p k cap) counts (posTo counts k)) := Lib.hid ⟨own_leK HO.out (Nat.zero_le _), rfl, hbx2, hsl2, by omega, fun q m c hq hm => by
            rcases HV.out with ⟨g, o, c', h1, h2, h3⟩ | ⟨q', h1, h2⟩
            · have hlt2 := h3.lt (by injection h1 with _ h1 _; injection hq with _ hq _; omega)
              have hqg : q = ⟨g, o, none⟩ := by
                injection h1 with h1 _ _; injection hq with hq _ _
                rw [hq] at h1; injection h1
              rw [hqg]; simp only; omega
            · injection h1 with _ h1 _; injection hq with _ hq _; omega, hpm, OnlyS.refl _ _⟩
        clear hO0 hrest hbx2 hsl2
        go_wp2_with fail
        refine (sortN_walk _ _ _ _ _ _ _ _ HSA.out hmm (posTo_up counts k)).mono ?_
        rintro e w9 ⟨rfl, hS9⟩
        have HS9 := Lib.hid hS9
        clear hS9
        rw [HSY.out] at HS9
        go_wp2_with fail
        go_ret
        refine HFIN.out _ _ ?_ (HB.out.trans (HS9.out.only.below HB.out.size (fun i hi => by omega))) HS9.out.mem
        refine own_le HS9.out.own (fun i hi => ?_)
        simp [Value.ownBlock] at hi
        omega

end Go.Proofs.YtefeilgbofphjaaDoor
/-
  Lengths of one symbol, and of none.
-/
namespace Go.Proofs.YtefeilgbofphjaaDoor
open Go.RowKit Hf
set_option maxRecDepth 100000 in
set_option maxHeartbeats 4000000 in
theorem Lengths_oneN (w : World) (v : Value) (counts : List Int) (limit : Nat) (hv : SlV w v (ni counts)) (hok : okC counts = true) (hl1 : 1 ≤ limit) (hl2 : limit ≤ 15) (hm : (syms counts).length ≤ 1024) (hk : (syms counts).length ≤ 2 ^ limit)
    (hq : (syms counts).length = 1)
    (hst : 1 < (syms counts).length → sttOk (syms counts) (zeros counts.length) (lst (its (cnts counts (syms counts)))) limit) :
    Calls Tryd.prog 25 #[v, .int .i64 (limit : Int)] w (LenPost counts (limit : Int) w) := by
  have hlc : counts.length ≤ 1024 := by
    unfold okC at hok
    rw [Bool.and_eq_true] at hok
    exact of_decide_eq_true hok.2
  have hcb : ∀ c ∈ counts, 0 ≤ c ∧ c ≤ 4294967296 := by
    unfold okC at hok
    rw [Bool.and_eq_true, List.all_eq_true] at hok
    intro c hc
    have := hok.1 c hc
    simp at this
    omega
  have HC := Lib.hid (countable_walk w v counts hv (by omega))
  have HBY := Lib.hid (byCountN_walk w v counts hv hlc)
  have HE : Hid (lenErr counts (limit : Int) = 0) := Lib.hid (by unfold lenErr; rw [if_pos ⟨hok, by omega, by omega⟩, if_neg (by rw [Int.toNat_natCast]; omega)])
  obtain ⟨p, cap, rfl⟩ := hv.shape
  rw [ni_length] at *
  obtain ⟨n, hn⟩ : ∃ n, n = counts.length := ⟨_, rfl⟩
  have HV := Lib.hid hv
  have HN := Lib.hid hn
  have HCB := Lib.hid hcb
  have HST := Lib.hid hst
  have hn1 : n ≤ 1024 := by omega
  rw [← hn] at HV HC HBY ⊢
  obtain ⟨m, hm0⟩ : ∃ m, m = (syms counts).length := ⟨_, rfl⟩
  have HM := Lib.hid hm0
  rw [← hm0] at hm hk
  have hpow : (2 : Int) ^ limit = ((2 ^ limit : Nat) : Int) := by simp
  have hpl : 2 ^ limit ≤ 2 ^ 15 := Nat.pow_le_pow_right (by decide) hl2
  have hp15 : (2 : Nat) ^ 15 = 32768 := by decide
  clear hv hn hcb hst hm0
  obtain ⟨i0, hi, hz0, hz1, hz2⟩ := info_parts info3
  have HI0 := Lib.hid (And.intro hi (And.intro hz0 (And.intro hz1 hz2)))
  clear hi hz0 hz1 hz2
  go_enter Tryd.func25, Tryd.ntmps25
  go_wp2_with fail
  refine HC.out.mono ?_
  rintro e w1 ⟨rfl, rfl⟩
  clear HC
  rw [hok]
  go_wp2_with fail
  refine HBY.out.mono ?_
  rintro e w2 ⟨v2, rfl, hO2, hmem, hB2⟩
  rw [← syms_length, ← HM.out] at hO2
  obtain ⟨p2, cap2, rfl⟩ := own_shape hO2
  have HO2 := Lib.hid hO2
  have HB2 := Lib.hid hB2
  have HME := Lib.hid hmem
  clear hO2 hB2 hmem HBY
  have hmi : (m : Int) ≤ 2 ^ limit := by rw [hpow]; omega
  have hwp : wrap64 (2 ^ limit) = 2 ^ limit := by rw [hpow]; unfold wrap64; omega
  have hwq : IntKind.i64.wrap (2 ^ limit) = 2 ^ limit := by rw [hpow]; exact IntWalk.i64_in _ (by omega)
  clear hpow
  have hle2 : w1.heap.size ≤ w2.heap.size := HB2.out.size
  have hm1 : m = 1 := by rw [HM.out]; exact hq
  clear hq
  subst hm1
  obtain ⟨s, hs⟩ : ∃ s, syms counts = [s] := by
    match hsy : syms counts, HM.out with
    | [s], _ => exact ⟨s, rfl⟩
  have hsn : s < n := by have := HME.out s (by rw [hs]; simp); have := HN.out; omega
  have HL : Hid (lensF counts limit = (zeros n).set s 1) := Lib.hid (by unfold lensF; rw [if_pos HM.out.symm, hs, ← HN.out]; rfl)
  have HS := Lib.hid hs
  have hsi : (s : Int) < (n : Int) := by omega
  clear hs
  go_wp2_with (refine wpList_make_full w2 rfl _ _ 53 rfl w1.heap.size 3 i0 (.int .i64 0) 1 Tryd.underlying53 HI0.out.1 HI0.out.2.1 HI0.out.2.2.1 .i64 .i64 n n n rfl rfl rfl rfl (by rw [HI0.out.2.2.2]; omega) (by unfold maxLen; omega) HB2.out.size ?_; intro w3 hown hgrow; have hrow := made_row hown; have hB3 : Below w2.heap.size w2 w3 := (Below.refl _ _).grown hgrow (Nat.le_refl _) (fun k e => by cases e); have hO3 := own_stays HO2.out (fun k hk => hB3.block k (HO2.out.lt k hk).2); have HRW := Lib.hid hrow; have HB3 := Lib.hid hB3; have HO3 := Lib.hid hO3; clear hown hgrow hrow hB3 hO3; obtain ⟨g2, c2, hsh, _, _, _, _, hcs, _, _⟩ := own_spot HO3.out (by omega); injection hsh with hp _ hc; subst hp; subst hc; have hc0 := hcs 0 (.int .i64 (s : Int)) (by rw [HS.out]; rfl); clear hcs; have hc1 : w3.cell? ⟨w2.heap.size, s, none⟩ = some (.int .i64 0) := (by rw [cell_of_row _ _ _ _ _ _ HRW.out]; simp [ni, zeros, hsn]); have hf1 : w3.frozen? ⟨w2.heap.size, s, none⟩ = false := frozen_of_row _ _ _ _ _ HRW.out)
  go_ret2
  refine ⟨_, by rw [HE.out]; rfl, (HB2.out.trans (HB3.out.mono hle2)).setCell hle2 _, ?_, fun h => absurd HE.out h⟩
  intro _
  rw [Int.toNat_natCast, HL.out, ← HN.out]
  refine row_own (n := n) ?_ (by simp [zeros]) hle2 hn1
  rw [heap_setCell_same _ _ _ _ _ _ HRW.out]; simp [ni, List.map_set]
set_option maxRecDepth 100000 in
set_option maxHeartbeats 4000000 in
theorem Lengths_noneN (w : World) (v : Value) (counts : List Int) (limit : Nat) (hv : SlV w v (ni counts)) (hok : okC counts = true) (hl1 : 1 ≤ limit) (hl2 : limit ≤ 15) (hm : (syms counts).length ≤ 1024) (hk : (syms counts).length ≤ 2 ^ limit)
    (hq : (syms counts).length = 0)
    (hst : 1 < (syms counts).length → sttOk (syms counts) (zeros counts.length) (lst (its (cnts counts (syms counts)))) limit) :
    Calls Tryd.prog 25 #[v, .int .i64 (limit : Int)] w (LenPost counts (limit : Int) w) := by
  have hlc : counts.length ≤ 1024 := by
    unfold okC at hok
    rw [Bool.and_eq_true] at hok
    exact of_decide_eq_true hok.2
  have hcb : ∀ c ∈ counts, 0 ≤ c ∧ c ≤ 4294967296 := by
    unfold okC at hok
    rw [Bool.and_eq_true, List.all_eq_true] at hok
    intro c hc
    have := hok.1 c hc
    simp at this
    omega
  have HC := Lib.hid (countable_walk w v counts hv (by omega))
  have HBY := Lib.hid (byCountN_walk w v counts hv hlc)
  have HE : Hid (lenErr counts (limit : Int) = 0) := Lib.hid (by unfold lenErr; rw [if_pos ⟨hok, by omega, by omega⟩, if_neg (by rw [Int.toNat_natCast]; omega)])
  obtain ⟨p, cap, rfl⟩ := hv.shape
  rw [ni_length] at *
  obtain ⟨n, hn⟩ : ∃ n, n = counts.length := ⟨_, rfl⟩
  have HV := Lib.hid hv
  have HN := Lib.hid hn
  have HCB := Lib.hid hcb
  have HST := Lib.hid hst
  have hn1 : n ≤ 1024 := by omega
  rw [← hn] at HV HC HBY ⊢
  obtain ⟨m, hm0⟩ : ∃ m, m = (syms counts).length := ⟨_, rfl⟩
  have HM := Lib.hid hm0
  rw [← hm0] at hm hk
  have hpow : (2 : Int) ^ limit = ((2 ^ limit : Nat) : Int) := by simp
  have hpl : 2 ^ limit ≤ 2 ^ 15 := Nat.pow_le_pow_right (by decide) hl2
  have hp15 : (2 : Nat) ^ 15 = 32768 := by decide
  clear hv hn hcb hst hm0
  obtain ⟨i0, hi, hz0, hz1, hz2⟩ := info_parts info3
  have HI0 := Lib.hid (And.intro hi (And.intro hz0 (And.intro hz1 hz2)))
  clear hi hz0 hz1 hz2
  go_enter Tryd.func25, Tryd.ntmps25
  go_wp2_with fail
  refine HC.out.mono ?_
  rintro e w1 ⟨rfl, rfl⟩
  clear HC
  rw [hok]
  go_wp2_with fail
  refine HBY.out.mono ?_
  rintro e w2 ⟨v2, rfl, hO2, hmem, hB2⟩
  rw [← syms_length, ← HM.out] at hO2
  obtain ⟨p2, cap2, rfl⟩ := own_shape hO2
  have HO2 := Lib.hid hO2
  have HB2 := Lib.hid hB2
  have HME := Lib.hid hmem
  clear hO2 hB2 hmem HBY
  have hmi : (m : Int) ≤ 2 ^ limit := by rw [hpow]; omega
  have hwp : wrap64 (2 ^ limit) = 2 ^ limit := by rw [hpow]; unfold wrap64; omega
  have hwq : IntKind.i64.wrap (2 ^ limit) = 2 ^ limit := by rw [hpow]; exact IntWalk.i64_in _ (by omega)
  clear hpow
  have hle2 : w1.heap.size ≤ w2.heap.size := HB2.out.size
  have hm0 : m = 0 := by rw [HM.out]; exact hq
  clear hq
  subst hm0
  have HL : Hid (lensF counts limit = zeros n) := Lib.hid (by unfold lensF; rw [if_neg (by rw [← HM.out]; omega), if_neg (by rw [← HM.out]; omega), ← HN.out])
  go_wp2_with (refine wpList_make_full w2 rfl _ _ 53 rfl w1.heap.size 3 i0 (.int .i64 0) 1 Tryd.underlying53 HI0.out.1 HI0.out.2.1 HI0.out.2.2.1 .i64 .i64 n n n rfl rfl rfl rfl (by rw [HI0.out.2.2.2]; omega) (by unfold maxLen; omega) HB2.out.size ?_; intro w3 hown hgrow; have hrow := made_row hown; have hB3 : Below w2.heap.size w2 w3 := (Below.refl _ _).grown hgrow (Nat.le_refl _) (fun k e => by cases e); have hO3 := own_stays HO2.out (fun k hk => hB3.block k (HO2.out.lt k hk).2); have HRW := Lib.hid hrow; have HB3 := Lib.hid hB3; have HO3 := Lib.hid hO3; clear hown hgrow hrow hB3 hO3)
  go_ret2
  refine ⟨_, by rw [HE.out]; rfl, HB2.out.trans (HB3.out.mono hle2), ?_, fun h => absurd HE.out h⟩
  intro _
  rw [Int.toNat_natCast, HL.out, ← HN.out]
  exact row_own (n := n) HRW.out (zeros_length n) hle2 hn1
end Go.Proofs.YtefeilgbofphjaaDoor
/-
  Lengths of two symbols and more (any number).
-/
namespace Go.Proofs.YtefeilgbofphjaaDoor
open Go.RowKit Hf
set_option maxRecDepth 100000 in
set_option maxHeartbeats 4000000 in
theorem Lengths_manyN (w : World) (v : Value) (counts : List Int) (limit : Nat) (hv : SlV w v (ni counts)) (hok : okC counts = true) (hl1 : 1 ≤ limit) (hl2 : limit ≤ 15) (hm : (syms counts).length ≤ 1024) (hk : (syms counts).length ≤ 2 ^ limit)
    (hq : 1 < (syms counts).length)
    (hst : 1 < (syms counts).length → sttOk (syms counts) (zeros counts.length) (lst (its (cnts counts (syms counts)))) limit) :
    Calls Tryd.prog 25 #[v, .int .i64 (limit : Int)] w (LenPost counts (limit : Int) w) := by
  have hlc : counts.length ≤ 1024 := by
    unfold okC at hok
    rw [Bool.and_eq_true] at hok
    exact of_decide_eq_true hok.2
  have hcb : ∀ c ∈ counts, 0 ≤ c ∧ c ≤ 4294967296 := by
    unfold okC at hok
    rw [Bool.and_eq_true, List.all_eq_true] at hok
    intro c hc
    have := hok.1 c hc
    simp at this
    omega
  have HC := Lib.hid (countable_walk w v counts hv (by omega))
  have HBY := Lib.hid (byCountN_walk w v counts hv hlc)
  have HE : Hid (lenErr counts (limit : Int) = 0) := Lib.hid (by unfold lenErr; rw [if_pos ⟨hok, by omega, by omega⟩, if_neg (by rw [Int.toNat_natCast]; omega)])
  obtain ⟨p, cap, rfl⟩ := hv.shape
  rw [ni_length] at *
  obtain ⟨n, hn⟩ : ∃ n, n = counts.length := ⟨_, rfl⟩
  have HV := Lib.hid hv
  have HN := Lib.hid hn
  have HCB := Lib.hid hcb
  have HST := Lib.hid hst
  have hn1 : n ≤ 1024 := by omega
  rw [← hn] at HV HC HBY ⊢
  obtain ⟨m, hm0⟩ : ∃ m, m = (syms counts).length := ⟨_, rfl⟩
  have HM := Lib.hid hm0
  rw [← hm0] at hm hk
  have hpow : (2 : Int) ^ limit = ((2 ^ limit : Nat) : Int) := by simp
  have hpl : 2 ^ limit ≤ 2 ^ 15 := Nat.pow_le_pow_right (by decide) hl2
  have hp15 : (2 : Nat) ^ 15 = 32768 := by decide
  clear hv hn hcb hst hm0
  obtain ⟨i0, hi, hz0, hz1, hz2⟩ := info_parts info3
  have HI0 := Lib.hid (And.intro hi (And.intro hz0 (And.intro hz1 hz2)))
  clear hi hz0 hz1 hz2
  go_enter Tryd.func25, Tryd.ntmps25
  go_wp2_with fail
  refine HC.out.mono ?_
  rintro e w1 ⟨rfl, rfl⟩
  clear HC
  rw [hok]
  go_wp2_with fail
  refine HBY.out.mono ?_
  rintro e w2 ⟨v2, rfl, hO2, hmem, hB2⟩
  rw [← syms_length, ← HM.out] at hO2
  obtain ⟨p2, cap2, rfl⟩ := own_shape hO2
  have HO2 := Lib.hid hO2
  have HB2 := Lib.hid hB2
  have HME := Lib.hid hmem
  clear hO2 hB2 hmem HBY
  have hmi : (m : Int) ≤ 2 ^ limit := by rw [hpow]; omega
  have hwp : wrap64 (2 ^ limit) = 2 ^ limit := by rw [hpow]; unfold wrap64; omega
  have hwq : IntKind.i64.wrap (2 ^ limit) = 2 ^ limit := by rw [hpow]; exact IntWalk.i64_in _ (by omega)
  clear hpow
  have hle2 : w1.heap.size ≤ w2.heap.size := HB2.out.size
  have hm2 : 1 < m := by rw [HM.out]; exact hq
  have hm1 : ¬ m = 1 := by omega
  clear hq
  have hmi2 : (1 : Int) < (m : Int) := by omega
  have hme : ((m : Int) == 1) = false := beq_false_of_ne (by omega)
  have HL : Hid (lensF counts limit = (stt (syms counts) (zeros n) (lst (its (cnts counts (syms counts)))) limit limit).1) := Lib.hid (by unfold lensF; rw [if_neg (by rw [← HM.out]; omega), if_pos (by rw [← HM.out]; omega), ← HN.out])
  go_wp2_with (refine wpList_make_full w2 rfl _ _ 53 rfl w1.heap.size 3 i0 (.int .i64 0) 1 Tryd.underlying53 HI0.out.1 HI0.out.2.1 HI0.out.2.2.1 .i64 .i64 n n n rfl rfl rfl rfl (by rw [HI0.out.2.2.2]; omega) (by unfold maxLen; omega) HB2.out.size ?_; intro w3 hown hgrow; have hrow := made_row hown; have hB3 : Below w2.heap.size w2 w3 := (Below.refl _ _).grown hgrow (Nat.le_refl _) (fun k e => by cases e); have hO3 := own_stays HO2.out (fun k hk => hB3.block k (HO2.out.lt k hk).2); have HRW := Lib.hid hrow; have HB3 := Lib.hid hB3; have HO3 := Lib.hid hO3; clear hown hgrow hrow hB3 hO3)
  have hV3 := HV.out.below (HB2.out.trans (HB3.out.mono hle2)) (Nat.le_refl _)
  refine (lists_walk w3 _ _ (syms counts) counts limit (own_toV HO3.out) hV3 HME.out (by rw [← HM.out]; omega) ⟨hl1, hl2⟩ HCB.out).mono ?_
  rintro e w4 ⟨v4, vs, rfl, hO4, hvl, hE4, hB4⟩
  obtain ⟨b, cap4, hsh4, hb1, hb2, _, _, hc4, _, _⟩ := own_spot hO4 (by omega)
  subst hsh4
  have hsz3 : w2.heap.size < w3.heap.size := (Array.getElem?_eq_some_iff.1 HRW.out).1
  have hrow4 := (hB4.block w2.heap.size hsz3).trans HRW.out
  have hO24 := own_stays HO3.out (fun k hk => hB4.block k (HO3.out.lt k hk).2)
  have HLY := Lib.hid ((callsIn_wide (n := 6)).1 (lay_in 6 (by omega) w4 w2.heap.size b cap4 n (zeros n) _ (syms counts) vs (lst (its (cnts counts (syms counts)))) hrow4 (own_toV hO24) (fun q m' c' hq _ => by
      have h1 := HO2.out
      obtain ⟨_, ⟨h3, _⟩ | ⟨g', _, _, h3, h4, h5, _⟩⟩ := h1
      · rw [h3] at hq; cases hq
      · rw [h3] at hq; cases hq
        have := (Array.getElem?_eq_some_iff.1 h5).1
        simp only; omega) (fun s hs => by rw [zeros_length, HN.out]; exact HME.out s hs) (by rw [← HM.out]; omega) (by rw [← HM.out]; omega) ⟨by omega, hb2⟩ (by omega) hc4 (fun j u hu => own_leK (hE4 j u hu) (Nat.zero_le _)) (by rw [hvl]; have := HST.out (by rw [← HM.out]; exact hm2); rwa [← HN.out] at this)))
  rw [zeros_length] at HLY
  have HVL := Lib.hid hvl
  have HB4 := Lib.hid hB4
  clear hvl hO4 hE4 hB4 hc4 hrow4 hO24 hV3
  go_wp2_with fail
  refine HLY.out.mono ?_
  rintro e w5 ⟨rfl, hr5, ho5⟩
  have HR5 := Lib.hid hr5
  have HO5 := Lib.hid ho5
  clear hr5 ho5 HLY
  go_wp2_with fail
  go_ret2
  refine ⟨_, by rw [HE.out]; rfl, ?_, ?_, fun h => absurd HE.out h⟩
  · have hB24 : Below w1.heap.size w1 w4 := (HB2.out.trans (HB3.out.mono hle2)).trans (HB4.out.mono (by omega))
    exact hB24.trans (HO5.out.below hB24.size (fun i hi => by have := HB4.out.size; omega))
  · intro _
    rw [Int.toNat_natCast, HL.out, ← HN.out]
    have h6 := HR5.out
    rw [HVL.out] at h6
    exact row_own (n := n) h6 (by rw [stt_length, zeros_length]) hle2 hn1
end Go.Proofs.YtefeilgbofphjaaDoor
/-
  Lengths of too many symbols for the limit (any number).
-/
namespace Go.Proofs.YtefeilgbofphjaaDoor
open Go.RowKit Hf
set_option maxRecDepth 100000 in
set_option maxHeartbeats 4000000 in
theorem Lengths_overN (w : World) (v : Value) (counts : List Int) (limit : Nat) (hv : SlV w v (ni counts)) (hok : okC counts = true) (hl1 : 1 ≤ limit) (hl2 : limit ≤ 15) (hm : (syms counts).length ≤ 1024) (hk : 2 ^ limit < (syms counts).length) :
    Calls Tryd.prog 25 #[v, .int .i64 (limit : Int)] w (LenPost counts (limit : Int) w) := by
  have hlc : counts.length ≤ 1024 := by
    unfold okC at hok
    rw [Bool.and_eq_true] at hok
    exact of_decide_eq_true hok.2
  have HC := Lib.hid (countable_walk w v counts hv (by omega))
  have HBY := Lib.hid (byCountN_walk w v counts hv hlc)
  have HE : Hid (lenErr counts (limit : Int) = 1) := Lib.hid (by unfold lenErr; rw [if_pos ⟨hok, by omega, by omega⟩, if_pos (by rw [Int.toNat_natCast]; omega)])
  obtain ⟨p, cap, rfl⟩ := hv.shape
  rw [ni_length] at *
  obtain ⟨n, hn⟩ : ∃ n, n = counts.length := ⟨_, rfl⟩
  have HV := Lib.hid hv
  have HN := Lib.hid hn
  have hn1 : n ≤ 1024 := by omega
  rw [← hn] at HV HC HBY ⊢
  obtain ⟨m, hm0⟩ : ∃ m, m = (syms counts).length := ⟨_, rfl⟩
  have HM := Lib.hid hm0
  rw [← hm0] at hm hk
  have hpow : (2 : Int) ^ limit = ((2 ^ limit : Nat) : Int) := by simp
  have hpl : 2 ^ limit ≤ 2 ^ 15 := Nat.pow_le_pow_right (by decide) hl2
  have hp15 : (2 : Nat) ^ 15 = 32768 := by decide
  clear hv hn hm0
  obtain ⟨i0, hi, hz0, hz1, hz2⟩ := info_parts info3
  have HI0 := Lib.hid (And.intro hi (And.intro hz0 (And.intro hz1 hz2)))
  clear hi hz0 hz1 hz2
  go_enter Tryd.func25, Tryd.ntmps25
  go_wp2_with fail
  refine HC.out.mono ?_
  rintro e w1 ⟨rfl, rfl⟩
  clear HC
  rw [hok]
  go_wp2_with fail
  refine HBY.out.mono ?_
  rintro e w2 ⟨v2, rfl, hO2, hmem, hB2⟩
  rw [← syms_length, ← HM.out] at hO2
  obtain ⟨p2, cap2, rfl⟩ := own_shape hO2
  have HO2 := Lib.hid hO2
  have HB2 := Lib.hid hB2
  have HME := Lib.hid hmem
  clear hO2 hB2 hmem HBY
  have hpp : 0 < 2 ^ limit := Nat.pow_pos (by decide)
  have hmi : (2 : Int) ^ limit < (m : Int) := by rw [hpow]; omega
  have hwp : wrap64 (2 ^ limit) = 2 ^ limit := by rw [hpow]; unfold wrap64; omega
  have hwq : IntKind.i64.wrap (2 ^ limit) = 2 ^ limit := by rw [hpow]; exact IntWalk.i64_in _ (by omega)
  clear hpow
  go_wp2_with fail
  go_ret2
  exact ⟨_, by rw [HE.out]; rfl, HB2.out, fun h => (by rw [HE.out] at h; cases h), fun _ => rfl⟩
end Go.Proofs.YtefeilgbofphjaaDoor
/-
  Lengths, any number of symbols.
-/
namespace Go.Proofs.YtefeilgbofphjaaDoor
open Go.RowKit Hf
theorem Lengths_okN (w : World) (v : Value) (counts : List Int) (limit : Nat) (hv : SlV w v (ni counts)) (hok : okC counts = true) (hl1 : 1 ≤ limit) (hl2 : limit ≤ 15) (hm : (syms counts).length ≤ 1024) (hk : (syms counts).length ≤ 2 ^ limit)
    (hst : 1 < (syms counts).length → sttOk (syms counts) (zeros counts.length) (lst (its (cnts counts (syms counts)))) limit) :
    Calls Tryd.prog 25 #[v, .int .i64 (limit : Int)] w (LenPost counts (limit : Int) w) := by
  rcases Nat.lt_trichotomy (syms counts).length 1 with h | h | h
  · exact Lengths_noneN w v counts limit hv hok hl1 hl2 hm hk (by omega) hst
  · exact Lengths_oneN w v counts limit hv hok hl1 hl2 hm hk h hst
  · exact Lengths_manyN w v counts limit hv hok hl1 hl2 hm hk h hst
end Go.Proofs.YtefeilgbofphjaaDoor
