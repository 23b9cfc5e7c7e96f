/-
  Merged, in the order in which they build: Lengths ByN.
-/
import Derived.Test.YtphdcgioeokfbaaDoorMg5
import Derived.Test.YtphdcgioeokfbaaDoorMg11
import Derived.Test.YtphdcgioeokfbaaDoorMg16
import Derived.Test.YtphdcgioeokfbaaDoorMg21
/-
  The contracts of countable, byCount, Lengths (fewer than 20 symbols).
-/
namespace Go.Proofs.YtphdcgioeokfbaaDoor
open Go.RowKit Hf

def okC (counts : List Int) : Bool := counts.all (fun c => decide (0 ≤ c) && decide (c ≤ 4294967296)) && decide (counts.length ≤ 1024)
def CtLoop (w : World) (counts : List Int) (v : Value) (wr : World) : Prop := ∃ k : Nat, k ≤ counts.length ∧ v = .int .i64 k ∧ wr = w ∧ ∀ i, i < k → 0 ≤ counts.getD i 0 ∧ counts.getD i 0 ≤ 4294967296
theorem okC_of (counts : List Int) (h : ∀ i, i < counts.length → 0 ≤ counts.getD i 0 ∧ counts.getD i 0 ≤ 4294967296) : okC counts = decide (counts.length ≤ 1024) := by
  unfold okC
  rw [show counts.all (fun c => decide (0 ≤ c) && decide (c ≤ 4294967296)) = true from by
    rw [List.all_eq_true]
    intro c hc
    obtain ⟨i, hi, rfl⟩ := List.getElem_of_mem hc
    have := h i hi
    have e : counts.getD i 0 = counts[i] := by simp [hi]
    rw [e] at this
    simp [this], Bool.true_and]
theorem okC_not (counts : List Int) (i : Nat) (hi : i < counts.length) (h : counts.getD i 0 < 0 ∨ 4294967296 < counts.getD i 0) : okC counts = false := by
  unfold okC
  rw [show counts.all (fun c => decide (0 ≤ c) && decide (c ≤ 4294967296)) = false from by
    rw [List.all_eq_false]
    refine ⟨counts[i], List.getElem_mem hi, ?_⟩
    have e : counts.getD i 0 = counts[i] := by simp [hi]
    rw [e] at h
    simp; omega, Bool.false_and]
set_option maxRecDepth 100000 in
set_option maxHeartbeats 1000000 in
theorem countable_walk (w : World) (v : Value) (counts : List Int) (hv : SlV w v (ni counts)) (hl : counts.length ≤ 1099511627776) : Calls Tryd.prog 65 #[v] w fun e w' => e = .returned (.bool (okC counts)) ∧ w' = w := by
  obtain ⟨p, cap, rfl⟩ := hv.shape
  rw [ni_length] at *
  obtain ⟨l, hl0⟩ : ∃ l, l = counts.length := ⟨_, rfl⟩
  rw [← hl0] at hv hl ⊢
  have HN := Lib.hid hl0
  have HV := Lib.hid hv
  clear hl0 hv
  go_enter Tryd.func65, Tryd.ntmps65
  go_wp2_with fail
  go_loopw [4, 7] (fun _ v wr => CtLoop w counts v wr) (fun _ v _ => l - (intOf v).toNat)
  case atStart => exact ⟨0, Nat.zero_le _, rfl, rfl, fun i hi => by omega⟩
  case round =>
    obtain ⟨k, hk, rfl, rfl, hall⟩ := hrel
    have HA := Lib.hid hall
    clear hall
    by_cases hlt : k < l
    · have hlti : (k : Int) < (l : Int) := by omega
      obtain ⟨g, o, rfl, hrow⟩ := HV.out.some (by omega)
      have hcap := HV.out.le
      have hc := hrow.ni k (by rw [← HN.out]; omega)
      clear hrow
      obtain ⟨z, hz⟩ : ∃ z, z = counts.getD k 0 := ⟨_, rfl⟩
      rw [← hz] at hc
      have HZ := Lib.hid hz
      clear hz
      by_cases hz0 : z < 0
      · have HG : Hid (okC counts = false) := Lib.hid (okC_not counts k (by rw [← HN.out]; omega) (.inl (by rw [← HZ.out]; exact hz0)))
        go_wp2_with fail
        go_ret
        exact ⟨by rw [HG.out]; rfl, rfl⟩
      · by_cases hz1 : 4294967296 < z
        · have HG : Hid (okC counts = false) := Lib.hid (okC_not counts k (by rw [← HN.out]; omega) (.inr (by rw [← HZ.out]; exact hz1)))
          go_wp2_with fail
          go_ret
          exact ⟨by rw [HG.out]; rfl, rfl⟩
        · go_wp2_with fail
          refine ⟨⟨k + 1, by have := HN.out; omega, by go_num, rfl, fun i hi => ?_⟩, by simp [intOf]; omega⟩
          rcases Nat.lt_or_ge i k with h | h
          · exact HA.out i h
          · obtain rfl : i = k := by omega
            rw [← HZ.out]; omega
    · have hlti : (l : Int) ≤ (k : Int) := by omega
      have HG := Lib.hid (okC_of counts (fun i hi => HA.out i (by have := HN.out; omega)))
      go_wp2_with fail
      go_ret
      refine ⟨?_, rfl⟩
      rw [HG.out, ← HN.out]
      show Ending.returned (.bool (decide ((l : Int) ≤ 1024))) = _
      congr 2
      exact decide_eq_decide.2 (by omega)
/-- The symbols that count, among the first k. -/
def posTo (counts : List Int) (k : Nat) : List Nat := (List.range k).filter fun i => decide (0 < counts.getD i 0)
theorem posTo_succ (counts : List Int) (k : Nat) : posTo counts (k + 1) = posTo counts k ++ (if 0 < counts.getD k 0 then [k] else []) := by
  unfold posTo
  rw [List.range_succ, List.filter_append]
  by_cases h : 0 < counts.getD k 0 <;> simp_all
theorem posTo_le (counts : List Int) (k : Nat) : (posTo counts k).length ≤ k := by
  unfold posTo; refine Nat.le_trans (List.length_filter_le _ _) ?_; simp
theorem posTo_mem (counts : List Int) (k s : Nat) (h : s ∈ posTo counts k) : s < k := by
  unfold posTo at h; exact List.mem_range.1 (List.mem_filter.1 h).1
/-- The symbols, sorted. -/
def syms (counts : List Int) : List Nat := isTo (fun s => counts.getD s 0) ((posTo counts counts.length).length - 1) (posTo counts counts.length)
def ByPost (counts : List Int) (w : World) (e : Ending) (w' : World) : Prop :=
  ∃ v, e = .returned v ∧ w'.ownsRow w.heap.size 3 1 v (posTo counts counts.length).length (nl (syms counts)) ∧ (∀ s ∈ syms counts, s < counts.length) ∧ Below w.heap.size w w'
theorem nl_append (a b : List Nat) : nl (a ++ b) = nl a ++ nl b := by simp [nl, ni]
set_option maxRecDepth 100000 in
set_option maxHeartbeats 1000000 in
theorem byCount_walk (w : World) (v : Value) (counts : List Int) (hv : SlV w v (ni counts)) (hl : counts.length ≤ 1024) (hm : (posTo counts counts.length).length < 20) : Calls Tryd.prog 66 #[v] w (ByPost counts w) := by
  have hmf : ∀ (fn : Fn) (first cap : Array Value) (w : World), (Instr.makeFunc fn first cap).run Tryd.prog w = .ok (.func fn first cap) w := fun _ _ _ _ => rfl
  obtain ⟨p, cap, rfl⟩ := hv.shape
  rw [ni_length] at *
  obtain ⟨l, hl0⟩ : ∃ l, l = counts.length := ⟨_, rfl⟩
  rw [← hl0] at hv hl hm ⊢
  have HN := Lib.hid hl0
  have HV := Lib.hid hv
  have HM := Lib.hid hm
  clear hl0 hv hm
  have HB0 : Hid (Below w.heap.size w (w.alloc (.cells #[.slice p l cap] 91))) := Lib.hid ((Below.refl _ _).alloc (Nat.le_refl _) _)
  have HBX : Hid ((w.alloc (.cells #[.slice p l cap] 91)).cell? ⟨w.heap.size, 0, none⟩ = some (.slice p l cap)) := Lib.hid (Boxed.new w 91 (.slice p l cap)).cell
  have hsz0 : (w.alloc (.cells #[.slice p l cap] 91)).heap.size = w.heap.size + 1 := by simp
  obtain ⟨i0, hi, hz0, hz1, hz2⟩ := info_parts info3
  have HI0 := Lib.hid (And.intro hi (And.intro hz0 (And.intro hz1 hz2)))
  clear hi hz0 hz1 hz2
  go_enter Tryd.func66, Tryd.ntmps66
  go_wp2_with fail
  generalize w.alloc (.cells #[.slice p l cap] 91) = w1 at *
  go_loopw [3, 4, 5, 8] (fun v3 _ _ v8 wr => ∃ k : Nat, k ≤ l ∧ v8 = .int .i64 k ∧ wr.ownsRow w1.heap.size 3 1 v3 (posTo counts k).length (nl (posTo counts k)) ∧ Below w1.heap.size w1 wr) (fun _ _ _ v8 _ => l - (intOf v8).toNat)
  case atStart => exact ⟨0, Nat.zero_le _, rfl, World.ownsRow_nil _ _ _ _, Below.refl _ _⟩
  case round =>
    obtain ⟨k, hk, rfl, hO, hB⟩ := hrel
    obtain ⟨p3, cap3, rfl⟩ := own_shape hO
    have HO := Lib.hid hO
    have HB := Lib.hid hB
    clear hO hB
    by_cases hlt : k < l
    · have hlti : (k : Int) < (l : Int) := by omega
      obtain ⟨g, o, rfl, hrow⟩ := HV.out.some (by omega)
      have hcap := HV.out.le
      have hlw := hrow.lt (by rw [ni_length, ← HN.out]; omega)
      have hc := (hrow.below (HB0.out.trans (HB.out.mono HB0.out.size)) hlw).ni k (by rw [← HN.out]; omega)
      clear hrow hlw
      have HP := Lib.hid (posTo_succ counts k)
      have hpl := posTo_le counts k
      obtain ⟨z, hz⟩ : ∃ z, z = counts.getD k 0 := ⟨_, rfl⟩
      rw [← hz] at hc HP
      clear hz
      generalize hpk : (posTo counts k).length = np at *
      have HPK := Lib.hid hpk
      clear hpk
      have hle1 : w1.heap.size ≤ wr.heap.size := HB.out.size
      by_cases hz0 : 0 < z
      · have HP2 := HP.out
        rw [if_pos hz0] at HP2
        have HP2 := Lib.hid HP2
        clear HP
        go_wp2_with (refine wpList_appK 91 3 i0 (.int .i64 0) 1 8 Tryd.underlying91 HI0.out.1 HI0.out.2.1 HI0.out.2.2.1 HI0.out.2.2.2 rfl (by decide) (by decide) rfl _ _ rfl w1.heap.size (.slice p3 np cap3) (.slice (some ⟨wr.heap.size, 0, none⟩) 1 1) np 1 _ [.int .i64 (k : Int)] rfl rfl (by intro y hy; simp at hy; subst hy; rfl) (HO.out.alloc _) (⟨rfl, .inl ⟨wr.heap.size, 0, 1, rfl, Nat.le_refl _, fun i v hi => by rw [Nat.zero_add]; exact (cell_of_row _ _ _ _ _ _ (heap_alloc_new wr _)).trans (by simpa using hi)⟩⟩) (by simp; omega) (by omega) ?_; intro v' w9 hown hgrow _; obtain ⟨p9, cap9, hv'⟩ := own_shape hown; have HOW := Lib.hid hown; have HGR := Lib.hid hgrow; clear hown hgrow; subst hv')
        refine ⟨⟨k + 1, by omega, by go_num, ?_, ((HB.out.alloc HB.out.size _).grown HGR.out (by simp; omega) (fun k e => (HO.out.lt k e).1))⟩, by simp [intOf]; omega⟩
        rw [HP2.out, nl_append, List.length_append, HPK.out]
        exact HOW.out
      · have HP2 := HP.out
        rw [if_neg hz0, List.append_nil] at HP2
        have HP2 := Lib.hid HP2
        clear HP
        go_wp2_with fail
        refine ⟨⟨k + 1, by omega, by go_num, ?_, HB.out⟩, by simp [intOf]; omega⟩
        rw [HP2.out, HPK.out]
        exact HO.out
    · have hlti : (l : Int) ≤ (k : Int) := by omega
      obtain rfl : k = l := by omega
      have hsy : isTo (fun s => counts.getD s 0) ((posTo counts k).length - 1) (posTo counts k) = syms counts := by unfold syms; rw [← HN.out]
      have HSY := Lib.hid hsy
      have hmm := HM.out
      have hpm : ∀ s ∈ posTo counts k, s < counts.length := fun s hs => by have := posTo_mem counts k s hs; have := HN.out; omega
      have hbx := HB.out.cell (p := ⟨w.heap.size, 0, none⟩) (by show w.heap.size < _; omega)
      have hbx2 := hbx.trans HBX.out
      have hsl2 := HV.out.below (HB0.out.trans (HB.out.mono HB0.out.size)) (Nat.le_refl _)
      have hfin : ∀ (v9 : Value) (w9 : World), w9.ownsRow w1.heap.size 3 1 v9 (posTo counts k).length (nl (syms counts)) → Below w1.heap.size w1 w9 → (∀ s ∈ syms counts, s < counts.length) → ByPost counts w (.returned v9) w9 := fun v9 w9 h1 h2 h3 =>
        ⟨v9, rfl, by rw [← HN.out]; exact own_leK h1 (by omega), h3, HB0.out.trans (h2.mono (by omega))⟩
      have HFIN := Lib.hid hfin
      clear hsy hbx hfin
      rcases hO0 : HO.out with ⟨hlen0, ⟨hsn, hn0⟩ | ⟨gd, capd, cur, hsd, hgd, hrest⟩⟩
      · injection hsn with hp3 hln hcp
        subst hp3 hcp
        have he : posTo counts k = [] := List.eq_nil_of_length_eq_zero hn0
        have hs0 : syms counts = [] := by rw [← HSY.out, he]; rfl
        have HN0 := Lib.hid (And.intro hn0 hs0)
        rw [hn0]
        clear hO0 hn0 he hs0 hlen0 hln
        go_wp2_with fail
        refine (sort_nil _ _).mono ?_
        rintro e w9 ⟨rfl, rfl⟩
        go_wp2_with fail
        go_ret
        refine HFIN.out _ _ (by rw [HN0.out.1, HN0.out.2]; exact World.ownsRow_nil _ _ _ _) HB.out (by rw [HN0.out.2]; intro s hs; cases hs)
      · injection hsd with hp3 hln hcp
        subst hp3 hcp
        have HSA : Hid (SortAt wr wr gd (posTo counts k).length cap3 w.heap.size (.slice p k cap) counts (posTo counts k)) := Lib.hid ⟨own_leK HO.out (Nat.zero_le _), rfl, hbx2, hsl2, by omega, fun q m c hq hm => by
            rcases HV.out with ⟨g, o, c', h1, h2, h3⟩ | ⟨q', h1, h2⟩
            · have hlt2 := h3.lt (by injection h1 with _ h1 _; injection hq with _ hq _; omega)
              have hqg : q = ⟨g, o, none⟩ := by
                injection h1 with h1 _ _; injection hq with hq _ _
                rw [hq] at h1; injection h1
              rw [hqg]; simp only; omega
            · injection h1 with _ h1 _; injection hq with _ hq _; omega, hpm, OnlyS.refl _ _⟩
        clear hO0 hrest hbx2 hsl2
        go_wp2_with fail
        refine (sort_walk _ _ _ _ _ _ _ _ HSA.out hmm).mono ?_
        rintro e w9 ⟨rfl, hS9⟩
        have HS9 := Lib.hid hS9
        clear hS9
        rw [HSY.out] at HS9
        go_wp2_with fail
        go_ret
        refine HFIN.out _ _ ?_ (HB.out.trans (HS9.out.only.below HB.out.size (fun i hi => by omega))) HS9.out.mem
        refine own_le HS9.out.own (fun i hi => ?_)
        simp [Value.ownBlock] at hi
        omega

/-- One more at a place. -/
def zeros (n : Nat) : List Int := List.replicate n 0
/-- The lengths of counts that may be. -/
def lensF (counts : List Int) (limit : Nat) : List Int :=
  if (syms counts).length = 1 then (zeros counts.length).set ((syms counts).getD 0 0) 1
  else if 1 < (syms counts).length then (stt (syms counts) (zeros counts.length) (lst (its (cnts counts (syms counts)))) limit limit).1
  else zeros counts.length
/-- What is answered. -/
def lenErr (counts : List Int) (limit : Int) : Int := if okC counts = true ∧ 1 ≤ limit ∧ limit ≤ 15 then (if 2 ^ limit.toNat < (syms counts).length then 1 else 0) else 1
def LenPost (counts : List Int) (limit : Int) (w : World) (e : Ending) (w' : World) : Prop :=
  ∃ v, e = .returned (.tuple #[v, .int .i64 (lenErr counts limit)]) ∧ Below w.heap.size w w' ∧ (lenErr counts limit = 0 → w'.ownsRow w.heap.size 3 1 v counts.length (ni (lensF counts limit.toNat))) ∧ (lenErr counts limit ≠ 0 → v = .slice none 0 0)
theorem syms_length (counts : List Int) : (syms counts).length = (posTo counts counts.length).length := by unfold syms; rw [isTo_length]
theorem zeros_made (n : Nat) : (madeCells (Value.int .i64 0).cells (n * 1)).toList = ni (zeros n) := by
  apply List.ext_getElem
  · simp [ni, zeros, size_madeCells]
  · intro i h1 h2
    simp [madeCells, ni, zeros, Value.cells, Nat.mod_one]
set_option maxRecDepth 100000 in
set_option maxHeartbeats 1000000 in
theorem Lengths_arg (w : World) (v : Value) (counts : List Int) (limit : Int) (hv : SlV w v (ni counts)) (hl : counts.length ≤ 1099511627776) (hbad : ¬ (okC counts = true ∧ 1 ≤ limit ∧ limit ≤ 15)) :
    Calls Tryd.prog 57 #[v, .int .i64 limit] w (LenPost counts limit w) := by
  have HC := Lib.hid (countable_walk w v counts hv hl)
  have HE : Hid (lenErr counts limit = 1) := Lib.hid (by unfold lenErr; rw [if_neg hbad])
  have hfin : LenPost counts limit w (.returned (.tuple #[.slice none 0 0, .int .i64 1])) w := ⟨_, by rw [HE.out], Below.refl _ _, fun h => (by rw [HE.out] at h; cases h), fun _ => rfl⟩
  have HFIN := Lib.hid hfin
  clear hv hfin
  go_enter Tryd.func57, Tryd.ntmps57
  go_wp2_with fail
  refine HC.out.mono ?_
  rintro e w1 ⟨rfl, rfl⟩
  clear HC
  cases hc : okC counts with
  | false =>
    go_wp2_with fail
    go_ret2
    exact HFIN.out
  | true =>
    rw [hc] at hbad
    by_cases h1 : limit < 1
    · clear hbad
      go_wp2_with fail
      go_ret2
      exact HFIN.out
    · have h2 : 15 < limit := by
        apply Classical.byContradiction
        intro h; exact hbad ⟨rfl, by omega, by omega⟩
      clear hbad
      go_wp2_with fail
      go_ret2
      exact HFIN.out
theorem made_row {w2 w3 : World} {B n : Nat} (h : w3.ownsRow B 3 1 (.slice (some ⟨w2.heap.size, 0, none⟩) n n) n (madeCells (Value.int .i64 0).cells (n * 1)).toList) : w3.heap[w2.heap.size]? = some (.cells (ni (zeros n)).toArray 3 (0, 0)) := by
  obtain ⟨h0, ⟨h1, _⟩ | ⟨g, cap', cur, h1, h2, h3, h4, h5, h6, h7⟩⟩ := h
  · cases h1
  · cases h1
    rw [h3]
    have e : cur.toList = ni (zeros n) := by
      rw [List.take_of_length_le (by simp [h6])] at h7
      rw [h7, zeros_made]
    rw [← e]
theorem row_own {w : World} {g n B : Nat} {l : List Int} (h : w.heap[g]? = some (.cells (ni l).toArray 3 (0, 0))) (hl : l.length = n) (hB : B ≤ g) (hn : n ≤ 1024) : w.ownsRow B 3 1 (.slice (some ⟨g, 0, none⟩) n n) n (ni l) :=
  ⟨by simp [hl], .inr ⟨g, n, _, rfl, hB, h, Nat.le_refl _, by unfold maxLen; omega, by simp [hl], by rw [← hl, Nat.mul_one, ← ni_length l]; exact List.take_length⟩⟩
theorem zeros_length (n : Nat) : (zeros n).length = n := by simp [zeros]
theorem stt_length (ss : List Nat) (lens : List Int) (ls : Nat → List (Int × Bool)) (L k : Nat) : (stt ss lens ls L k).1.length = lens.length := by
  induction k with
  | zero => rfl
  | succ k ih => rw [stt]; simp only; rw [bump_length, ih]
end Go.Proofs.YtphdcgioeokfbaaDoor
/-
  The contract of byCount, whatever the number of symbols.
-/
namespace Go.Proofs.YtphdcgioeokfbaaDoor
open Go.RowKit Hf

theorem posTo_up (counts : List Int) (k : Nat) : ∀ p q, p < q → q < (posTo counts k).length → at0 (posTo counts k) p < at0 (posTo counts k) q := by
  have h : (posTo counts k).Pairwise (· < ·) := by
    unfold posTo
    exact List.Pairwise.filter _ List.pairwise_lt_range
  rw [List.pairwise_iff_getElem] at h
  intro p q hpq hq
  have := h p q (by omega) hq hpq
  unfold at0
  simpa [hq, show p < (posTo counts k).length by omega] using this
set_option maxRecDepth 100000 in
set_option maxHeartbeats 1000000 in
theorem byCountN_walk (w : World) (v : Value) (counts : List Int) (hv : SlV w v (ni counts)) (hl : counts.length ≤ 1024) : Calls Tryd.prog 66 #[v] w (ByPost counts w) := by
  have hmf : ∀ (fn : Fn) (first cap : Array Value) (w : World), (Instr.makeFunc fn first cap).run Tryd.prog w = .ok (.func fn first cap) w := fun _ _ _ _ => rfl
  obtain ⟨p, cap, rfl⟩ := hv.shape
  rw [ni_length] at *
  obtain ⟨l, hl0⟩ : ∃ l, l = counts.length := ⟨_, rfl⟩
  rw [← hl0] at hv hl ⊢
  have HN := Lib.hid hl0
  have HV := Lib.hid hv
  clear hl0 hv
  have HB0 : Hid (Below w.heap.size w (w.alloc (.cells #[.slice p l cap] 91))) := Lib.hid ((Below.refl _ _).alloc (Nat.le_refl _) _)
  have HBX : Hid ((w.alloc (.cells #[.slice p l cap] 91)).cell? ⟨w.heap.size, 0, none⟩ = some (.slice p l cap)) := Lib.hid (Boxed.new w 91 (.slice p l cap)).cell
  have hsz0 : (w.alloc (.cells #[.slice p l cap] 91)).heap.size = w.heap.size + 1 := by simp
  obtain ⟨i0, hi, hz0, hz1, hz2⟩ := info_parts info3
  have HI0 := Lib.hid (And.intro hi (And.intro hz0 (And.intro hz1 hz2)))
  clear hi hz0 hz1 hz2
  go_enter Tryd.func66, Tryd.ntmps66
  go_wp2_with fail
  generalize w.alloc (.cells #[.slice p l cap] 91) = w1 at *
  go_loopw [3, 4, 5, 8] (fun v3 _ _ v8 wr => ∃ k : Nat, k ≤ l ∧ v8 = .int .i64 k ∧ wr.ownsRow w1.heap.size 3 1 v3 (posTo counts k).length (nl (posTo counts k)) ∧ Below w1.heap.size w1 wr) (fun _ _ _ v8 _ => l - (intOf v8).toNat)
  case atStart => exact ⟨0, Nat.zero_le _, rfl, World.ownsRow_nil _ _ _ _, Below.refl _ _⟩
  case round =>
    obtain ⟨k, hk, rfl, hO, hB⟩ := hrel
    obtain ⟨p3, cap3, rfl⟩ := own_shape hO
    have HO := Lib.hid hO
    have HB := Lib.hid hB
    clear hO hB
    by_cases hlt : k < l
    · have hlti : (k : Int) < (l : Int) := by omega
      obtain ⟨g, o, rfl, hrow⟩ := HV.out.some (by omega)
      have hcap := HV.out.le
      have hlw := hrow.lt (by rw [ni_length, ← HN.out]; omega)
      have hc := (hrow.below (HB0.out.trans (HB.out.mono HB0.out.size)) hlw).ni k (by rw [← HN.out]; omega)
      clear hrow hlw
      have HP := Lib.hid (posTo_succ counts k)
      have hpl := posTo_le counts k
      obtain ⟨z, hz⟩ : ∃ z, z = counts.getD k 0 := ⟨_, rfl⟩
      rw [← hz] at hc HP
      clear hz
      generalize hpk : (posTo counts k).length = np at *
      have HPK := Lib.hid hpk
      clear hpk
      have hle1 : w1.heap.size ≤ wr.heap.size := HB.out.size
      by_cases hz0 : 0 < z
      · have HP2 := HP.out
        rw [if_pos hz0] at HP2
        have HP2 := Lib.hid HP2
        clear HP
        go_wp2_with (refine wpList_appK 91 3 i0 (.int .i64 0) 1 8 Tryd.underlying91 HI0.out.1 HI0.out.2.1 HI0.out.2.2.1 HI0.out.2.2.2 rfl (by decide) (by decide) rfl _ _ rfl w1.heap.size (.slice p3 np cap3) (.slice (some ⟨wr.heap.size, 0, none⟩) 1 1) np 1 _ [.int .i64 (k : Int)] rfl rfl (by intro y hy; simp at hy; subst hy; rfl) (HO.out.alloc _) (⟨rfl, .inl ⟨wr.heap.size, 0, 1, rfl, Nat.le_refl _, fun i v hi => by rw [Nat.zero_add]; exact (cell_of_row _ _ _ _ _ _ (heap_alloc_new wr _)).trans (by simpa using hi)⟩⟩) (by simp; omega) (by omega) ?_; intro v' w9 hown hgrow _; obtain ⟨p9, cap9, hv'⟩ := own_shape hown; have HOW := Lib.hid hown; have HGR := Lib.hid hgrow; clear hown hgrow; subst hv')
        refine ⟨⟨k + 1, by omega, by go_num, ?_, ((HB.out.alloc HB.out.size _).grown HGR.out (by simp; omega) (fun k e => (HO.out.lt k e).1))⟩, by simp [intOf]; omega⟩
        rw [HP2.out, nl_append, List.length_append, HPK.out]
        exact HOW.out
      · have HP2 := HP.out
        rw [if_neg hz0, List.append_nil] at HP2
        have HP2 := Lib.hid HP2
        clear HP
        go_wp2_with fail
        refine ⟨⟨k + 1, by omega, by go_num, ?_, HB.out⟩, by simp [intOf]; omega⟩
        rw [HP2.out, HPK.out]
        exact HO.out
    · have hlti : (l : Int) ≤ (k : Int) := by omega
      obtain rfl : k = l := by omega
      have hsy : isTo (fun s => counts.getD s 0) ((posTo counts k).length - 1) (posTo counts k) = syms counts := by unfold syms; rw [← HN.out]
      have HSY := Lib.hid hsy
      have hmm : (posTo counts k).length ≤ 1048576 := by have := posTo_le counts k; omega
      have hpm : ∀ s ∈ posTo counts k, s < counts.length := fun s hs => by have := posTo_mem counts k s hs; have := HN.out; omega
      have hbx := HB.out.cell (p := ⟨w.heap.size, 0, none⟩) (by show w.heap.size < _; omega)
      have hbx2 := hbx.trans HBX.out
      have hsl2 := HV.out.below (HB0.out.trans (HB.out.mono HB0.out.size)) (Nat.le_refl _)
      have hfin : ∀ (v9 : Value) (w9 : World), w9.ownsRow w1.heap.size 3 1 v9 (posTo counts k).length (nl (syms counts)) → Below w1.heap.size w1 w9 → (∀ s ∈ syms counts, s < counts.length) → ByPost counts w (.returned v9) w9 := fun v9 w9 h1 h2 h3 =>
        ⟨v9, rfl, by rw [← HN.out]; exact own_leK h1 (by omega), h3, HB0.out.trans (h2.mono (by omega))⟩
      have HFIN := Lib.hid hfin
      clear hsy hbx hfin
      rcases hO0 : HO.out with ⟨hlen0, ⟨hsn, hn0⟩ | ⟨gd, capd, cur, hsd, hgd, hrest⟩⟩
      · injection hsn with hp3 hln hcp
        subst hp3 hcp
        have he : posTo counts k = [] := List.eq_nil_of_length_eq_zero hn0
        have hs0 : syms counts = [] := by rw [← HSY.out, he]; rfl
        have HN0 := Lib.hid (And.intro hn0 hs0)
        rw [hn0]
        clear hO0 hn0 he hs0 hlen0 hln
        go_wp2_with fail
        refine (sort_nil _ _).mono ?_
        rintro e w9 ⟨rfl, rfl⟩
        go_wp2_with fail
        go_ret
        refine HFIN.out _ _ (by rw [HN0.out.1, HN0.out.2]; exact World.ownsRow_nil _ _ _ _) HB.out (by rw [HN0.out.2]; intro s hs; cases hs)
      · injection hsd with hp3 hln hcp
        subst hp3 hcp
        have HSA : Hid (SortAt wr wr gd (posTo counts k).length cap3 w.heap.size (.slice p k cap) counts (posTo counts k)) := Lib.hid ⟨own_leK HO.out (Nat.zero_le _), rfl, hbx2, hsl2, by omega, fun q m c hq hm => by
            rcases HV.out with ⟨g, o, c', h1, h2, h3⟩ | ⟨q', h1, h2⟩
            · have hlt2 := h3.lt (by injection h1 with _ h1 _; injection hq with _ hq _; omega)
              have hqg : q = ⟨g, o, none⟩ := by
                injection h1 with h1 _ _; injection hq with hq _ _
                rw [hq] at h1; injection h1
              rw [hqg]; simp only; omega
            · injection h1 with _ h1 _; injection hq with _ hq _; omega, hpm, OnlyS.refl _ _⟩
        clear hO0 hrest hbx2 hsl2
        go_wp2_with fail
        refine (sortN_walk _ _ _ _ _ _ _ _ HSA.out hmm (posTo_up counts k)).mono ?_
        rintro e w9 ⟨rfl, hS9⟩
        have HS9 := Lib.hid hS9
        clear hS9
        rw [HSY.out] at HS9
        go_wp2_with fail
        go_ret
        refine HFIN.out _ _ ?_ (HB.out.trans (HS9.out.only.below HB.out.size (fun i hi => by omega))) HS9.out.mem
        refine own_le HS9.out.own (fun i hi => ?_)
        simp [Value.ownBlock] at hi
        omega

end Go.Proofs.YtphdcgioeokfbaaDoor
