/-
  The contract of byCount, whatever the number of symbols.
-/
import Derived.Test.YtoifppfhnedahaaSymD
import Derived.Test.YtoifppfhnedahaaLengths
namespace Go.Proofs.Ytoifppfhnedahaa
open Go.RowKit Hf

theorem posTo_up (counts : List Int) (k : Nat) : ∀ p q, p < q → q < (posTo counts k).length → at0 (posTo counts k) p < at0 (posTo counts k) q := by
  have h : (posTo counts k).Pairwise (· < ·) := by
    unfold posTo
    exact List.Pairwise.filter _ List.pairwise_lt_range
  rw [List.pairwise_iff_getElem] at h
  intro p q hpq hq
  have := h p q (by omega) hq hpq
  unfold at0
  simpa [hq, show p < (posTo counts k).length by omega] using this
set_option maxRecDepth 100000 in
set_option maxHeartbeats 1000000 in
theorem byCountN_walk (w : World) (v : Value) (counts : List Int) (hv : SlV w v (ni counts)) (hl : counts.length ≤ 1024) : Calls Try.prog 28 #[v] w (ByPost counts w) := by
  have hmf : ∀ (fn : Fn) (first cap : Array Value) (w : World), (Instr.makeFunc fn first cap).run Try.prog w = .ok (.func fn first cap) w := fun _ _ _ _ => rfl
  obtain ⟨p, cap, rfl⟩ := hv.shape
  rw [ni_length] at *
  obtain ⟨l, hl0⟩ : ∃ l, l = counts.length := ⟨_, rfl⟩
  rw [← hl0] at hv hl ⊢
  have HN := Lib.hid hl0
  have HV := Lib.hid hv
  clear hl0 hv
  have HB0 : Hid (Below w.heap.size w (w.alloc (.cells #[.slice p l cap] 22))) := Lib.hid ((Below.refl _ _).alloc (Nat.le_refl _) _)
  have HBX : Hid ((w.alloc (.cells #[.slice p l cap] 22)).cell? ⟨w.heap.size, 0, none⟩ = some (.slice p l cap)) := Lib.hid (Boxed.new w 22 (.slice p l cap)).cell
  have hsz0 : (w.alloc (.cells #[.slice p l cap] 22)).heap.size = w.heap.size + 1 := by simp
  obtain ⟨i0, hi, hz0, hz1, hz2⟩ := info_parts info3
  have HI0 := Lib.hid (And.intro hi (And.intro hz0 (And.intro hz1 hz2)))
  clear hi hz0 hz1 hz2
  go_enter Try.func28, Try.ntmps28
  go_wp2_with fail
  generalize w.alloc (.cells #[.slice p l cap] 22) = w1 at *
  go_loopw [3, 4, 5, 8] (fun v3 _ _ v8 wr => ∃ k : Nat, k ≤ l ∧ v8 = .int .i64 k ∧ wr.ownsRow w1.heap.size 3 1 v3 (posTo counts k).length (nl (posTo counts k)) ∧ Below w1.heap.size w1 wr) (fun _ _ _ v8 _ => l - (intOf v8).toNat)
  case atStart => exact ⟨0, Nat.zero_le _, rfl, World.ownsRow_nil _ _ _ _, Below.refl _ _⟩
  case round =>
    obtain ⟨k, hk, rfl, hO, hB⟩ := hrel
    obtain ⟨p3, cap3, rfl⟩ := own_shape hO
    have HO := Lib.hid hO
    have HB := Lib.hid hB
    clear hO hB
    by_cases hlt : k < l
    · have hlti : (k : Int) < (l : Int) := by omega
      obtain ⟨g, o, rfl, hrow⟩ := HV.out.some (by omega)
      have hcap := HV.out.le
      have hlw := hrow.lt (by rw [ni_length, ← HN.out]; omega)
      have hc := (hrow.below (HB0.out.trans (HB.out.mono HB0.out.size)) hlw).ni k (by rw [← HN.out]; omega)
      clear hrow hlw
      have HP := Lib.hid (posTo_succ counts k)
      have hpl := posTo_le counts k
      obtain ⟨z, hz⟩ : ∃ z, z = counts.getD k 0 := ⟨_, rfl⟩
      rw [← hz] at hc HP
      clear hz
      generalize hpk : (posTo counts k).length = np at *
      have HPK := Lib.hid hpk
      clear hpk
      have hle1 : w1.heap.size ≤ wr.heap.size := HB.out.size
      by_cases hz0 : 0 < z
      · have HP2 := HP.out
        rw [if_pos hz0] at HP2
        have HP2 := Lib.hid HP2
        clear HP
        go_wp2_with (refine wpList_appK 22 3 i0 (.int .i64 0) 1 8 Try.underlying22 HI0.out.1 HI0.out.2.1 HI0.out.2.2.1 HI0.out.2.2.2 rfl (by decide) (by decide) rfl _ _ rfl w1.heap.size (.slice p3 np cap3) (.slice (some ⟨wr.heap.size, 0, none⟩) 1 1) np 1 _ [.int .i64 (k : Int)] rfl rfl (by intro y hy; simp at hy; subst hy; rfl) (HO.out.alloc _) (⟨rfl, .inl ⟨wr.heap.size, 0, 1, rfl, Nat.le_refl _, fun i v hi => by rw [Nat.zero_add]; exact (cell_of_row _ _ _ _ _ _ (heap_alloc_new wr _)).trans (by simpa using hi)⟩⟩) (by simp; omega) (by omega) ?_; intro v' w9 hown hgrow _; obtain ⟨p9, cap9, hv'⟩ := own_shape hown; have HOW := Lib.hid hown; have HGR := Lib.hid hgrow; clear hown hgrow; subst hv')
        refine ⟨⟨k + 1, by omega, by go_num, ?_, ((HB.out.alloc HB.out.size _).grown HGR.out (by simp; omega) (fun k e => (HO.out.lt k e).1))⟩, by simp [intOf]; omega⟩
        rw [HP2.out, nl_append, List.length_append, HPK.out]
        exact HOW.out
      · have HP2 := HP.out
        rw [if_neg hz0, List.append_nil] at HP2
        have HP2 := Lib.hid HP2
        clear HP
        go_wp2_with fail
        refine ⟨⟨k + 1, by omega, by go_num, ?_, HB.out⟩, by simp [intOf]; omega⟩
        rw [HP2.out, HPK.out]
        exact HO.out
    · have hlti : (l : Int) ≤ (k : Int) := by omega
      obtain rfl : k = l := by omega
      have hsy : isTo (fun s => counts.getD s 0) ((posTo counts k).length - 1) (posTo counts k) = syms counts := by unfold syms; rw [← HN.out]
      have HSY := Lib.hid hsy
      have hmm : (posTo counts k).length ≤ 1048576 := by have := posTo_le counts k; omega
      have hpm : ∀ s ∈ posTo counts k, s < counts.length := fun s hs => by have := posTo_mem counts k s hs; have := HN.out; omega
      have hbx := HB.out.cell (p := ⟨w.heap.size, 0, none⟩) (by show w.heap.size < _; omega)
      have hbx2 := hbx.trans HBX.out
      have hsl2 := HV.out.below (HB0.out.trans (HB.out.mono HB0.out.size)) (Nat.le_refl _)
      have hfin : ∀ (v9 : Value) (w9 : World), w9.ownsRow w1.heap.size 3 1 v9 (posTo counts k).length (nl (syms counts)) → Below w1.heap.size w1 w9 → (∀ s ∈ syms counts, s < counts.length) → ByPost counts w (.returned v9) w9 := fun v9 w9 h1 h2 h3 =>
        ⟨v9, rfl, by rw [← HN.out]; exact own_leK h1 (by omega), h3, HB0.out.trans (h2.mono (by omega))⟩
      have HFIN := Lib.hid hfin
      clear hsy hbx hfin
      rcases hO0 : HO.out with ⟨hlen0, ⟨hsn, hn0⟩ | ⟨gd, capd, cur, hsd, hgd, hrest⟩⟩
      · injection hsn with hp3 hln hcp
        subst hp3 hcp
        have he : posTo counts k = [] := List.eq_nil_of_length_eq_zero hn0
        have hs0 : syms counts = [] := by rw [← HSY.out, he]; rfl
        have HN0 := Lib.hid (And.intro hn0 hs0)
        rw [hn0]
        clear hO0 hn0 he hs0 hlen0 hln
        go_wp2_with fail
        refine (sort_nil _ _).mono ?_
        rintro e w9 ⟨rfl, rfl⟩
        go_wp2_with fail
        go_ret
        refine HFIN.out _ _ (by rw [HN0.out.1, HN0.out.2]; exact World.ownsRow_nil _ _ _ _) HB.out (by rw [HN0.out.2]; intro s hs; cases hs)
      · injection hsd with hp3 hln hcp
        subst hp3 hcp
        have HSA : Hid (SortAt wr wr gd (posTo counts k).length cap3 w.heap.size (.slice p k cap) counts (posTo counts k)) := Lib.hid ⟨own_leK HO.out (Nat.zero_le _), rfl, hbx2, hsl2, by omega, fun q m c hq hm => by
            rcases HV.out with ⟨g, o, c', h1, h2, h3⟩ | ⟨q', h1, h2⟩
            · have hlt2 := h3.lt (by injection h1 with _ h1 _; injection hq with _ hq _; omega)
              have hqg : q = ⟨g, o, none⟩ := by
                injection h1 with h1 _ _; injection hq with hq _ _
                rw [hq] at h1; injection h1
              rw [hqg]; simp only; omega
            · injection h1 with _ h1 _; injection hq with _ hq _; omega, hpm, OnlyS.refl _ _⟩
        clear hO0 hrest hbx2 hsl2
        go_wp2_with fail
        refine (sortN_walk _ _ _ _ _ _ _ _ HSA.out hmm (posTo_up counts k)).mono ?_
        rintro e w9 ⟨rfl, hS9⟩
        have HS9 := Lib.hid hS9
        clear hS9
        rw [HSY.out] at HS9
        go_wp2_with fail
        go_ret
        refine HFIN.out _ _ ?_ (HB.out.trans (HS9.out.only.below HB.out.size (fun i hi => by omega))) HS9.out.mem
        refine own_le HS9.out.own (fun i hi => ?_)
        simp [Value.ownBlock] at hi
        omega

end Go.Proofs.Ytoifppfhnedahaa
