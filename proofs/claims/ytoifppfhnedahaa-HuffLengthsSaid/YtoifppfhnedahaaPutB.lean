/-
  The document's put, walked.
-/
import Derived.Test.YtoifppfhnedahaaPutA
namespace Go.Proofs.Ytoifppfhnedahaa
open Go.RowKit Hf
theorem slice_fromP {w : World} {p : Option Addr} {n cap : Nat} {ps : List (Int × Value)} (h : SlP w (.slice p n cap) ps) (hn : ps.length = n) (k : Nat) (hk : k ≤ n) :
    ∃ p' cap', (∀ w', (Instr.sliceAt 68 (.slice p n cap) (some (.int .i64 (k : Int))) none none).run Try.prog w' = .ok (.slice p' (n - k) cap') w') ∧ SlK 2 w (.slice p' (n - k) cap') (n - k) (np (ps.drop k)) := by
  have hl : (np (ps.drop k)).length = (n - k) * 2 := by rw [np_length, List.length_drop, hn]
  obtain ⟨hl0, ⟨g, o, cap', h, h2, hB⟩ | ⟨p', h, h3⟩⟩ := h
  · cases h
    have h1 : (0 : Int) ≤ (k : Int) := by omega
    have h1' : (k : Int) ≤ (ps.length : Int) := by omega
    have h1'' : (ps.length : Int) ≤ (cap : Int) := by omega
    by_cases hck : cap = k
    · have hkl : ps.length = k := by omega
      refine ⟨some ⟨g, o, none⟩, 0, fun w' => ?_, ⟨hl, .inr ⟨_, by rw [show ps.length - k = 0 by omega], by omega⟩⟩⟩
      subst hck
      rw [hkl, Nat.sub_self]
      go_simp
    · refine ⟨some ⟨g, o + k * 2, none⟩, cap - k, fun w' => ?_, ⟨hl, .inl ⟨g, o + k * 2, cap - k, rfl, by omega, by rw [← np_drop]; exact hB.drop _⟩⟩⟩
      go_simp
  · have h0 : n = 0 ∧ cap = 0 ∧ p' = p := by cases h; exact ⟨rfl, rfl, rfl⟩
    obtain ⟨rfl, rfl, rfl⟩ := h0
    obtain rfl : k = 0 := by omega
    refine ⟨p', 0, fun w' => ?_, ⟨hl, .inr ⟨_, rfl, rfl⟩⟩⟩
    show (Instr.sliceAt 68 (.slice p' 0 0) (some (.int .i64 0)) none none).run Try.prog w' = .ok (.slice p' 0 0) w'
    cases p' with
    | none => kernel_rfl
    | some a => kernel_rfl
theorem SlK_packD (w : World) (c : Int) (sv : Value) : SlK 2 (w.alloc (.cells #[.int .i64 c, sv] 71)) (.slice (some ⟨w.heap.size, 0, none⟩) 1 1) 1 (np [(c, sv)]) := by
  refine ⟨rfl, .inl ⟨w.heap.size, 0, 1, rfl, Nat.le_refl _, fun i v hi => ?_⟩⟩
  rw [Nat.zero_add]
  exact (cell_of_row _ _ _ _ _ _ (heap_alloc_new w _)).trans (by simpa [np] using hi)
theorem SlK.belowG {k m : Nat} {w w' : World} {v : Value} {vs : List Value} (h : SlK k w v m vs) {B : Nat} (hb : Below B w w') (hB : w.heap.size ≤ B) : SlK k w' v m vs := by
  obtain ⟨hl, ⟨g, o, cap, h, h2, h3⟩ | h⟩ := h
  · refine ⟨hl, .inl ⟨g, o, cap, h, h2, fun i v hi => ?_⟩⟩
    have h0 := h3.lt (by have := (List.getElem?_eq_some_iff.1 hi).1; omega)
    rw [hb.cell (p := ⟨g, o + i, none⟩) (by show g < B; omega)]; exact h3 i v hi
  · exact ⟨hl, .inr h⟩
def PutPost (ps : List (Int × Value)) (c : Int) (sv : Value) (w : World) (e : Ending) (w' : World) : Prop :=
  ∃ v', e = .returned v' ∧ w'.ownsRow w.heap.size 71 2 v' (ps.length + 1) (np (putV ps (c, sv))) ∧ Below w.heap.size w w'
set_option maxRecDepth 100000 in
set_option maxHeartbeats 4000000 in
theorem put_walk (w : World) (v : Value) (ps : List (Int × Value)) (c : Int) (sp : Option Addr) (sn sc : Nat) (hv : SlP w v ps) (ho : ones ps) (hl : ps.length ≤ 4096) :
    Calls Try.prog 31 #[v, .agg #[.int .i64 c, .slice sp sn sc]] w (PutPost ps c (.slice sp sn sc) w) := by
  obtain ⟨i0, hi, hz0, hz1, hz2⟩ := info_parts info71
  have HI0 := Lib.hid (And.intro hi (And.intro hz0 (And.intro hz1 hz2)))
  clear hi hz0 hz1 hz2
  obtain ⟨p, cap, rfl⟩ := hv.shape
  obtain ⟨n, hn⟩ : ∃ n, n = ps.length := ⟨_, rfl⟩
  rw [← hn] at hv hl ⊢
  have HV := Lib.hid hv
  have HO := Lib.hid ho
  have HN := Lib.hid hn
  clear hv ho hn
  have HB0 : Hid (Below w.heap.size w (w.alloc (.cells #[.int .i64 c, .slice sp sn sc] 71))) := Lib.hid ((Below.refl _ _).alloc (Nat.le_refl _) _)
  have HR0 : Hid ((w.alloc (.cells #[.int .i64 c, .slice sp sn sc] 71)).heap[w.heap.size]? = some (.cells #[.int .i64 c, .slice sp sn sc] 71 (0, 0))) := Lib.hid (heap_alloc_new _ _)
  have HS0 : Hid ((w.alloc (.cells #[.int .i64 c, .slice sp sn sc] 71)).heap.size = w.heap.size + 1) := Lib.hid (by simp)
  go_enter Try.func31, Try.ntmps31
  go_wp2_with fail
  generalize hgb : w.heap.size = gb at *
  have HGB := Lib.hid hgb
  generalize World.alloc w _ = w1 at *
  clear hgb
  go_loopw [5] (fun v5 wy => ∃ k : Nat, k ≤ n ∧ v5 = .int .i64 k ∧ (∀ i e, i < k → ps[i]? = some e → e.1 ≤ c) ∧ Below w1.heap.size w1 wy) (fun v5 _ => n - (intOf v5).toNat)
  case atStart => exact ⟨0, Nat.zero_le _, rfl, fun i e h => by omega, Below.refl _ _⟩
  case round =>
    obtain ⟨k, hk, rfl, hall, hB⟩ := hrel
    have HA := Lib.hid hall
    have HBL := Lib.hid hB
    have HBG : Hid (Below gb w wr) := Lib.hid (HB0.out.trans (hB.mono (by rw [HS0.out]; omega)))
    have hb0 : wr.cell? ⟨gb, 0, none⟩ = some (.int .i64 c) := (hB.cell (p := ⟨gb, 0, none⟩) (by show gb < w1.heap.size; rw [HS0.out]; omega)).trans (cell_of_row _ _ _ _ _ _ HR0.out)
    have hb1 : wr.cell? ⟨gb, 1, none⟩ = some (.slice sp sn sc) := (hB.cell (p := ⟨gb, 1, none⟩) (by show gb < w1.heap.size; rw [HS0.out]; omega)).trans (cell_of_row _ _ _ _ _ _ HR0.out)
    clear hall hB
    by_cases hlt : k < n
    · have hlti : (k : Int) < (n : Int) := by omega
      obtain ⟨g, o, rfl, hcap, hcell⟩ := (HV.out.below HBG.out (by rw [HGB.out]; exact Nat.le_refl _)).at (by omega)
      have hkp : k < ps.length := by rw [← HN.out]; exact hlt
      have hc := (hcell k _ (List.getElem?_eq_getElem hkp)).1
      clear hcell
      obtain ⟨z, hz⟩ : ∃ z, z = (ps[k]).1 := ⟨_, rfl⟩
      rw [← hz] at hc
      have HZ : Hid (∀ e, ps[k]? = some e → e.1 = z) := Lib.hid fun e he => by
        rw [List.getElem?_eq_getElem hkp] at he; injection he with he; rw [hz, he]
      clear hz hkp
      by_cases hzc : z ≤ c
      · go_wp2_with fail
        go_quiet (fail)
        have HBL := Lib.hid (below_drewN HBL.out nq)
        clear hc hb0 hb1
        generalize wr.drewN nq = wx at *
        go_wp2_with fail
        refine ⟨⟨k + 1, by omega, by go_num, fun i e hi he => ?_, HBL.out⟩, by simp only [intOf]; omega⟩
        rcases Nat.lt_or_ge i k with h | h
        · exact HA.out i e h he
        · obtain rfl : i = k := by omega
          rw [HZ.out e he]; exact hzc
      · have hzd : decide (z ≤ c) = false := decide_eq_false hzc
        go_wp2_with fail
        go_quiet (fail)
        have HBL := Lib.hid (below_drewN HBL.out nq)
        clear hc hb0 hb1 hzd
        generalize wr.drewN nq = wx at *
        have HTD : Hid (ps.takeWhile (fun e => decide (e.1 ≤ c)) = ps.take k ∧ ps.dropWhile (fun e => decide (e.1 ≤ c)) = ps.drop k) := Lib.hid (tw_is c ps k (by rw [← HN.out]; exact hk) HA.out (fun e he => by rw [HZ.out e he]; omega))
        obtain ⟨p, hp⟩ : ∃ p : Option Addr, p = some ⟨g, o, none⟩ := ⟨_, rfl⟩
        rw [← hp] at HV ⊢
        clear hp
        have HBX : Hid (Below gb w wx) := Lib.hid (HB0.out.trans (HBL.out.mono (by rw [HS0.out]; omega)))
        have GBS : Hid (∀ W, Below gb w W → gb ≤ W.heap.size) := Lib.hid (fun W h => by have h := h.size; rw [HGB.out] at h; exact h)
        have HSZ : Hid (gb ≤ wx.heap.size) := Lib.hid (by have h := HBX.out.size; rw [HGB.out] at h; exact h)
        have HS1 : Hid (SlK 2 wx (.slice p k cap) k (np (ps.take k))) := Lib.hid ((HV.out.take HN.out.symm k hk).belowG HBX.out (Nat.le_of_eq HGB.out))
        have HN1 : Hid (∀ v ∈ np (ps.take k), v.oneCell' = true) := Lib.hid (np_one fun e he => HO.out e (List.mem_of_mem_take he))
        have HN2 : Hid (∀ v ∈ np [(c, Value.slice sp sn sc)], v.oneCell' = true) := Lib.hid (np_one fun e he => by simp at he; subst he; rfl)
        have HN3 : Hid (∀ v ∈ np (ps.drop k), v.oneCell' = true) := Lib.hid (np_one fun e he => HO.out e (List.mem_of_mem_drop he))
        have hto := slice_toP HV.out HN.out.symm k hk
        obtain ⟨p', cap', hfrom, hsk⟩ := slice_fromP HV.out HN.out.symm k hk
        have HSK := Lib.hid hsk
        have hba1 : ∀ wa : World, wx.grownBy wa (Value.slice none 0 0).ownBlock → wa.cell? ⟨gb, 0, none⟩ = some (.int .i64 c) ∧ wa.cell? ⟨gb, 1, none⟩ = some (.slice sp sn sc) := fun wa hg => by
          have hr : wa.heap[gb]? = some (.cells #[.int .i64 c, .slice sp sn sc] 71 (0, 0)) := by
            rw [hg.block gb (Nat.lt_of_lt_of_le (by rw [HS0.out]; omega) HBL.out.size) (fun e => by cases e), HBL.out.block gb (by rw [HS0.out]; omega)]; exact HR0.out
          exact ⟨cell_of_row _ _ _ _ _ _ hr, cell_of_row _ _ _ _ _ _ hr⟩
        have HFIN : Hid (∀ (v9 : Value) (w9 : World), w9.ownsRow gb 71 2 v9 (k + 1 + (n - k)) (np (ps.take k) ++ np [(c, Value.slice sp sn sc)] ++ np (ps.drop k)) → Below gb w w9 → PutPost ps c (.slice sp sn sc) w (.returned v9) w9) := Lib.hid (fun v9 w9 h1 h2 => ⟨v9, rfl, by
          have e : putV ps (c, .slice sp sn sc) = ps.take k ++ (c, .slice sp sn sc) :: ps.drop k := by unfold putV; rw [HTD.out.1, HTD.out.2]
          rw [e, HGB.out, np_append, np_cons]
          have e2 : np (ps.take k) ++ np [(c, Value.slice sp sn sc)] ++ np (ps.drop k) = np (ps.take k) ++ .int .i64 c :: .slice sp sn sc :: np (ps.drop k) := by rw [List.append_assoc]; rfl
          rw [e2, show k + 1 + (n - k) = ps.length + 1 by have := HN.out; omega] at h1
          exact h1, by rw [HGB.out]; exact h2⟩)
        clear hsk
        go_wp2_with (first
                  | (at_builtin; refine wpList_appK 68 71 i0 (.agg #[.int .i64 0, .slice none 0 0]) 2 32 Try.underlying68 HI0.out.1 HI0.out.2.1 HI0.out.2.2.1 HI0.out.2.2.2 rfl (by decide) (by decide) rfl _ _ rfl gb (.slice none 0 0) (.slice p k cap) 0 k [] (np (ps.take k)) rfl rfl HN1.out (World.ownsRow_nil _ _ _ _) HS1.out HSZ.out (by omega) ?_; intro va wa hown hgrow _; rw [Nat.zero_add, List.nil_append] at hown; have hba : Below gb w wa := HBX.out.grown hgrow HSZ.out (fun k e => by cases e); have hb0 := (hba1 wa hgrow).1; have hb1 := (hba1 wa hgrow).2; obtain ⟨pa, ca, hv'⟩ := own_shape hown; have HOA := Lib.hid hown; have HBA := Lib.hid hba; clear hown hgrow hba hba1; subst hv')
                  | (at_builtin; refine wpList_appK 68 71 i0 (.agg #[.int .i64 0, .slice none 0 0]) 2 32 Try.underlying68 HI0.out.1 HI0.out.2.1 HI0.out.2.2.1 HI0.out.2.2.2 rfl (by decide) (by decide) rfl _ _ rfl gb (.slice pa k ca) (.slice (some ⟨wa.heap.size, 0, none⟩) 1 1) k 1 (np (ps.take k)) (np [(c, .slice sp sn sc)]) rfl rfl HN2.out (HOA.out.alloc _) (SlK_packD wa c _) (Nat.le_trans (GBS.out _ HBA.out) (by simp)) (by omega) ?_; intro vb wb hown hgrow _; have hbb : Below gb w wb := (HBA.out.alloc (GBS.out _ HBA.out) _).grown hgrow (Nat.le_trans (GBS.out _ HBA.out) (by simp)) (fun j e => (HOA.out.lt j e).1); obtain ⟨pb, cb, hv'⟩ := own_shape hown; have HOB := Lib.hid hown; have HBB := Lib.hid hbb; have HS3 := Lib.hid (HSK.out.belowG hbb (Nat.le_of_eq HGB.out)); clear hown hgrow hbb; subst hv')
                  | (at_builtin; refine wpList_appK 68 71 i0 (.agg #[.int .i64 0, .slice none 0 0]) 2 32 Try.underlying68 HI0.out.1 HI0.out.2.1 HI0.out.2.2.1 HI0.out.2.2.2 rfl (by decide) (by decide) rfl _ _ rfl gb (.slice pb (k + 1) cb) (.slice p' (n - k) cap') (k + 1) (n - k) (np (ps.take k) ++ np [(c, .slice sp sn sc)]) (np (ps.drop k)) rfl rfl HN3.out HOB.out HS3.out (GBS.out _ HBB.out) (by omega) ?_; intro vc wc hown hgrow _; have hbc : Below gb w wc := HBB.out.grown hgrow (GBS.out _ HBB.out) (fun j e => (HOB.out.lt j e).1); have HOC := Lib.hid hown; have HBC := Lib.hid hbc; clear hown hgrow hbc))
        go_ret
        exact HFIN.out _ _ HOC.out HBC.out
    · have hlti : (n : Int) ≤ (k : Int) := by omega
      have HTD : Hid (ps.takeWhile (fun e => decide (e.1 ≤ c)) = ps.take k ∧ ps.dropWhile (fun e => decide (e.1 ≤ c)) = ps.drop k) := Lib.hid (tw_is c ps k (by rw [← HN.out]; exact hk) HA.out (fun e he => by rw [List.getElem?_eq_none (by rw [← HN.out]; omega)] at he; cases he))
      go_wp2_with fail
      go_quiet (fail)
      have HBL := Lib.hid (below_drewN HBL.out nq)
      clear hb0 hb1
      generalize wr.drewN nq = wx at *
      have HBX : Hid (Below gb w wx) := Lib.hid (HB0.out.trans (HBL.out.mono (by rw [HS0.out]; omega)))
      have GBS : Hid (∀ W, Below gb w W → gb ≤ W.heap.size) := Lib.hid (fun W h => by have h := h.size; rw [HGB.out] at h; exact h)
      have HSZ : Hid (gb ≤ wx.heap.size) := Lib.hid (by have h := HBX.out.size; rw [HGB.out] at h; exact h)
      have HS1 : Hid (SlK 2 wx (.slice p k cap) k (np (ps.take k))) := Lib.hid ((HV.out.take HN.out.symm k hk).belowG HBX.out (Nat.le_of_eq HGB.out))
      have HN1 : Hid (∀ v ∈ np (ps.take k), v.oneCell' = true) := Lib.hid (np_one fun e he => HO.out e (List.mem_of_mem_take he))
      have HN2 : Hid (∀ v ∈ np [(c, Value.slice sp sn sc)], v.oneCell' = true) := Lib.hid (np_one fun e he => by simp at he; subst he; rfl)
      have HN3 : Hid (∀ v ∈ np (ps.drop k), v.oneCell' = true) := Lib.hid (np_one fun e he => HO.out e (List.mem_of_mem_drop he))
      have hto := slice_toP HV.out HN.out.symm k hk
      obtain ⟨p', cap', hfrom, hsk⟩ := slice_fromP HV.out HN.out.symm k hk
      have HSK := Lib.hid hsk
      have hba1 : ∀ wa : World, wx.grownBy wa (Value.slice none 0 0).ownBlock → wa.cell? ⟨gb, 0, none⟩ = some (.int .i64 c) ∧ wa.cell? ⟨gb, 1, none⟩ = some (.slice sp sn sc) := fun wa hg => by
        have hr : wa.heap[gb]? = some (.cells #[.int .i64 c, .slice sp sn sc] 71 (0, 0)) := by
          rw [hg.block gb (Nat.lt_of_lt_of_le (by rw [HS0.out]; omega) HBL.out.size) (fun e => by cases e), HBL.out.block gb (by rw [HS0.out]; omega)]; exact HR0.out
        exact ⟨cell_of_row _ _ _ _ _ _ hr, cell_of_row _ _ _ _ _ _ hr⟩
      have HFIN : Hid (∀ (v9 : Value) (w9 : World), w9.ownsRow gb 71 2 v9 (k + 1 + (n - k)) (np (ps.take k) ++ np [(c, Value.slice sp sn sc)] ++ np (ps.drop k)) → Below gb w w9 → PutPost ps c (.slice sp sn sc) w (.returned v9) w9) := Lib.hid (fun v9 w9 h1 h2 => ⟨v9, rfl, by
        have e : putV ps (c, .slice sp sn sc) = ps.take k ++ (c, .slice sp sn sc) :: ps.drop k := by unfold putV; rw [HTD.out.1, HTD.out.2]
        rw [e, HGB.out, np_append, np_cons]
        have e2 : np (ps.take k) ++ np [(c, Value.slice sp sn sc)] ++ np (ps.drop k) = np (ps.take k) ++ .int .i64 c :: .slice sp sn sc :: np (ps.drop k) := by rw [List.append_assoc]; rfl
        rw [e2, show k + 1 + (n - k) = ps.length + 1 by have := HN.out; omega] at h1
        exact h1, by rw [HGB.out]; exact h2⟩)
      clear hsk
      go_wp2_with (first
                | (at_builtin; refine wpList_appK 68 71 i0 (.agg #[.int .i64 0, .slice none 0 0]) 2 32 Try.underlying68 HI0.out.1 HI0.out.2.1 HI0.out.2.2.1 HI0.out.2.2.2 rfl (by decide) (by decide) rfl _ _ rfl gb (.slice none 0 0) (.slice p k cap) 0 k [] (np (ps.take k)) rfl rfl HN1.out (World.ownsRow_nil _ _ _ _) HS1.out HSZ.out (by omega) ?_; intro va wa hown hgrow _; rw [Nat.zero_add, List.nil_append] at hown; have hba : Below gb w wa := HBX.out.grown hgrow HSZ.out (fun k e => by cases e); have hb0 := (hba1 wa hgrow).1; have hb1 := (hba1 wa hgrow).2; obtain ⟨pa, ca, hv'⟩ := own_shape hown; have HOA := Lib.hid hown; have HBA := Lib.hid hba; clear hown hgrow hba hba1; subst hv')
                | (at_builtin; refine wpList_appK 68 71 i0 (.agg #[.int .i64 0, .slice none 0 0]) 2 32 Try.underlying68 HI0.out.1 HI0.out.2.1 HI0.out.2.2.1 HI0.out.2.2.2 rfl (by decide) (by decide) rfl _ _ rfl gb (.slice pa k ca) (.slice (some ⟨wa.heap.size, 0, none⟩) 1 1) k 1 (np (ps.take k)) (np [(c, .slice sp sn sc)]) rfl rfl HN2.out (HOA.out.alloc _) (SlK_packD wa c _) (Nat.le_trans (GBS.out _ HBA.out) (by simp)) (by omega) ?_; intro vb wb hown hgrow _; have hbb : Below gb w wb := (HBA.out.alloc (GBS.out _ HBA.out) _).grown hgrow (Nat.le_trans (GBS.out _ HBA.out) (by simp)) (fun j e => (HOA.out.lt j e).1); obtain ⟨pb, cb, hv'⟩ := own_shape hown; have HOB := Lib.hid hown; have HBB := Lib.hid hbb; have HS3 := Lib.hid (HSK.out.belowG hbb (Nat.le_of_eq HGB.out)); clear hown hgrow hbb; subst hv')
                | (at_builtin; refine wpList_appK 68 71 i0 (.agg #[.int .i64 0, .slice none 0 0]) 2 32 Try.underlying68 HI0.out.1 HI0.out.2.1 HI0.out.2.2.1 HI0.out.2.2.2 rfl (by decide) (by decide) rfl _ _ rfl gb (.slice pb (k + 1) cb) (.slice p' (n - k) cap') (k + 1) (n - k) (np (ps.take k) ++ np [(c, .slice sp sn sc)]) (np (ps.drop k)) rfl rfl HN3.out HOB.out HS3.out (GBS.out _ HBB.out) (by omega) ?_; intro vc wc hown hgrow _; have hbc : Below gb w wc := HBB.out.grown hgrow (GBS.out _ HBB.out) (fun j e => (HOB.out.lt j e).1); have HOC := Lib.hid hown; have HBC := Lib.hid hbc; clear hown hgrow hbc))
      go_ret
      exact HFIN.out _ _ HOC.out HBC.out
end Go.Proofs.Ytoifppfhnedahaa
