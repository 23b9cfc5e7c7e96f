/-
  The contract of the document's Codes.
-/
import Derived.Test.YtoifppfhnedahaaRefB
namespace Go.Proofs.Ytoifppfhnedahaa
open Go.RowKit Hf

/-- A code that is laid when all lengths below n are, and of length n the first i symbols. -/
def rcell (zs : List Int) (n i j : Nat) : Nat := if zs.getD j 0 < (n : Int) ∨ (zs.getD j 0 = (n : Int) ∧ j < i) then code zs j else 0
def rc (zs : List Int) (n i : Nat) : List Nat := (List.range zs.length).map (rcell zs n i)
theorem rc_length (zs : List Int) (n i : Nat) : (rc zs n i).length = zs.length := by simp [rc]
theorem rc_store (zs : List Int) (n i : Nat) (hz : zs.getD i 0 = (n : Int)) : rc zs n (i + 1) = (rc zs n i).set i (code zs i) := by
  apply List.ext_getElem (by simp [rc])
  intro j h1 h2
  rw [List.getElem_set]
  by_cases he : i = j
  · subst he
    rw [if_pos rfl]
    simp only [rc, List.getElem_map, List.getElem_range, rcell]
    rw [if_pos (.inr ⟨hz, by omega⟩)]
  · rw [if_neg he]
    simp only [rc, List.getElem_map, List.getElem_range, rcell]
    by_cases h : zs.getD j 0 < (n : Int) ∨ (zs.getD j 0 = (n : Int) ∧ j < i)
    · rw [if_pos h, if_pos (by omega)]
    · rw [if_neg h, if_neg (by omega)]
theorem rc_skip (zs : List Int) (n i : Nat) (hz : zs.getD i 0 ≠ (n : Int)) : rc zs n (i + 1) = rc zs n i := by
  unfold rc
  apply List.map_congr_left
  intro j _
  unfold rcell
  by_cases he : j = i
  · subst he
    by_cases h : zs.getD j 0 < (n : Int)
    · rw [if_pos (.inl h), if_pos (.inl h)]
    · rw [if_neg (by rintro (h1 | h1); exact h h1; exact hz h1.1), if_neg (by rintro (h1 | h1); exact h h1; exact hz h1.1)]
  · by_cases h : zs.getD j 0 < (n : Int) ∨ (zs.getD j 0 = (n : Int) ∧ j < i)
    · rw [if_pos h, if_pos (by omega)]
    · rw [if_neg h, if_neg (by omega)]
theorem rc_next (zs : List Int) (n : Nat) : rc zs (n + 1) 0 = rc zs n zs.length := by
  unfold rc
  apply List.map_congr_left
  intro j hj
  have := List.mem_range.1 hj
  unfold rcell
  by_cases h : zs.getD j 0 < ((n + 1 : Nat) : Int) ∨ (zs.getD j 0 = ((n + 1 : Nat) : Int) ∧ j < 0)
  · rw [if_pos h, if_pos (by omega)]
  · rw [if_neg h, if_neg (by omega)]
theorem rc_start (zs : List Int) : rc zs 1 0 = List.replicate zs.length 0 := by
  apply List.ext_getElem (by simp [rc])
  intro j h1 h2
  simp only [rc, List.getElem_map, List.getElem_range, List.getElem_replicate, rcell]
  split
  · unfold code; rw [if_neg (by omega)]
  · rfl
theorem rc_end (zs : List Int) (hg : good zs) : rc zs 16 0 = codes zs := by
  unfold rc codes
  apply List.map_congr_left
  intro j _
  unfold rcell
  rw [if_pos (.inl (by have := (getD_good hg j).2; omega))]
theorem nx_full (zs : List Int) (n : Nat) : nx zs zs.length n = K zs n := by unfold nx K; rw [List.take_length]
theorem nx_more (zs : List Int) (k n : Nat) (hk : k < zs.length) (hn : 0 < n) (hz : zs.getD k 0 = (n : Int)) : nx zs (k + 1) n = nx zs k n + 1 := by
  unfold nx; rw [ct_take_succ zs k hk n hn, if_pos hz]; omega
theorem nx_same (zs : List Int) (k n : Nat) (hk : k < zs.length) (hn : 0 < n) (hz : zs.getD k 0 ≠ (n : Int)) : nx zs (k + 1) n = nx zs k n := by
  unfold nx; rw [ct_take_succ zs k hk n hn, if_neg hz]; omega
theorem nx_code (zs : List Int) (k n : Nat) (hn : 0 < n) (hz : zs.getD k 0 = (n : Int)) : nx zs k n = code zs k := by
  unfold code; rw [hz, if_pos (by omega), Int.toNat_natCast]; rfl
theorem made_rowU {w2 w3 : World} {B n : Nat} (h : w3.ownsRow B 33 1 (.slice (some ⟨w2.heap.size, 0, none⟩) n n) n (madeCells (Value.int .u32 0).cells (n * 1)).toList) : w3.heap[w2.heap.size]? = some (.cells (nu (List.replicate n 0)).toArray 33 (0, 0)) := by
  obtain ⟨h0, ⟨h1, _⟩ | ⟨g, cap', cur, h1, h2, h3, h4, h5, h6, h7⟩⟩ := h
  · cases h1
  · cases h1
    rw [h3]
    have e : cur.toList = nu (List.replicate n 0) := by
      rw [List.take_of_length_le (by simp [h6])] at h7
      rw [h7, made_u32]
    rw [← e]
/-- The row under way. -/
structure RC (w wr : World) (L : List Nat) : Prop where
  row : wr.heap[w.heap.size]? = some (.cells (nu L).toArray 33 (0, 0))
  below : Below w.heap.size w wr
theorem RC.cell {w wr : World} {L : List Nat} (h : RC w wr L) {i : Nat} (hi : i < L.length) : wr.cell? ⟨w.heap.size, i, none⟩ = some (.int .u32 ((L.getD i 0 : Nat) : Int)) := by
  rw [cell_of_row _ _ _ _ _ _ h.row]; simp [nu, hi]
theorem RC.free {w wr : World} {L : List Nat} (h : RC w wr L) (i : Nat) : wr.frozen? ⟨w.heap.size, i, none⟩ = false := frozen_of_row _ _ _ _ _ h.row
theorem RC.set {w wr : World} {L : List Nat} (h : RC w wr L) (i x : Nat) : RC w (wr.setCell ⟨w.heap.size, i, none⟩ (.int .u32 (x : Int))) (L.set i x) :=
  ⟨by rw [heap_setCell_same _ _ _ _ _ _ h.row]; simp [nu, List.map_set], h.below.setCell (Nat.le_refl _) _⟩
theorem RC.own {w wr : World} {L : List Nat} {n : Nat} (h : RC w wr L) (hl : L.length = n) (hn : n ≤ 1024) : wr.ownsRow w.heap.size 33 1 (.slice (some ⟨w.heap.size, 0, none⟩) n n) n (nu L) :=
  ⟨by simp [hl], .inr ⟨w.heap.size, n, _, rfl, Nat.le_refl _, h.row, Nat.le_refl _, by unfold maxLen; omega, by simp [hl], by rw [← hl, Nat.mul_one, ← nu_length L]; exact List.take_length⟩⟩
set_option maxRecDepth 100000 in
set_option maxHeartbeats 2000000 in
theorem rCodes_walk (w : World) (v : Value) (zs : List Int) (hv : SlV w v (ni zs)) : Calls Try.prog 18 #[v] w (CodesPost zs w) := by
  have HS := Lib.hid (rState_walk w v zs hv)
  obtain ⟨p, cap, rfl⟩ := hv.shape
  rw [ni_length] at *
  obtain ⟨l, hl0⟩ : ∃ l, l = zs.length := ⟨_, rfl⟩
  rw [← hl0] at hv HS ⊢
  have HN := Lib.hid hl0
  have HV := Lib.hid hv
  clear hl0 hv
  obtain ⟨i0, hi, hz0, hz1, hz2⟩ := info_parts info33
  have HI0 := Lib.hid (And.intro hi (And.intro hz0 (And.intro hz1 hz2)))
  clear hi hz0 hz1 hz2
  go_enter Try.func18, Try.ntmps18
  go_wp2_with fail
  refine HS.out.mono ?_
  rintro e w' ⟨rfl, rfl⟩
  clear HS
  by_cases hg : good zs
  · rw [if_pos hg]
    by_cases hs : st zs = 1
    · rw [hs]
      go_wp2_with fail
      go_ret2
      exact ⟨_, by rw [if_pos hg, if_pos hs]; rfl, by rw [if_neg (by rintro ⟨_, h⟩; exact h hs), if_neg (by rintro ⟨_, h⟩; exact h hs)]; exact World.ownsRow_nil _ _ _ _, Below.refl _ _⟩
    · have HG := Lib.hid hg
      have HST := Lib.hid hs
      have hl2 : l ≤ 1024 := by rw [HN.out]; exact hg.1
      have hse : (st zs == 1) = false := beq_false_of_ne hs
      clear hs hg
      generalize st zs = s at hse ⊢
      go_wp2_with (refine wpList_make_full w' rfl _ _ 38 rfl w'.heap.size 33 i0 (.int .u32 0) 1 Try.underlying38 HI0.out.1 HI0.out.2.1 HI0.out.2.2.1 .i64 .i64 l l l rfl rfl rfl rfl (by rw [HI0.out.2.2.2]; omega) (by unfold maxLen; omega) (Nat.le_refl _) ?_; intro w3 hown hgrow; have hrow := made_rowU hown; have HR0 : Hid (RC w' w3 (rc zs 1 0)) := Lib.hid ⟨by rw [rc_start, ← HN.out]; exact hrow, (Below.refl _ _).grown hgrow (Nat.le_refl _) (fun k e => by cases e)⟩; clear hown hgrow hrow)
      go_loopw [7, 8] (fun v7 v8 wr => ∃ m : Nat, m ≤ 15 ∧ v8 = .int .i64 ((m : Int) + 1) ∧ v7 = .int .u32 ((K zs m : Nat) : Int) ∧ RC w' wr (rc zs (m + 1) 0)) (fun _ v8 _ => 17 - (intOf v8).toNat)
      case atStart => exact ⟨0, by omega, rfl, by rw [K_zero]; rfl, HR0.out⟩
      case round =>
        obtain ⟨m, hm, rfl, rfl, hR⟩ := hrel
        have HR := Lib.hid hR
        clear hR HR0
        by_cases hm1 : m < 15
        · have hmi : (m : Int) + 1 ≤ 15 := by omega
          have hK := K_lt zs m hm HG.out.1
          have HF : Hid (nx zs 0 (m + 1) = 2 * K zs m) := Lib.hid (by rw [nx_zero, F_succ])
          have HKN : Hid (nx zs zs.length (m + 1) = K zs (m + 1)) := Lib.hid (nx_full zs (m + 1))
          generalize K zs m = y at hK HF ⊢
          go_wp2_with fail
          go_loopw [7, 9] (fun v7 v9 wr => ∃ i : Nat, i ≤ l ∧ v9 = .int .i64 i ∧ v7 = .int .u32 ((nx zs i (m + 1) : Nat) : Int) ∧ RC w' wr (rc zs (m + 1) i)) (fun _ v9 _ => l - (intOf v9).toNat)
          case atStart => exact ⟨0, Nat.zero_le _, rfl, by rw [HF.out]; go_num, HR.out⟩
          case round =>
            obtain ⟨i, hi, rfl, rfl, hR⟩ := hrel
            have HR := Lib.hid hR
            clear hR
            by_cases hlt : i < l
            · have hlti : (i : Int) < (l : Int) := by omega
              obtain ⟨g, o, rfl, hrow⟩ := (HV.out.below HR.out.below (Nat.le_refl _)).some (by omega)
              have hcap := HV.out.le
              have hiz : i < zs.length := by rw [← HN.out]; exact hlt
              have hc := hrow.ni i hiz
              have hx1 := nx_lt zs HG.out.1 i (m + 1) (by omega)
              have HA := Lib.hid (nx_more zs i (m + 1) hiz (by omega))
              have HB := Lib.hid (nx_same zs i (m + 1) hiz (by omega))
              have HC := Lib.hid (nx_code zs i (m + 1) (by omega))
              have HSt := Lib.hid (rc_store zs (m + 1) i)
              have HSk := Lib.hid (rc_skip zs (m + 1) i)
              have hcell := HR.out.cell (i := i) (by rw [rc_length]; exact hiz)
              have hfree := HR.out.free i
              generalize (rc zs (m + 1) i).getD i 0 = old at hcell
              generalize zs.getD i 0 = z at hc HA HB HC HSt HSk
              clear hrow
              obtain ⟨x, hx⟩ : ∃ x, x = nx zs i (m + 1) := ⟨_, rfl⟩
              rw [← hx] at hx1 HA HB HC ⊢
              clear hx
              by_cases hz : z = ((m + 1 : Nat) : Int)
              · have hzb : (z == (m : Int) + 1) = true := by rw [hz]; exact beq_self_eq_true _
                have HR2 := Lib.hid (HR.out.set i x)
                rw [HC.out hz, ← HSt.out hz] at HR2
                rw [← HC.out hz] at HR2
                have HA := Lib.hid (HA.out hz)
                clear HR HC HSt HSk HB hz
                go_wp2_with fail
                exact ⟨⟨i + 1, by omega, by go_num, by rw [HA.out]; go_num, HR2.out⟩, by simp [intOf]; omega⟩
              · have hzb : (z == (m : Int) + 1) = false := beq_false_of_ne (by omega)
                have HB := Lib.hid (HB.out hz)
                have HR2 := HR.out
                rw [← HSk.out hz] at HR2
                have HR2 := Lib.hid HR2
                clear HR HC HSt HSk HA hz
                go_wp2_with fail
                exact ⟨⟨i + 1, by omega, by go_num, by rw [HB.out], HR2.out⟩, by simp [intOf]; omega⟩
            · have hlti : (l : Int) ≤ (i : Int) := by omega
              obtain rfl : i = l := by omega
              have hxx : nx zs i (m + 1) = K zs (m + 1) := by rw [HN.out]; exact HKN.out
              rw [hxx]
              have HR2 := HR.out
              have e : rc zs (m + 1) i = rc zs (m + 1 + 1) 0 := by rw [rc_next, ← HN.out]
              rw [e] at HR2
              have HR2 := Lib.hid HR2
              clear HR e hxx HKN
              go_wp2_with fail
              exact ⟨⟨m + 1, by omega, by go_num, rfl, HR2.out⟩, by simp [intOf]; omega⟩
        · have hmi : (15 : Int) < (m : Int) + 1 := by omega
          obtain rfl : m = 15 := by omega
          have HR2 := HR.out
          rw [show rc zs (15 + 1) 0 = codes zs from rc_end zs HG.out] at HR2
          have HR2 := Lib.hid HR2
          clear HR
          generalize K zs 15 = y at *
          go_wp2_with fail
          go_ret2
          refine ⟨_, by rw [if_pos HG.out, if_neg HST.out]; rfl, ?_, HR2.out.below⟩
          rw [if_pos ⟨HG.out, HST.out⟩, if_pos ⟨HG.out, HST.out⟩, ← HN.out]
          exact HR2.out.own (by rw [codes_length, ← HN.out]) hl2
  · rw [if_neg hg]
    go_wp2_with fail
    go_ret2
    exact ⟨_, by rw [if_neg hg]; rfl, by rw [if_neg (fun h => hg h.1), if_neg (fun h => hg h.1)]; exact World.ownsRow_nil _ _ _ _, Below.refl _ _⟩
end Go.Proofs.Ytoifppfhnedahaa
