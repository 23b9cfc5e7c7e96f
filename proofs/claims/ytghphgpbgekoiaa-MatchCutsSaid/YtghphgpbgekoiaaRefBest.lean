/-
  The document's Best.
-/
import Derived.Test.YtghphgpbgekoiaaBestOf
namespace Go.Proofs.Ytghphgpbgekoiaa
open Go.RowKit
theorem info35s : (Try.prog.info? 35).map (·.size) = some 3 := by kernel_rfl
/-- What the document's Best has under way: the answer's block, and what is found. -/
structure Fr (w wr : World) (f : Nat × Nat) : Prop where
  below : Below w.heap.size w wr
  ans : wr.heap[w.heap.size]? = some (.cells #[.int .i64 0, .int .i64 0, .int .u8 0] 35 (0, 0))
  found : wr.heap[w.heap.size + 1]? = some (.cells (stc f) 35 (0, 0))
theorem Fr.later {w wr wx : World} {f : Nat × Nat} (h : Fr w wr f) (hb : Below wr.heap.size wr wx) : Fr w wx f :=
  ⟨h.below.trans (hb.mono h.below.size), (hb.block _ (Array.getElem?_eq_some_iff.1 h.ans).1).trans h.ans, (hb.block _ (Array.getElem?_eq_some_iff.1 h.found).1).trans h.found⟩
theorem Fr.drew {w wr : World} {f : Nat × Nat} (h : Fr w wr f) (n : Nat) : Fr w (wr.drewN n) f := h.later (below_drewN (Below.refl _ _) n)
theorem Fr.put {w wr : World} {f : Nat × Nat} (h : Fr w wr f) (f2 : Nat × Nat) : Fr w (((wr.setCell ⟨w.heap.size + 1, 0, none⟩ (.int .i64 (f2.1 : Int))).setCell ⟨w.heap.size + 1, 1, none⟩ (.int .i64 (f2.2 : Int))).setCell ⟨w.heap.size + 1, 2, none⟩ (.int .u8 0)) f2 :=
  ⟨below3 h.below (Nat.le_succ _) _ _ _, (other3 (by omega) _ _ _).trans h.ans, set3 h.found⟩
def RB (k t tr : Nat) : Prop := t ≤ k ∧ tr ≤ t
/-- What is still to be found tells the best one. -/
def RVal (b : List UInt8) (k n : Nat) (d : Int) (D t tr : Nat) (f : Nat × Nat) : Prop := (k + 3 ≤ n → Mt.rest b k (d - (tr : Int)).toNat t f = Mt.best b k D) ∧ (¬ k + 3 ≤ n → f = (0, 0))
set_option maxRecDepth 100000 in
set_option maxHeartbeats 8000000 in
theorem rBest_walk (w : World) (v : Value) (b : List UInt8) (k : Nat) (d : Int) (hv : SlV w v (bl b)) (hk : k ≤ b.length) (hb : b.length ≤ 32768) :
    Calls Try.prog 11 #[v, .int .i64 (k : Int), .int .i64 d] w fun e w' => e = .returned (.tuple #[stv (Mt.best b k d.toNat), .bool (decide (0 < (Mt.best b k d.toNat).1))]) ∧ Below w.heap.size w w' := by
  obtain ⟨p, cap, rfl⟩ := hv.shape
  rw [bl_length] at *
  obtain ⟨n, hn⟩ : ∃ n, n = b.length := ⟨_, rfl⟩
  rw [← hn] at hv hk hb ⊢
  obtain ⟨D, hD⟩ : ∃ D, D = d.toNat := ⟨_, rfl⟩
  rw [← hD]
  have HN := Lib.hid hn
  have HV := Lib.hid hv
  have HD := Lib.hid hD
  have HNO : Hid (¬ k + 3 ≤ n → Mt.best b k D = (0, 0)) := Lib.hid (fun h => by unfold Mt.best; rw [if_neg (by rw [← hn]; exact h)])
  have HYE : Hid (k + 3 ≤ n → Mt.rest b k D 0 (0, 0) = Mt.best b k D) := Lib.hid (fun h => (Mt.rest_best b k D (by rw [← hn]; exact h)).symm)
  clear hv hn hD
  go_enter Try.func11, Try.ntmps11
  go_wp2_with fail
  have HF0 : Hid (Fr w ((w.alloc (Obj.cells #[.int .i64 0, .int .i64 0, .int .u8 0] 35)).alloc (Obj.cells #[.int .i64 0, .int .i64 0, .int .u8 0] 35)) (0, 0)) := Lib.hid ⟨((Below.refl _ _).alloc (Nat.le_refl _) _).alloc (by simp) _, by
      rw [heap_alloc_old _ _ (by simp)]; exact heap_alloc_new w _, by
      have := heap_alloc_new (w.alloc (Obj.cells #[.int .i64 0, .int .i64 0, .int .u8 0] 35)) (Obj.cells #[.int .i64 0, .int .i64 0, .int .u8 0] 35)
      rw [World.size_alloc] at this
      exact this⟩
  generalize ((w.alloc (Obj.cells #[.int .i64 0, .int .i64 0, .int .u8 0] 35)).alloc (Obj.cells #[.int .i64 0, .int .i64 0, .int .u8 0] 35)) = w2 at *
  go_loopw [9, 10] (fun v9 v10 wr => ∃ (t tr f1 f2 : Nat), RB k t tr ∧ v10 = .int .i64 ((t : Int) + 1) ∧ v9 = .int .i64 (tr : Int) ∧ RVal b k n d D t tr (f1, f2) ∧ Fr w wr (f1, f2)) (fun _ v10 _ => k + 2 - (intOf v10).toNat)
  case atStart => exact ⟨0, 0, 0, 0, ⟨Nat.zero_le _, Nat.le_refl _⟩, rfl, rfl, ⟨fun h => by rw [← HYE.out h, HD.out]; simp, fun _ => rfl⟩, HF0.out⟩
  case round =>
    obtain ⟨t, tr, f1, f2, ⟨ht, htr⟩, rfl, rfl, hva, hF⟩ := hrel
    have HF := Lib.hid hF
    have HVA := Lib.hid hva
    obtain ⟨a0, a1, a2, af0, af1, af2⟩ := row3 hF.ans
    obtain ⟨c0, c1, c2, cf0, cf1, cf2⟩ := row3 hF.found
    have c0 : wr.cell? ⟨w.heap.size + 1, 0, none⟩ = some (.int .i64 (f1 : Int)) := c0
    have c1 : wr.cell? ⟨w.heap.size + 1, 1, none⟩ = some (.int .i64 (f2 : Int)) := c1
    clear hF hva HF0 HYE
    by_cases htk : t < k
    · have htki : (t : Int) + 1 ≤ (k : Int) := by omega
      have ht32 : (t : Int) + 1 ≤ 32768 := by omega
      by_cases hk3 : k + 3 ≤ n
      · have hk3i : (k : Int) + 3 ≤ (n : Int) := by omega
        by_cases htd : (tr : Int) < d
        · have HTT : Hid ((d - (tr : Int)).toNat = (d - ((tr + 1 : Nat) : Int)).toNat + 1) := Lib.hid (by omega)
          have HSTP := Lib.hid (Mt.rest_step b k (d - ((tr + 1 : Nat) : Int)).toNat t (f1, f2) (by rw [← HN.out]; exact hk3) htk)
          go_wp2_with fail
          go_loopw [11] (fun v11 wx => ∃ i : Nat, i ≤ Mt.run b (k - (t + 1)) k (Mt.lim b k) ∧ v11 = .int .i64 i ∧ ∃ j, wx = wr.drewN j) (fun v11 _ => 300 - (intOf v11).toNat)
          case atStart => exact ⟨0, Nat.zero_le _, rfl, 0, rfl⟩
          case round =>
            obtain ⟨i, hi, rfl, ii, rfl⟩ := hrel
            have hrm := Mt.run_le b (Mt.lim b k) (k - (t + 1)) k
            have hlm : Mt.lim b k = min 258 (n - k) := by unfold Mt.lim; rw [← HN.out]
            have hvr := HV.out.below HF.out.below (Nat.le_refl _)
            obtain ⟨g, o, rfl, hrow⟩ := hvr.some (by omega)
            have hcap := hvr.le
            have ht1 : ((k : Int) - ((t : Int) + 1) + (i : Int)).toNat = k - (t + 1) + i := by omega
            have ht2 : ((k : Int) + (i : Int)).toNat = k + i := by omega
            have hw1 : IntKind.i64.wrap ((k : Int) + (i : Int)) = (k : Int) + (i : Int) := IntWalk.i64_in _ (by omega)
            have hw2 : IntKind.i64.wrap ((k : Int) - ((t : Int) + 1)) = (k : Int) - ((t : Int) + 1) := IntWalk.i64_in _ (by omega)
            have hw3 : IntKind.i64.wrap ((k : Int) - ((t : Int) + 1) + (i : Int)) = (k : Int) - ((t : Int) + 1) + (i : Int) := IntWalk.i64_in _ (by omega)
            have hx1 : 0 ≤ (k : Int) + (i : Int) := by omega
            have hx2 : 0 ≤ (k : Int) - ((t : Int) + 1) + (i : Int) := by omega
            clear hvr
            by_cases hir : i < Mt.run b (k - (t + 1)) k (Mt.lim b k)
            · have hy1 : (k : Int) + (i : Int) < (n : Int) := by omega
              have hy2 : (k : Int) - ((t : Int) + 1) + (i : Int) < (n : Int) := by omega
              have hy3 : (i : Int) < 258 := by omega
              have hck := hrow.bl (k + i) (by rw [← HN.out]; omega)
              have hcq := hrow.bl (k - (t + 1) + i) (by rw [← HN.out]; omega)
              have hbe : (bi (Mt.byt b (k - (t + 1) + i)) == bi (Mt.byt b (k + i))) = true := by rw [Mt.run_eq b _ _ _ i hir]; simp
              clear hrow
              go_wp2_with fail
              go_quiet (fail)
              go_wp2_with fail
              refine ⟨⟨i + 1, hir, ?_, _, rfl⟩, ?_⟩
              · go_num
              · simp only [intOf]; omega
            · have HRI : Hid (Mt.run b (k - (t + 1)) k (Mt.lim b k) = i) := Lib.hid (by omega)
              by_cases hi258 : i < 258
              · have hy3 : (i : Int) < 258 := by omega
                by_cases hkn2 : k + i < n
                · have hy1 : (k : Int) + (i : Int) < (n : Int) := by omega
                  have hy2 : (k : Int) - ((t : Int) + 1) + (i : Int) < (n : Int) := by omega
                  have hck := hrow.bl (k + i) (by rw [← HN.out]; omega)
                  have hcq := hrow.bl (k - (t + 1) + i) (by rw [← HN.out]; omega)
                  have hbe : (bi (Mt.byt b (k - (t + 1) + i)) == bi (Mt.byt b (k + i))) = false := by
                    have h9 := Mt.run_ne b (Mt.lim b k) (k - (t + 1)) k (by rw [HRI.out, hlm]; omega)
                    rw [HRI.out] at h9
                    exact beq_eq_false_iff_ne.2 (fun e => h9 (bi_inj.1 e))
                  clear hrow
                  go_wp2_with fail
                  go_quiet (fail)
                  have HFY := Lib.hid (HF.out.drew (ii + nq))
                  clear hi hir hrm hlm ht1 ht2 hw1 hw2 hw3 hx1 hx2
                  by_cases hr3 : i < 3
                  · have hrd : decide ((i : Int) < 3) = true := decide_eq_true (by omega)
                    have hrd2 : decide (i < 3) = true := decide_eq_true hr3
                    have HNX : Hid (Mt.rest b k (d - (tr : Int)).toNat (t + 1) (f1, f2) = Mt.best b k D) := Lib.hid (by rw [← HVA.out.1 hk3, HTT.out, HSTP.out, if_pos (by rw [HRI.out]; exact hr3)])
                    have HFX := Lib.hid HFY.out
                    go_wp2_with fail
                    refine ⟨⟨t + 1, tr, f1, f2, ⟨by omega, by omega⟩, ?_, ?_, ⟨fun _ => HNX.out, fun h => absurd hk3 h⟩, HFX.out⟩, ?_⟩
                    · go_num
                    · rfl
                    · simp only [intOf]; omega
                  · have hr3i : (3 : Int) ≤ (i : Int) := by omega
                    have hrd : decide ((i : Int) < 3) = false := decide_eq_false (by omega)
                    have hrd2 : decide (i < 3) = false := decide_eq_false hr3
                    by_cases hgt : f1 < i
                    · have hgd : decide ((f1 : Int) < (i : Int)) = true := decide_eq_true (by omega)
                      have hgd2 : decide (f1 < i) = true := decide_eq_true hgt
                      have HNX : Hid (Mt.rest b k (d - ((tr + 1 : Nat) : Int)).toNat (t + 1) (i, t + 1) = Mt.best b k D) := Lib.hid (by rw [← HVA.out.1 hk3, HTT.out, HSTP.out, if_neg (by rw [HRI.out]; exact hr3), HRI.out, if_pos hgt])
                      obtain ⟨q0, q1, q2, qf0, qf1, qf2⟩ := row3 HFY.out.found
                      have q0 : _ = some (Value.int .i64 (f1 : Int)) := q0
                      have hFX := HFY.out.put (i, t + 1)
                      simp only at hFX
                      rw [show ((t + 1 : Nat) : Int) = (t : Int) + 1 by omega] at hFX
                      have HFX := Lib.hid hFX
                      clear hFX
                      go_wp2_with fail
                      refine ⟨⟨t + 1, tr + 1, i, t + 1, ⟨by omega, by omega⟩, ?_, ?_, ⟨fun _ => HNX.out, fun h => absurd hk3 h⟩, HFX.out⟩, ?_⟩
                      · go_num
                      · go_num
                      · simp only [intOf]; omega
                    · have hgd : decide ((f1 : Int) < (i : Int)) = false := decide_eq_false (by omega)
                      have hgd2 : decide (f1 < i) = false := decide_eq_false hgt
                      have HNX : Hid (Mt.rest b k (d - ((tr + 1 : Nat) : Int)).toNat (t + 1) (f1, f2) = Mt.best b k D) := Lib.hid (by rw [← HVA.out.1 hk3, HTT.out, HSTP.out, if_neg (by rw [HRI.out]; exact hr3), HRI.out, if_neg hgt])
                      have HFX := Lib.hid HFY.out
                      go_wp2_with fail
                      refine ⟨⟨t + 1, tr + 1, f1, f2, ⟨by omega, by omega⟩, ?_, ?_, ⟨fun _ => HNX.out, fun h => absurd hk3 h⟩, HFX.out⟩, ?_⟩
                      · go_num
                      · go_num
                      · simp only [intOf]; omega
                · have hy1 : decide ((k : Int) + (i : Int) < (n : Int)) = false := decide_eq_false (by omega)
                  have hy4 : decide (k + i < n) = false := decide_eq_false (by omega)
                  clear hrow
                  go_wp2_with fail
                  go_quiet (fail)
                  have HFY := Lib.hid (HF.out.drew (ii + nq))
                  clear hi hir hrm hlm ht1 ht2 hw1 hw2 hw3 hx1 hx2
                  by_cases hr3 : i < 3
                  · have hrd : decide ((i : Int) < 3) = true := decide_eq_true (by omega)
                    have hrd2 : decide (i < 3) = true := decide_eq_true hr3
                    have HNX : Hid (Mt.rest b k (d - (tr : Int)).toNat (t + 1) (f1, f2) = Mt.best b k D) := Lib.hid (by rw [← HVA.out.1 hk3, HTT.out, HSTP.out, if_pos (by rw [HRI.out]; exact hr3)])
                    have HFX := Lib.hid HFY.out
                    go_wp2_with fail
                    refine ⟨⟨t + 1, tr, f1, f2, ⟨by omega, by omega⟩, ?_, ?_, ⟨fun _ => HNX.out, fun h => absurd hk3 h⟩, HFX.out⟩, ?_⟩
                    · go_num
                    · rfl
                    · simp only [intOf]; omega
                  · have hr3i : (3 : Int) ≤ (i : Int) := by omega
                    have hrd : decide ((i : Int) < 3) = false := decide_eq_false (by omega)
                    have hrd2 : decide (i < 3) = false := decide_eq_false hr3
                    by_cases hgt : f1 < i
                    · have hgd : decide ((f1 : Int) < (i : Int)) = true := decide_eq_true (by omega)
                      have hgd2 : decide (f1 < i) = true := decide_eq_true hgt
                      have HNX : Hid (Mt.rest b k (d - ((tr + 1 : Nat) : Int)).toNat (t + 1) (i, t + 1) = Mt.best b k D) := Lib.hid (by rw [← HVA.out.1 hk3, HTT.out, HSTP.out, if_neg (by rw [HRI.out]; exact hr3), HRI.out, if_pos hgt])
                      obtain ⟨q0, q1, q2, qf0, qf1, qf2⟩ := row3 HFY.out.found
                      have q0 : _ = some (Value.int .i64 (f1 : Int)) := q0
                      have hFX := HFY.out.put (i, t + 1)
                      simp only at hFX
                      rw [show ((t + 1 : Nat) : Int) = (t : Int) + 1 by omega] at hFX
                      have HFX := Lib.hid hFX
                      clear hFX
                      go_wp2_with fail
                      refine ⟨⟨t + 1, tr + 1, i, t + 1, ⟨by omega, by omega⟩, ?_, ?_, ⟨fun _ => HNX.out, fun h => absurd hk3 h⟩, HFX.out⟩, ?_⟩
                      · go_num
                      · go_num
                      · simp only [intOf]; omega
                    · have hgd : decide ((f1 : Int) < (i : Int)) = false := decide_eq_false (by omega)
                      have hgd2 : decide (f1 < i) = false := decide_eq_false hgt
                      have HNX : Hid (Mt.rest b k (d - ((tr + 1 : Nat) : Int)).toNat (t + 1) (f1, f2) = Mt.best b k D) := Lib.hid (by rw [← HVA.out.1 hk3, HTT.out, HSTP.out, if_neg (by rw [HRI.out]; exact hr3), HRI.out, if_neg hgt])
                      have HFX := Lib.hid HFY.out
                      go_wp2_with fail
                      refine ⟨⟨t + 1, tr + 1, f1, f2, ⟨by omega, by omega⟩, ?_, ?_, ⟨fun _ => HNX.out, fun h => absurd hk3 h⟩, HFX.out⟩, ?_⟩
                      · go_num
                      · go_num
                      · simp only [intOf]; omega
              · have hy3 : decide ((i : Int) < 258) = false := decide_eq_false (by omega)
                have hy4 : decide (i < 258) = false := decide_eq_false (by omega)
                clear hrow
                go_wp2_with fail
                go_quiet (fail)
                have HFY := Lib.hid (HF.out.drew (ii + nq))
                clear hi hir hrm hlm ht1 ht2 hw1 hw2 hw3 hx1 hx2
                by_cases hr3 : i < 3
                · have hrd : decide ((i : Int) < 3) = true := decide_eq_true (by omega)
                  have hrd2 : decide (i < 3) = true := decide_eq_true hr3
                  have HNX : Hid (Mt.rest b k (d - (tr : Int)).toNat (t + 1) (f1, f2) = Mt.best b k D) := Lib.hid (by rw [← HVA.out.1 hk3, HTT.out, HSTP.out, if_pos (by rw [HRI.out]; exact hr3)])
                  have HFX := Lib.hid HFY.out
                  go_wp2_with fail
                  refine ⟨⟨t + 1, tr, f1, f2, ⟨by omega, by omega⟩, ?_, ?_, ⟨fun _ => HNX.out, fun h => absurd hk3 h⟩, HFX.out⟩, ?_⟩
                  · go_num
                  · rfl
                  · simp only [intOf]; omega
                · have hr3i : (3 : Int) ≤ (i : Int) := by omega
                  have hrd : decide ((i : Int) < 3) = false := decide_eq_false (by omega)
                  have hrd2 : decide (i < 3) = false := decide_eq_false hr3
                  by_cases hgt : f1 < i
                  · have hgd : decide ((f1 : Int) < (i : Int)) = true := decide_eq_true (by omega)
                    have hgd2 : decide (f1 < i) = true := decide_eq_true hgt
                    have HNX : Hid (Mt.rest b k (d - ((tr + 1 : Nat) : Int)).toNat (t + 1) (i, t + 1) = Mt.best b k D) := Lib.hid (by rw [← HVA.out.1 hk3, HTT.out, HSTP.out, if_neg (by rw [HRI.out]; exact hr3), HRI.out, if_pos hgt])
                    obtain ⟨q0, q1, q2, qf0, qf1, qf2⟩ := row3 HFY.out.found
                    have q0 : _ = some (Value.int .i64 (f1 : Int)) := q0
                    have hFX := HFY.out.put (i, t + 1)
                    simp only at hFX
                    rw [show ((t + 1 : Nat) : Int) = (t : Int) + 1 by omega] at hFX
                    have HFX := Lib.hid hFX
                    clear hFX
                    go_wp2_with fail
                    refine ⟨⟨t + 1, tr + 1, i, t + 1, ⟨by omega, by omega⟩, ?_, ?_, ⟨fun _ => HNX.out, fun h => absurd hk3 h⟩, HFX.out⟩, ?_⟩
                    · go_num
                    · go_num
                    · simp only [intOf]; omega
                  · have hgd : decide ((f1 : Int) < (i : Int)) = false := decide_eq_false (by omega)
                    have hgd2 : decide (f1 < i) = false := decide_eq_false hgt
                    have HNX : Hid (Mt.rest b k (d - ((tr + 1 : Nat) : Int)).toNat (t + 1) (f1, f2) = Mt.best b k D) := Lib.hid (by rw [← HVA.out.1 hk3, HTT.out, HSTP.out, if_neg (by rw [HRI.out]; exact hr3), HRI.out, if_neg hgt])
                    have HFX := Lib.hid HFY.out
                    go_wp2_with fail
                    refine ⟨⟨t + 1, tr + 1, f1, f2, ⟨by omega, by omega⟩, ?_, ?_, ⟨fun _ => HNX.out, fun h => absurd hk3 h⟩, HFX.out⟩, ?_⟩
                    · go_num
                    · go_num
                    · simp only [intOf]; omega
        · have htd' : decide ((tr : Int) < d) = false := decide_eq_false htd
          have HE : Hid ((f1, f2) = Mt.best b k D) := Lib.hid (by rw [← HVA.out.1 hk3, Mt.rest_end _ _ _ _ _ (.inl (by omega))])
          have hrr := set3 (y0 := .int .i64 (f1 : Int)) (y1 := .int .i64 (f2 : Int)) (y2 := .int .u8 0) HF.out.ans
          have HBZ := Lib.hid (below3 HF.out.below (Nat.le_refl w.heap.size) (.int .i64 (f1 : Int)) (.int .i64 (f2 : Int)) (.int .u8 0))
          have HRR := Lib.hid hrr
          clear hrr
          go_wp2_with fail
          go_region
          go_wp2_with fail
          exact bodyPost_ret (results_cell_tmp (p := 6) (q := 7) (ty := 35) rfl _ _ w.heap.size 35 _ (0, 0) _ _ rfl rfl HRR.out Try.underlying35 rfl info35s) rfl ⟨by rw [← HE.out]; rfl, HBZ.out.trans ⟨rfl, rfl, rfl, Nat.le_refl _, fun _ _ => rfl⟩⟩
      · have hk3' : decide ((k : Int) + 3 ≤ (n : Int)) = false := decide_eq_false (by omega)
        have hk3'' : decide (k + 3 ≤ n) = false := decide_eq_false hk3
        have HE : Hid ((f1, f2) = Mt.best b k D) := Lib.hid (by rw [HVA.out.2 hk3, HNO.out hk3])
        have hrr := set3 (y0 := .int .i64 (f1 : Int)) (y1 := .int .i64 (f2 : Int)) (y2 := .int .u8 0) HF.out.ans
        have HBZ := Lib.hid (below3 HF.out.below (Nat.le_refl w.heap.size) (.int .i64 (f1 : Int)) (.int .i64 (f2 : Int)) (.int .u8 0))
        have HRR := Lib.hid hrr
        clear hrr
        go_wp2_with fail
        go_region
        go_wp2_with fail
        exact bodyPost_ret (results_cell_tmp (p := 6) (q := 7) (ty := 35) rfl _ _ w.heap.size 35 _ (0, 0) _ _ rfl rfl HRR.out Try.underlying35 rfl info35s) rfl ⟨by rw [← HE.out]; rfl, HBZ.out.trans ⟨rfl, rfl, rfl, Nat.le_refl _, fun _ _ => rfl⟩⟩
    · have htk' : decide ((t : Int) + 1 ≤ (k : Int)) = false := decide_eq_false (by omega)
      have htk4 : ¬ ((t : Int) + 1 ≤ (k : Int)) := by omega
      have htk2 : decide (t < k) = false := decide_eq_false htk
      have htk3 : decide ((t : Int) < (k : Int)) = false := decide_eq_false (by omega)
      have HE : Hid ((f1, f2) = Mt.best b k D) := Lib.hid (by
        by_cases hk3 : k + 3 ≤ n
        · rw [← HVA.out.1 hk3, Mt.rest_end _ _ _ _ _ (.inr (by omega))]
        · rw [HVA.out.2 hk3, HNO.out hk3])
      have hrr := set3 (y0 := .int .i64 (f1 : Int)) (y1 := .int .i64 (f2 : Int)) (y2 := .int .u8 0) HF.out.ans
      have HBZ := Lib.hid (below3 HF.out.below (Nat.le_refl w.heap.size) (.int .i64 (f1 : Int)) (.int .i64 (f2 : Int)) (.int .u8 0))
      have HRR := Lib.hid hrr
      clear hrr
      by_cases h33 : (t : Int) + 1 ≤ 32768
      · go_wp2_with fail
        go_region
        go_wp2_with fail
        exact bodyPost_ret (results_cell_tmp (p := 6) (q := 7) (ty := 35) rfl _ _ w.heap.size 35 _ (0, 0) _ _ rfl rfl HRR.out Try.underlying35 rfl info35s) rfl ⟨by rw [← HE.out]; rfl, HBZ.out.trans ⟨rfl, rfl, rfl, Nat.le_refl _, fun _ _ => rfl⟩⟩
      · have h34 : decide ((t : Int) + 1 ≤ 32768) = false := decide_eq_false h33
        clear h33
        go_wp2_with fail
        go_region
        go_wp2_with fail
        exact bodyPost_ret (results_cell_tmp (p := 6) (q := 7) (ty := 35) rfl _ _ w.heap.size 35 _ (0, 0) _ _ rfl rfl HRR.out Try.underlying35 rfl info35s) rfl ⟨by rw [← HE.out]; rfl, HBZ.out.trans ⟨rfl, rfl, rfl, Nat.le_refl _, fun _ _ => rfl⟩⟩
end Go.Proofs.Ytghphgpbgekoiaa
