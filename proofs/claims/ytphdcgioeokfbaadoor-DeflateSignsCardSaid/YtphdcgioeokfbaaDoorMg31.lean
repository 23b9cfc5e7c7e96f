/-
  Merged, in the order in which they build: Best Look.
-/
import Derived.Deep.RegionHeld3
import Derived.Deep.RegionHeldLaw
import Derived.Deep.RegionLaw
import Derived.Test.YtphdcgioeokfbaaDoorMg30
/-
  best: the best match at a place.
-/
namespace Go.Proofs.YtphdcgioeokfbaaDoor
open Go.RowKit
/-- A step, as a value, as cells. -/
def stc (f : Nat × Nat) : Array Value := #[.int .i64 (f.1 : Int), .int .i64 (f.2 : Int), .int .u8 0]
def stv (f : Nat × Nat) : Value := .agg (stc f)
theorem info32s : (Tryd.prog.info? 63).map (·.size) = some 3 := by kernel_rfl
/-- The chain's next place, or -1. -/
def hd : List Nat → Int
  | [] => -1
  | q :: _ => (q : Int)
theorem ahead_hd (b : List UInt8) (p : Nat) : Mt.ahead b p = hd (Mt.chain b p p) := by
  unfold Mt.ahead hd; cases Mt.chain b p p <;> rfl
theorem set3 {w : World} {g : Nat} {x0 x1 x2 y0 y1 y2 : Value} {t : TypeId} (h : w.heap[g]? = some (.cells #[x0, x1, x2] t (0, 0))) :
    (((w.setCell ⟨g, 0, none⟩ y0).setCell ⟨g, 1, none⟩ y1).setCell ⟨g, 2, none⟩ y2).heap[g]? = some (.cells #[y0, y1, y2] t (0, 0)) := by
  have h1 := heap_setCell_same w g 0 _ _ y0 h
  have h2 := heap_setCell_same _ g 1 _ _ y1 h1
  have h3 := heap_setCell_same _ g 2 _ _ y2 h2
  exact h3
theorem row3 {w : World} {g : Nat} {x0 x1 x2 : Value} {t : TypeId} (h : w.heap[g]? = some (.cells #[x0, x1, x2] t (0, 0))) :
    w.cell? ⟨g, 0, none⟩ = some x0 ∧ w.cell? ⟨g, 1, none⟩ = some x1 ∧ w.cell? ⟨g, 2, none⟩ = some x2 ∧ w.frozen? ⟨g, 0, none⟩ = false ∧ w.frozen? ⟨g, 1, none⟩ = false ∧ w.frozen? ⟨g, 2, none⟩ = false :=
  ⟨by rw [cell_of_row _ _ _ _ _ _ h]; rfl, by rw [cell_of_row _ _ _ _ _ _ h]; rfl, by rw [cell_of_row _ _ _ _ _ _ h]; rfl, frozen_of_row _ _ _ _ _ h, frozen_of_row _ _ _ _ _ h, frozen_of_row _ _ _ _ _ h⟩
theorem below3 {B : Nat} {a w : World} (h : Below B a w) {g : Nat} (hg : B ≤ g) (y0 y1 y2 : Value) : Below B a (((w.setCell ⟨g, 0, none⟩ y0).setCell ⟨g, 1, none⟩ y1).setCell ⟨g, 2, none⟩ y2) :=
  ((h.setCell hg _).setCell hg _).setCell hg _
theorem other3 {w : World} {g j : Nat} (hj : j ≠ g) (y0 y1 y2 : Value) : (((w.setCell ⟨g, 0, none⟩ y0).setCell ⟨g, 1, none⟩ y1).setCell ⟨g, 2, none⟩ y2).heap[j]? = w.heap[j]? := by
  rw [heap_setCell_other _ _ _ _ hj, heap_setCell_other _ _ _ _ hj, heap_setCell_other _ _ _ _ hj]
/-- What best has under way: the answer's block, and what is found. -/
structure Fd (w wr : World) (f : Nat × Nat) : Prop where
  below : Below w.heap.size w wr
  ans : wr.heap[w.heap.size]? = some (.cells #[.int .i64 0, .int .i64 0, .int .u8 0] 63 (0, 0))
  found : wr.heap[w.heap.size + 1]? = some (.cells (stc f) 63 (0, 0))
theorem Fd.later {w wr wx : World} {f : Nat × Nat} (h : Fd w wr f) (hb : Below wr.heap.size wr wx) : Fd w wx f :=
  ⟨h.below.trans (hb.mono h.below.size), (hb.block _ (Array.getElem?_eq_some_iff.1 h.ans).1).trans h.ans, (hb.block _ (Array.getElem?_eq_some_iff.1 h.found).1).trans h.found⟩
theorem Fd.drew {w wr : World} {f : Nat × Nat} (h : Fd w wr f) (n : Nat) : Fd w (wr.drewN n) f := h.later (below_drewN (Below.refl _ _) n)
theorem Fd.put {w wr : World} {f : Nat × Nat} (h : Fd w wr f) (f2 : Nat × Nat) : Fd w (((wr.setCell ⟨w.heap.size + 1, 0, none⟩ (.int .i64 (f2.1 : Int))).setCell ⟨w.heap.size + 1, 1, none⟩ (.int .i64 (f2.2 : Int))).setCell ⟨w.heap.size + 1, 2, none⟩ (.int .u8 0)) f2 :=
  ⟨below3 h.below (Nat.le_succ _) _ _ _, (other3 (by omega) _ _ _).trans h.ans, set3 h.found⟩
set_option maxRecDepth 100000 in
set_option maxHeartbeats 4000000 in
theorem best_walk (fn : Nat) (rv : Value) (w : World) (v : Value) (b : List UInt8) (k : Nat) (d : Int) (hv : SlV w v (bl b)) (hk : k ≤ b.length) (hb : b.length ≤ 32768) (hd1 : d ≤ 9223372036854775807)
    (hcf : ∀ args w, (callFunc fn args).run Tryd.prog w = .ok (.enter fn args) w)
    (ha : ∀ w', Below w.heap.size w w' → ∀ p, p + 3 ≤ b.length → Calls Tryd.prog fn #[rv, .int .i64 (p : Int)] w' (QPost (.int .i64 (Mt.ahead b p)) w')) :
    Calls Tryd.prog 23 #[v, .int .i64 (k : Int), .int .i64 d, .func (.func fn) #[rv] #[]] w fun e w' => e = .returned (stv (Mt.best b k d.toNat)) ∧ Below w.heap.size w w' := by
  obtain ⟨p, cap, rfl⟩ := hv.shape
  rw [bl_length] at hv ⊢
  obtain ⟨n, hn⟩ : ∃ n, n = b.length := ⟨_, rfl⟩
  rw [← hn] at hv hb hk ⊢
  obtain ⟨m, hm⟩ : ∃ m, m = Mt.lim b k := ⟨_, rfl⟩
  have hm2 : min 258 ((n : Int) - (k : Int)) = (m : Int) := by rw [hm]; unfold Mt.lim; omega
  have HM := Lib.hid hm
  have HN := Lib.hid hn
  have HV := Lib.hid hv
  have HA := Lib.hid ha
  have hmn : m ≤ n - k := by rw [hm]; unfold Mt.lim; omega
  have hm258 : m ≤ 258 := by rw [hm]; unfold Mt.lim; omega
  have hw0 : IntKind.i64.wrap ((n : Int) - (k : Int)) = (n : Int) - (k : Int) := IntWalk.i64_in _ (by omega)
  clear hv ha hn hm
  go_enter Tryd.func23, Tryd.ntmps23
  by_cases hm3 : m < 3
  · have hm3i : (m : Int) < 3 := by omega
    have HR : Hid (Mt.best b k d.toNat = (0, 0)) := Lib.hid (by
      unfold Mt.best; rw [if_neg]
      have h1 := HM.out; have h2 := HN.out
      unfold Mt.lim at h1; omega)
    go_wp2_with fail
    refine bodyPost_ret (results_cell_row (p := 8) (ty := 63) rfl _ _ w.heap.size 63 _ (0, 0) _ rfl (heap_alloc_new w _) Tryd.underlying63 rfl info32s) rfl ⟨?_, (Below.refl _ _).alloc (Nat.le_refl _) _⟩
    rw [HR.out]; rfl
  · have hm3i : (3 : Int) ≤ (m : Int) := by omega
    have hk3 : k + 3 ≤ n := by omega
    have hB0 : Below w.heap.size w ((w.alloc (Obj.cells #[.int .i64 0, .int .i64 0, .int .u8 0] 63)).alloc (Obj.cells #[.int .i64 0, .int .i64 0, .int .u8 0] 63)) := ((Below.refl _ _).alloc (Nat.le_refl _) _).alloc (by simp) _
    have hF0 : Fd w ((w.alloc (Obj.cells #[.int .i64 0, .int .i64 0, .int .u8 0] 63)).alloc (Obj.cells #[.int .i64 0, .int .i64 0, .int .u8 0] 63)) (0, 0) := ⟨hB0, by
      rw [heap_alloc_old _ _ (by simp)]; exact heap_alloc_new w _, by
      have := heap_alloc_new (w.alloc (Obj.cells #[.int .i64 0, .int .i64 0, .int .u8 0] 63)) (Obj.cells #[.int .i64 0, .int .i64 0, .int .u8 0] 63)
      rw [World.size_alloc] at this
      exact this⟩
    have hcall := HA.out _ hB0 k (by rw [← HN.out]; exact hk3)
    have HF0 := Lib.hid hF0
    clear hB0 hF0
    go_wp2_with fail
    refine hcall.mono ?_
    rintro e w1 ⟨rfl, nn, rfl⟩
    have HF1 := Lib.hid (HF0.out.drew nn)
    have HH : Hid (Mt.ahead b k = hd (Mt.chain b k k)) := Lib.hid (ahead_hd b k)
    have HBS : Hid (Mt.best b k d.toNat = ((Mt.chain b k k).take d.toNat).foldl (Mt.better b k) (0, 0)) := Lib.hid (by unfold Mt.best; rw [if_pos (by rw [← HN.out]; exact hk3)])
    rw [HH.out]
    clear hcall HF0 HH
    generalize (World.drewN _ nn) = w2 at *
    go_wp2_with fail
    go_loopw [2, 11] (fun v2 v11 wr => ∃ (l : List Nat) (dd : Int) (f : Nat × Nat), v2 = .int .i64 dd ∧ v11 = .int .i64 (hd l) ∧ dd ≤ 9223372036854775807 ∧ (l.take dd.toNat).foldl (Mt.better b k) f = Mt.best b k d.toNat ∧ (l = [] ∨ ∃ q, l = q :: Mt.chain b k q ∧ q < k ∧ Mt.same3 b q k = true) ∧ f.1 ≤ m ∧ f.2 ≤ k ∧ Fd w wr f) (fun _ v11 _ => (intOf v11 + 1).toNat)
    case atStart =>
      refine ⟨Mt.chain b k k, d, (0, 0), rfl, rfl, hd1, HBS.out.symm, ?_, Nat.zero_le _, Nat.zero_le _, HF1.out⟩
      cases hch : Mt.chain b k k with
      | nil => exact .inl rfl
      | cons q t =>
        obtain ⟨h1, h2, h3⟩ := Mt.chain_head hch
        exact .inr ⟨q, by rw [h3], h1, h2⟩
    case round =>
      obtain ⟨l, dd, f, rfl, rfl, hdd, hfo, hl, hf1, hf2, hF⟩ := hrel
      have HFO := Lib.hid hfo
      have HF := Lib.hid hF
      obtain ⟨a0, a1, a2, af0, af1, af2⟩ := row3 hF.ans
      obtain ⟨c0, c1, c2, cf0, cf1, cf2⟩ := row3 hF.found
      clear hfo hF HF1 HBS
      have HEND : Hid (f = Mt.best b k d.toNat → ∀ wx, wx = (((wr.setCell ⟨w.heap.size, 0, none⟩ (.int .i64 (f.1 : Int))).setCell ⟨w.heap.size, 1, none⟩ (.int .i64 (f.2 : Int))).setCell ⟨w.heap.size, 2, none⟩ (.int .u8 0)) → wx.heap[w.heap.size]? = some (.cells (stc (Mt.best b k d.toNat)) 63 (0, 0)) ∧ Below w.heap.size w wx) := Lib.hid (fun e wx ex => by
        subst ex; rw [← e]; exact ⟨set3 HF.out.ans, below3 HF.out.below (Nat.le_refl _) _ _ _⟩)
      obtain ⟨f1, f2⟩ := f
      have c0 : wr.cell? ⟨w.heap.size + 1, 0, none⟩ = some (.int .i64 (f1 : Int)) := c0
      have c1 : wr.cell? ⟨w.heap.size + 1, 1, none⟩ = some (.int .i64 (f2 : Int)) := c1
      have hf1 : f1 ≤ m := hf1
      have hf2 : f2 ≤ k := hf2
      by_cases hd0 : 0 < dd
      · rcases hl with rfl | ⟨q, rfl, hqk, hqs⟩
        · have HE : Hid ((f1, f2) = Mt.best b k d.toNat) := Lib.hid (by rw [← HFO.out]; simp)
          have hm1 : decide ((0 : Int) ≤ hd []) = false := rfl
          go_wp2_with fail
          obtain ⟨hrr, hbb⟩ := HEND.out HE.out _ rfl
          exact bodyPost_ret (results_cell_row (p := 8) (ty := 63) rfl _ _ w.heap.size 63 _ (0, 0) _ rfl hrr Tryd.underlying63 rfl info32s) rfl ⟨rfl, hbb⟩
        · have HTD : Hid (dd.toNat = (dd - 1).toNat + 1) := Lib.hid (by omega)
          have HQ : Hid (Mt.ahead b q = hd (Mt.chain b k q)) := Lib.hid (by rw [ahead_hd, Mt.chain_congr hqs])
          have HNX : Hid ((Mt.chain b k q = [] ∨ ∃ q', Mt.chain b k q = q' :: Mt.chain b k q' ∧ q' < k ∧ Mt.same3 b q' k = true) ∧ -1 ≤ hd (Mt.chain b k q) ∧ hd (Mt.chain b k q) < (q : Int)) := Lib.hid (by
            cases hch : Mt.chain b k q with
            | nil => exact ⟨.inl rfl, by show (-1 : Int) ≤ -1; omega, by show (-1 : Int) < (q : Int); omega⟩
            | cons q' t =>
              obtain ⟨h1, h2, h3⟩ := Mt.chain_head hch
              exact ⟨.inr ⟨q', by rw [h3], by omega, h2⟩, by show (-1 : Int) ≤ (q' : Int); omega, by show (q' : Int) < (q : Int); omega⟩)
          rw [show hd (q :: Mt.chain b k q) = (q : Int) from rfl]
          have hq0 : (0 : Int) ≤ (q : Int) := by omega
          have hkq : (k : Int) - (q : Int) ≤ 32768 := by omega
          have hkq0 : (0 : Int) ≤ (k : Int) - (q : Int) := by omega
          by_cases hfm : f1 < m
          · have hfmi : (f1 : Int) < (m : Int) := by omega
            obtain ⟨g, o, rfl, hrow⟩ := (HV.out.below HF.out.below (Nat.le_refl _)).some (by omega)
            have hcap := HV.out.le
            have hcq := hrow.blm (q + f1) (by rw [← HN.out]; omega)
            have hck := hrow.blm (k + f1) (by rw [← HN.out]; omega)
            have HSK := Lib.hid (Mt.better_skip b k (f1, f2) q)
            simp only at HSK
            have HB1 := Lib.hid (bi_inj (a := Mt.byt b (q + f1)) (b := Mt.byt b (k + f1)))
            clear hrow
            generalize Mt.byt b (q + f1) = x at *
            generalize Mt.byt b (k + f1) = y at *
            have hi1 : (q : Int) + (f1 : Int) < (n : Int) := by omega
            have hi2 : (k : Int) + (f1 : Int) < (n : Int) := by omega
            have hi3 : 0 ≤ (q : Int) + (f1 : Int) := by omega
            have hi4 : 0 ≤ (k : Int) + (f1 : Int) := by omega
            have hw1 : IntKind.i64.wrap ((q : Int) + (f1 : Int)) = (q : Int) + (f1 : Int) := IntWalk.i64_in _ (by omega)
            have hw2 : IntKind.i64.wrap ((k : Int) + (f1 : Int)) = (k : Int) + (f1 : Int) := IntWalk.i64_in _ (by omega)
            have ht1 : ((q : Int) + (f1 : Int)).toNat = q + f1 := by omega
            have ht2 : ((k : Int) + (f1 : Int)).toNat = k + f1 := by omega
            by_cases hxy : bi x = bi y
            · have hbe : (bi x == bi y) = true := beq_iff_eq.2 hxy
              have hv0 := HV.out.below HF.out.below (Nat.le_refl _)
              obtain ⟨p1, hs1, hv1⟩ := from22 hv0 q (by omega)
              obtain ⟨p2, hs2, hv2⟩ := cut22 hv0 k (k + m) (by omega) (by omega)
              rw [Nat.add_sub_cancel_left] at hs2 hv2
              rw [Int.natCast_add] at hs2
              rw [bl_drop] at hv1 hv2
              rw [bl_take] at hv2
              have hw3 : IntKind.i64.wrap ((k : Int) + (m : Int)) = (k : Int) + (m : Int) := IntWalk.i64_in _ (by omega)
              have HV1 := Lib.hid hv1
              have HV2 := Lib.hid hv2
              clear hv0 hv1 hv2
              go_wp2_with fail
              go_quiet (fail)
              have HFX := Lib.hid (HF.out.drew nq)
              have HWX : Hid (Below wr.heap.size wr (wr.drewN nq)) := Lib.hid (below_drewN (Below.refl _ _) nq)
              clear HF HEND a0 a1 a2 af0 af1 af2 c0 c1 c2 cf0 cf1 cf2 hcq hck
              generalize wr.drewN nq = wx at HFX HWX ⊢
              have HAL : Hid (∀ j, Calls Tryd.prog 37 #[.slice p1 (n - q) (cap - q), .slice p2 m (cap - k)] (wx.drewN j) (QPost (.int .i64 ((Mt.run b q k m : Nat) : Int)) (wx.drewN j))) := Lib.hid (fun j => by
                have hj := HWX.out.trans (below_drewN (Below.refl wr.heap.size wx) j)
                have h := alike_walk (wx.drewN j) _ _ (b.drop q) ((b.drop k).take m) (HV1.out.below hj (Nat.le_refl _)) (HV2.out.below hj (Nat.le_refl _)) (by rw [List.length_take, List.length_drop, List.length_drop]; omega) (by rw [List.length_take, List.length_drop]; omega)
                rw [cpre_run b q k m (by omega) (by rw [← HN.out]; omega)] at h
                exact h)
              have HRN : Hid ((Mt.run b q k m ≤ m) ∧ Mt.better b k (f1, f2) q = if f1 < Mt.run b q k m then (Mt.run b q k m, k - q) else (f1, f2)) := Lib.hid ⟨Mt.run_le b m q k, by unfold Mt.better; rw [← HM.out]⟩
              generalize Mt.run b q k m = rn at *
              go_wp2_with fail
              go_quiet (first | (go_at_call 37; exact Calls.quiet_of (HAL.out _)))
              have HFY := Lib.hid (HFX.out.drew nq)
              clear HFX HWX HAL HV1 HV2 hs1 hs2
              generalize wx.drewN nq = wy at HFY ⊢
              obtain ⟨d0, d1, d2, df0, df1, df2⟩ := row3 HFY.out.found
              have d0 : wy.cell? ⟨w.heap.size + 1, 0, none⟩ = some (.int .i64 (f1 : Int)) := d0
              have d1 : wy.cell? ⟨w.heap.size + 1, 1, none⟩ = some (.int .i64 (f2 : Int)) := d1
              have hrm : rn ≤ m := HRN.out.1
              by_cases hrf : f1 < rn
              · have hrfi : (f1 : Int) < (rn : Int) := by omega
                have hkqe : (k : Int) - (q : Int) = ((k - q : Nat) : Int) := by omega
                have HBT : Hid (Mt.better b k (f1, f2) q = (rn, k - q)) := Lib.hid (by rw [HRN.out.2, if_pos hrf])
                have hFZ := HFY.out.put (rn, k - q)
                simp only at hFZ
                rw [← hkqe] at hFZ
                have HFZ := Lib.hid hFZ
                clear hFZ HFY hkqe
                go_wp2_with fail
                generalize (((wy.setCell ⟨w.heap.size + 1, 0, none⟩ (.int .i64 (rn : Int))).setCell ⟨w.heap.size + 1, 1, none⟩ (.int .i64 ((k : Int) - (q : Int)))).setCell ⟨w.heap.size + 1, 2, none⟩ (.int .u8 0)) = wz at HFZ ⊢
                refine (HA.out _ HFZ.out.below q (by rw [← HN.out]; omega)).mono ?_
                rintro e w9 ⟨rfl, n9, rfl⟩
                rw [HQ.out]
                have HF9 := Lib.hid (HFZ.out.drew n9)
                clear HFZ
                go_wp2_with fail
                refine ⟨⟨Mt.chain b k q, dd - 1, (rn, k - q), ?_, rfl, by omega, ?_, HNX.out.1, ?_, ?_, HF9.out⟩, ?_⟩
                · go_num
                · rw [← HFO.out, HTD.out, List.take_succ_cons, List.foldl_cons, HBT.out]
                · show _ ≤ m; omega
                · show _ ≤ k; omega
                · simp only [intOf]; have := HNX.out.2; omega
              · have hrfi : (rn : Int) ≤ (f1 : Int) := by omega
                have HBT : Hid (Mt.better b k (f1, f2) q = (f1, f2)) := Lib.hid (by rw [HRN.out.2, if_neg hrf])
                go_wp2_with fail
                refine (HA.out _ HFY.out.below q (by rw [← HN.out]; omega)).mono ?_
                rintro e w9 ⟨rfl, n9, rfl⟩
                rw [HQ.out]
                have HF9 := Lib.hid (HFY.out.drew n9)
                clear HFY
                go_wp2_with fail
                refine ⟨⟨Mt.chain b k q, dd - 1, (f1, f2), ?_, rfl, by omega, ?_, HNX.out.1, ?_, ?_, HF9.out⟩, ?_⟩
                · go_num
                · rw [← HFO.out, HTD.out, List.take_succ_cons, List.foldl_cons, HBT.out]
                · show _ ≤ m; omega
                · show _ ≤ k; omega
                · simp only [intOf]; have := HNX.out.2; omega
            · have hbe : (bi x == bi y) = false := beq_eq_false_iff_ne.2 hxy
              have HBT : Hid (Mt.better b k (f1, f2) q = (f1, f2)) := Lib.hid (HSK.out (fun h => hxy (HB1.out.2 h)))
              go_wp2_with fail
              go_quiet (fail)
              have HFX := Lib.hid (HF.out.drew nq)
              clear HF HEND a0 a1 a2 af0 af1 af2 c0 c1 c2 cf0 cf1 cf2 hcq hck
              generalize wr.drewN nq = wx at HFX ⊢
              go_wp2_with fail
              refine (HA.out _ HFX.out.below q (by rw [← HN.out]; omega)).mono ?_
              rintro e w9 ⟨rfl, n9, rfl⟩
              rw [HQ.out]
              have HF9 := Lib.hid (HFX.out.drew n9)
              clear HFX
              go_wp2_with fail
              refine ⟨⟨Mt.chain b k q, dd - 1, (f1, f2), ?_, rfl, by omega, ?_, HNX.out.1, ?_, ?_, HF9.out⟩, ?_⟩
              · go_num
              · rw [← HFO.out, HTD.out, List.take_succ_cons, List.foldl_cons, HBT.out]
              · show _ ≤ m; omega
              · show _ ≤ k; omega
              · simp only [intOf]; have := HNX.out.2; omega
          · have hfmi : (m : Int) ≤ (f1 : Int) := by omega
            have HE : Hid ((f1, f2) = Mt.best b k d.toNat) := Lib.hid (by rw [← HFO.out, Mt.fold_full b k _ _ (by show f1 = Mt.lim b k; rw [← HM.out]; omega)])
            go_wp2_with fail
            obtain ⟨hrr, hbb⟩ := HEND.out HE.out _ rfl
            exact bodyPost_ret (results_cell_row (p := 8) (ty := 63) rfl _ _ w.heap.size 63 _ (0, 0) _ rfl hrr Tryd.underlying63 rfl info32s) rfl ⟨rfl, hbb⟩
      · have HE : Hid ((f1, f2) = Mt.best b k d.toNat) := Lib.hid (by rw [← HFO.out, show dd.toNat = 0 by omega]; simp)
        go_wp2_with fail
        obtain ⟨hrr, hbb⟩ := HEND.out HE.out _ rfl
        exact bodyPost_ret (results_cell_row (p := 8) (ty := 63) rfl _ _ w.heap.size 63 _ (0, 0) _ rfl hrr Tryd.underlying63 rfl info32s) rfl ⟨rfl, hbb⟩
end Go.Proofs.YtphdcgioeokfbaaDoor
/-
  look: the best match at a place, by the chains.
-/
namespace Go.Proofs.YtphdcgioeokfbaaDoor
open Go.RowKit
theorem bt {w w1 w2 : World} (h : Below w.heap.size w w1) (k : Below w1.heap.size w1 w2) : Below w.heap.size w w2 := h.trans (k.mono h.size)
set_option maxRecDepth 100000 in
theorem enters32 : ∀ args w, (callFunc 24 args).run Tryd.prog w = .ok (.enter 24 args) w := fun _ _ => rfl
theorem ahead_q {w0 : World} {gc : Nat} {vb vf : Value} {d : Int} {b : List UInt8} (h : ChAt w0 gc vb vf d b) (hb : b.length ≤ 32768) :
    ∀ w', Below w0.heap.size w0 w' → ∀ p, p + 3 ≤ b.length → Calls Tryd.prog 24 #[.pointer (some ⟨gc, 0, none⟩), .int .i64 (p : Int)] w' (QPost (.int .i64 (Mt.ahead b p)) w') := fun w' hw p hp =>
  (ahead_walk w' gc vb vf d b (h.below hw (Nat.le_refl _)) p hp hb).mono fun _ _ ⟨h1, h2⟩ => ⟨h1, 0, h2⟩
theorem cell3 {w : World} {g h o : Nat} {u : Value} (hne : h ≠ g) (hc : w.cell? ⟨h, o, none⟩ = some u) (y0 y1 y2 : Value) : (((w.setCell ⟨g, 0, none⟩ y0).setCell ⟨g, 1, none⟩ y1).setCell ⟨g, 2, none⟩ y2).cell? ⟨h, o, none⟩ = some u := by
  rw [World.cell?_of_block (a := ⟨h, o, none⟩) (other3 hne y0 y1 y2)]; exact hc
set_option maxRecDepth 100000 in
set_option maxHeartbeats 4000000 in
theorem look_walk (w : World) (gc : Nat) (vb vf : Value) (d : Int) (b : List UInt8) (h : ChAt w gc vb vf d b) (k : Nat) (hk : k ≤ b.length) (hb : b.length ≤ 32768) (hd1 : d ≤ 9223372036854775807) :
    Calls Tryd.prog 16 #[.pointer (some ⟨gc, 0, none⟩), .int .i64 (k : Int)] w fun e w' => e = .returned (stv (Mt.best b k d.toNat)) ∧ Below w.heap.size w w' := by
  have hmf : ∀ (fn : Fn) (first cap : Array Value) (w : World), (Instr.makeFunc fn first cap).run Tryd.prog w = .ok (.func fn first cap) w := fun _ _ _ _ => rfl
  have hB1 : Below w.heap.size w (w.alloc (.cells #[.int .i64 0, .int .i64 0, .int .u8 0] 63)) := (Below.refl _ _).alloc (Nat.le_refl _) _
  have hr1 := heap_alloc_new w (.cells #[.int .i64 0, .int .i64 0, .int .u8 0] 63)
  have h1 := h.below hB1 (Nat.le_refl _)
  have h0 := h.c0
  have c0 := h1.c0
  have c1 := h1.c1
  have HH := Lib.hid h1
  have HB1 := Lib.hid hB1
  have HR1 := Lib.hid hr1
  clear h h1 hB1 hr1
  obtain ⟨p, cap, rfl⟩ := HH.out.bs.shape
  obtain ⟨n, hn⟩ : ∃ n, n = b.length := ⟨_, rfl⟩
  rw [bl_length, ← hn] at HH c0
  have HN := Lib.hid hn
  clear hn
  obtain ⟨x, y, hxy⟩ : ∃ x y, Mt.best b k d.toNat = (x, y) := ⟨_, _, rfl⟩
  rw [hxy]
  have HXY := Lib.hid hxy
  clear hxy
  go_enter Tryd.func16, Tryd.ntmps16
  go_wp2_with fail
  generalize (w.alloc (.cells #[.int .i64 0, .int .i64 0, .int .u8 0] 63)) = w1 at *
  have HBST : Hid (∀ wx, Below w1.heap.size w1 wx → Calls Tryd.prog 23 #[.slice p n cap, .int .i64 (k : Int), .int .i64 d, .func (.func 24) #[.pointer (some ⟨gc, 0, none⟩)] #[]] wx fun e w' => e = .returned (.agg #[.int .i64 (x : Int), .int .i64 (y : Int), .int .u8 0]) ∧ Below wx.heap.size wx w') := Lib.hid (fun wx hx => by
    have hxc := HH.out.below hx (Nat.le_refl _)
    rw [HN.out]
    have hbw := best_walk 24 _ wx _ b k d (by have := hxc.bs; rw [HN.out] at this; exact this) hk hb hd1 enters32 (ahead_q hxc hb)
    rw [HXY.out] at hbw
    exact hbw)
  have HDR : Hid (Below w1.heap.size w1 w1.drew) := Lib.hid ⟨rfl, rfl, rfl, Nat.le_refl _, fun _ _ => rfl⟩
  have HGC : Hid (gc < w1.heap.size) := Lib.hid (block_lt_of_cell c0)
  have HC0 := Lib.hid c0
  have HNE : Hid (gc ≠ w.heap.size) := Lib.hid (fun e => by have := block_lt_of_cell h0; rw [e] at this; exact absurd this (Nat.lt_irrefl _))
  have HC1 := Lib.hid c1
  clear hk hb hd1
  go_region_held3 (fun w' => w'.cell? ⟨gc, 0, none⟩ = some (.slice p n cap) ∧ w'.cell? ⟨gc, 1, none⟩ = some (.int .i64 d))
    (first | go_keep | (refine ⟨?_, ?_⟩ <;> assumption) | (exact ⟨cell3 HNE.out y0 _ _ _, cell3 HNE.out y1 _ _ _⟩))
    (first
      | (go_at_call 23; refine (HBST.out _ HDR.out).mono ?_; rintro e wp ⟨rfl, hbp⟩; obtain ⟨z0, z1, z2, zf0, zf1, zf2⟩ := row3 ((hbp.block w.heap.size (Array.getElem?_eq_some_iff.1 HR1.out).1).trans HR1.out); have y0 := (hbp.cell (p := ⟨gc, 0, none⟩) HGC.out).trans HC0.out; have y1 := (hbp.cell (p := ⟨gc, 1, none⟩) HGC.out).trans HC1.out; have HBp := Lib.hid hbp; clear hbp))
  all_goals
    have hrr := set3 (y0 := .int .i64 (x : Int)) (y1 := .int .i64 (y : Int)) (y2 := .int .u8 0) ((HBp.out.block w.heap.size (Array.getElem?_eq_some_iff.1 HR1.out).1).trans HR1.out)
    go_wp2_with fail
    exact bodyPost_ret (results_cell_row (p := 4) (ty := 63) rfl _ _ w.heap.size 63 _ (0, 0) _ rfl hrr Tryd.underlying63 rfl info32s) rfl ⟨rfl, below3 (bt (bt HB1.out HDR.out) HBp.out) (Nat.le_refl _) _ _ _⟩
end Go.Proofs.YtphdcgioeokfbaaDoor
