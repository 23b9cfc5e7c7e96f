/-
  Merged, in the order in which they build: Hdg Slc.
-/
import Derived.Test.YtphdcgioeokfbaaDoorMg11
import Derived.Test.YtphdcgioeokfbaaDoorMg31
import Derived.Test.YtphdcgioeokfbaaDoorMg35
/-
  How lengths are told: used, alike, next.
-/
namespace Go.Proofs.YtphdcgioeokfbaaDoor
open Go.RowKit Hf
set_option maxRecDepth 100000 in
set_option maxHeartbeats 1000000 in
theorem used_walk (w : World) (v : Value) (l : List Int) (hv : SlV w v (ni l)) (hl : l.length ≤ 1000000) :
    Calls Tryd.prog 39 #[v] w fun e w' => e = .returned (.int .i64 (Df.usd l : Int)) ∧ OnlyS (fun _ => False) w w' := by
  obtain ⟨p, c, rfl⟩ := hv.shape
  rw [ni_length] at *
  obtain ⟨n, hn⟩ : ∃ n, n = l.length := ⟨_, rfl⟩
  rw [← hn] at hv hl ⊢
  have HN := Lib.hid hn
  have HV := Lib.hid hv
  clear hv hn
  go_enter Tryd.func39, Tryd.ntmps39
  go_wp2_with fail
  go_loopw [3] (fun v3 wr => ∃ k : Nat, k ≤ n ∧ v3 = .int .i64 (k : Int) ∧ Df.usdN l k = Df.usd l ∧ wr = w) (fun v3 _ => (intOf v3).toNat)
  case atStart => exact ⟨n, Nat.le_refl _, rfl, by rw [HN.out]; rfl, rfl⟩
  case round =>
    obtain ⟨k, hk, rfl, hu, rfl⟩ := hrel
    have HU := Lib.hid hu
    clear hu
    cases k with
    | zero =>
      go_wp2_with fail
      go_ret
      exact ⟨by rw [← HU.out]; rfl, OnlyS.refl _ _⟩
    | succ m =>
      obtain ⟨g, o, rfl, hrow⟩ := HV.out.some (by omega)
      have hc := hrow.ni m (by rw [← HN.out]; omega)
      have hcap := HV.out.le
      obtain ⟨z, hz⟩ : ∃ z, z = l.getD m 0 := ⟨_, rfl⟩
      rw [← hz] at hc
      have HZ := Lib.hid hz
      have hmm : ((m : Int) + 1) - 1 = (m : Int) := by omega
      clear hrow hz
      by_cases h0 : z = 0
      · have HU2 : Hid (Df.usdN l m = Df.usd l) := Lib.hid (by rw [← HU.out, Df.usdN, if_pos (by rw [← HZ.out]; exact h0)])
        subst h0
        go_wp2_with fail
        exact ⟨⟨m, by omega, by go_num, HU2.out, (by first | trivial | rfl)⟩, by simp [intOf]⟩
      · have HU2 : Hid (Df.usd l = m + 1) := Lib.hid (by rw [← HU.out, Df.usdN, if_neg (by rw [← HZ.out]; exact h0)])
        have hzb : (z == 0) = false := beq_eq_false_iff_ne.2 h0
        clear h0
        go_wp2_with fail
        go_ret
        exact ⟨by rw [HU2.out]; rfl, OnlyS.refl _ _⟩
theorem alk_is (l : List Int) (z : Int) (k : Nat) (h1 : 1 ≤ k) (hk : k ≤ l.length) (h2 : ∀ j, j < k → l.getD j 0 = z) (h3 : k < l.length → l.getD k 0 ≠ z) : 1 + ((l.drop 1).takeWhile (· == z)).length = k := by
  obtain ⟨m, hm⟩ : ∃ m, m = ((l.drop 1).takeWhile (· == z)).length := ⟨_, rfl⟩
  have hd : ∀ i, (l.drop 1).getD i 0 = l.getD (1 + i) 0 := fun i => by simp only [List.getD_eq_getElem?_getD, List.getElem?_drop]
  have hle : m ≤ l.length - 1 := by
    have := (List.takeWhile_prefix (· == z) (l := l.drop 1)).length_le
    rw [List.length_drop] at this; omega
  rw [← hm]
  rcases Nat.lt_trichotomy (1 + m) k with h | h | h
  · have e := Df.take_while_end (· == z) 0 (l.drop 1) (by rw [← hm, List.length_drop]; omega)
    rw [← hm, hd] at e
    have := h2 (1 + m) h
    rw [this] at e
    simp at e
  · exact h
  · have e := Df.take_while_at (· == z) 0 (l.drop 1) (k - 1) (by rw [← hm]; omega)
    rw [hd, show 1 + (k - 1) = k by omega] at e
    exact absurd (by simpa using e) (h3 (by omega))
set_option maxRecDepth 100000 in
set_option maxHeartbeats 1000000 in
theorem alike7_walk (w : World) (v : Value) (l : List Int) (hv : SlV w v (ni l)) (hl : l.length ≤ 1000000) (h0 : 0 < l.length) :
    Calls Tryd.prog 69 #[v] w fun e w' => e = .returned (.int .i64 ((1 + ((l.drop 1).takeWhile (· == l.getD 0 0)).length : Nat) : Int)) ∧ OnlyS (fun _ => False) w w' := by
  obtain ⟨p, c, rfl⟩ := hv.shape
  rw [ni_length] at *
  obtain ⟨n, hn⟩ : ∃ n, n = l.length := ⟨_, rfl⟩
  rw [← hn] at hv hl h0 ⊢
  have HN := Lib.hid hn
  obtain ⟨g, o, rfl, hrow⟩ := hv.some h0
  have hcap := hv.le
  have hc0 := hrow.ni 0 (by omega)
  rw [Nat.add_zero] at hc0
  obtain ⟨z, hz⟩ : ∃ z, z = l.getD 0 0 := ⟨_, rfl⟩
  rw [← hz] at hc0 ⊢
  have HR := Lib.hid (fun wx (ho : OnlyS (fun _ => False) w wx) => hrow.only ho (fun h => h))
  have HC0 := Lib.hid hc0
  have HZ := Lib.hid hz
  clear hv hn hrow hc0 hz
  go_enter Tryd.func69, Tryd.ntmps69
  go_wp2_with fail
  go_loopw [3] (fun v3 wr => ∃ k : Nat, 1 ≤ k ∧ k ≤ n ∧ v3 = .int .i64 (k : Int) ∧ (∀ j, j < k → l.getD j 0 = z) ∧ OnlyS (fun _ => False) w wr) (fun v3 _ => n - (intOf v3).toNat)
  case atStart => exact ⟨1, Nat.le_refl _, by omega, rfl, fun j hj => by obtain rfl : j = 0 := by omega
                                                                         exact HZ.out.symm, OnlyS.refl _ _⟩
  case round =>
    obtain ⟨k, hk1, hk, rfl, hall, ho⟩ := hrel
    have HA := Lib.hid hall
    have HO := Lib.hid ho
    have c0 := ho.cell HC0.out (fun h => h)
    by_cases hlt : k < n
    · have hlti : (k : Int) < (n : Int) := by omega
      have c1 := (HR.out wr ho).ni k (by rw [← HN.out]; exact hlt)
      obtain ⟨y, hy⟩ : ∃ y, y = l.getD k 0 := ⟨_, rfl⟩
      rw [← hy] at c1
      have HY := Lib.hid hy
      clear hall ho hy
      by_cases hyz : y = z
      · have HA2 : Hid (∀ j, j < k + 1 → l.getD j 0 = z) := Lib.hid (fun j hj => by
          rcases (by omega : j < k ∨ j = k) with h | h
          · exact HA.out j h
          · rw [h, ← HY.out]; exact hyz)
        subst hyz
        go_wp2_with fail
        go_region
        simp only [Exit.then]
        go_wp2_with fail
        exact ⟨⟨k + 1, by omega, by omega, by go_num, HA2.out, HO.out.trans (OnlyS.drew _)⟩, by simp [intOf]; omega⟩
      · have HE : Hid (1 + ((l.drop 1).takeWhile (· == z)).length = k) := Lib.hid (alk_is l z k hk1 (by rw [← HN.out]; exact hk) HA.out (fun _ => by rw [← HY.out]; exact hyz))
        have hzb : (y == z) = false := beq_eq_false_iff_ne.2 hyz
        clear hyz
        go_wp2_with fail
        go_region
        simp only [Exit.then]
        go_wp2_with fail
        go_ret
        exact ⟨by rw [HE.out]; rfl, HO.out.trans (OnlyS.drew _)⟩
    · obtain rfl : k = n := by omega
      have HE : Hid (1 + ((l.drop 1).takeWhile (· == z)).length = k) := Lib.hid (alk_is l z k hk1 (by rw [← HN.out]; exact hk) HA.out (fun h => by rw [← HN.out] at h; omega))
      have hlti : ¬ (k : Int) < (k : Int) := by omega
      clear hall ho
      go_wp2_with fail
      go_region
      simp only [Exit.then]
      go_wp2_with fail
      go_ret
      exact ⟨by rw [HE.out]; rfl, HO.out.trans (OnlyS.drew _)⟩
def run3 (g : Sg) : List Value := [.int .i64 (g.s : Int), .int .i64 (g.x : Int), .int .i64 (g.m : Int)]
def runV3 (g : Sg) : Value := .agg (run3 g).toArray
theorem only3 {w : World} {g G : Nat} {y0 y1 y2 : Value} (hg : G = g) : OnlyS (fun i => G ≤ i) w (((w.setCell ⟨g, 0, none⟩ y0).setCell ⟨g, 1, none⟩ y1).setCell ⟨g, 2, none⟩ y2) := by
  subst hg
  exact ((OnlyS.setCell (S := fun i => G ≤ i) _ _ _ _ (Nat.le_refl _)).trans (OnlyS.setCell _ _ _ _ (Nat.le_refl _))).trans (OnlyS.setCell _ _ _ _ (Nat.le_refl _))
theorem info101s : (Tryd.prog.info? 101).map (·.size) = some 3 := by kernel_rfl
set_option maxRecDepth 100000 in
set_option maxHeartbeats 4000000 in
theorem next_walk (w : World) (v : Value) (l : List Int) (kn : Bool) (hv : SlV w v (ni l)) (hl : l.length ≤ 1000000) (h0 : 0 < l.length) (hz0 : 0 ≤ l.getD 0 0 ∧ l.getD 0 0 ≤ 15) :
    Calls Tryd.prog 58 #[v, .bool kn] w fun e w' => e = .returned (.tuple #[runV3 (Df.nxt (l.getD 0 0) (l.drop 1) kn).1, .int .i64 ((Df.nxt (l.getD 0 0) (l.drop 1) kn).2 : Int)]) ∧ OnlyS (fun _ => False) w w' := by
  obtain ⟨w1, hw1⟩ : ∃ w1, w1 = w.alloc (.cells #[.int .i64 0, .int .i64 0, .int .i64 0] 101) := ⟨_, rfl⟩
  have ho1 : OnlyS (fun _ => False) w w1 := by rw [hw1]; exact OnlyS.alloc _ _
  have hr1 : w1.heap[w.heap.size]? = some (.cells #[.int .i64 0, .int .i64 0, .int .i64 0] 101 (0, 0)) := by rw [hw1]; exact heap_alloc_new w _
  have hv1 : SlV w1 v (ni l) := hv.only ho1 (fun _ _ _ _ _ h => h)
  have HC := Lib.hid (alike7_walk w1 v l hv1 hl h0)
  obtain ⟨p, c, rfl⟩ := hv.shape
  rw [ni_length] at *
  have hcap := hv.le
  obtain ⟨g, o, rfl, hrow⟩ := hv1.some h0
  have hc0 := hrow.ni 0 h0
  rw [Nat.add_zero] at hc0
  obtain ⟨z, hz⟩ : ∃ z, z = l.getD 0 0 := ⟨_, rfl⟩
  rw [← hz] at hc0 hz0 HC ⊢
  obtain ⟨m, hm⟩ : ∃ m, m = 1 + ((l.drop 1).takeWhile (· == z)).length := ⟨_, rfl⟩
  have hml : m ≤ 1000000 := by
    have := (List.takeWhile_prefix (· == z) (l := l.drop 1)).length_le
    rw [List.length_drop] at this; omega
  have hm1 : 1 ≤ m := by omega
  rw [← hm] at HC
  obtain ⟨n, hn⟩ : ∃ n, n = l.length := ⟨_, rfl⟩
  rw [← hn] at HC h0 hcap ⊢
  obtain ⟨R, hR⟩ : ∃ R, R = Df.nxt z (l.drop 1) kn := ⟨_, rfl⟩
  rw [← hR]
  unfold Df.nxt at hR
  rw [← hm] at hR
  have HR := Lib.hid hR
  have HW1 := Lib.hid hw1
  have HO1 := Lib.hid ho1
  have HR1 := Lib.hid hr1
  have HC0 := Lib.hid hc0
  clear hR hw1 ho1 hr1 hc0 hv hv1 hl hrow hm hn hz
  go_enter Tryd.func58, Tryd.ntmps58
  go_wp2_with fail
  rw [← HW1.out]
  go_wp2_with fail
  refine HC.out.mono ?_
  rintro e w2 ⟨rfl, ho2⟩
  have hr2 := (ho2.block _ (Array.getElem?_eq_some_iff.1 HR1.out).1 (fun h => h)).trans HR1.out
  obtain ⟨x0, x1, x2, f0, f1, f2⟩ := row3 hr2
  have c0 := ho2.cell HC0.out (fun h => h)
  have HR2 := Lib.hid hr2
  clear hr2
  have HO2 := Lib.hid (HO1.out.trans ho2)
  clear HC ho2 HR1 HC0 HW1
  by_cases hz : z = 0
  · subst hz
    by_cases h11 : 11 ≤ m
    · have HRE : Hid (R = (⟨18, min m 138 - 11, 7⟩, min m 138)) := Lib.hid (by rw [HR.out, if_pos ⟨rfl, h11⟩])
      obtain ⟨q, hq⟩ : ∃ q, q = min m 138 := ⟨_, rfl⟩
      have hqi : min (m : Int) 138 = (q : Int) := by omega
      have HQS : Hid ((q : Int) - 11 = ((q - 11 : Nat) : Int)) := Lib.hid (by omega)
      have hd : decide ((11 : Int) ≤ (m : Int)) = true := decide_eq_true (by omega)
      have hq11 : 11 ≤ q := by omega
      rw [← hq] at HRE
      clear h11 hq HR
      go_wp2_with fail
      rw [HQS.out]
      refine bodyPost_ret (results_cell_tmp (p := 4) (q := 5) (ty := 101) rfl _ _ w.heap.size 101 _ (0, 0) _ _ rfl rfl (set3 HR2.out) Tryd.underlying101 rfl info101s) rfl ?_
      exact ⟨by rw [HRE.out]; rfl, HO2.out.trans' (only3 (G := w.heap.size) rfl) (fun i hi => .inr hi)⟩
    · by_cases h3 : 3 ≤ m
      · have HRE : Hid (R = (⟨17, m - 3, 3⟩, m)) := Lib.hid (by rw [HR.out, if_neg (fun h => h11 h.2), if_pos ⟨rfl, h3⟩])
        have HQS : Hid ((m : Int) - 3 = ((m - 3 : Nat) : Int)) := Lib.hid (by omega)
        have hd : decide ((11 : Int) ≤ (m : Int)) = false := decide_eq_false (by omega)
        have hd3 : decide ((3 : Int) ≤ (m : Int)) = true := decide_eq_true (by omega)
        clear h11 h3 HR
        go_wp2_with fail
        rw [HQS.out]
        refine bodyPost_ret (results_cell_tmp (p := 4) (q := 5) (ty := 101) rfl _ _ w.heap.size 101 _ (0, 0) _ _ rfl rfl (set3 HR2.out) Tryd.underlying101 rfl info101s) rfl ?_
        exact ⟨by rw [HRE.out]; rfl, HO2.out.trans' (only3 (G := w.heap.size) rfl) (fun i hi => .inr hi)⟩
      · cases kn
        · have HRE : Hid (R = (⟨(0 : Int).toNat, 0, 0⟩, 1)) := Lib.hid (by rw [HR.out, if_neg (fun h => h11 h.2), if_neg (fun h => h3 h.2), if_neg (fun h => h3 h.2)])
          have hd : decide ((11 : Int) ≤ (m : Int)) = false := decide_eq_false (by omega)
          have hd3 : decide ((3 : Int) ≤ (m : Int)) = false := decide_eq_false (by omega)
          clear h11 h3
          clear HR
          go_wp2_with fail
          refine bodyPost_ret (results_cell_tmp (p := 4) (q := 5) (ty := 101) rfl _ _ w.heap.size 101 _ (0, 0) _ _ rfl rfl (set3 HR2.out) Tryd.underlying101 rfl info101s) rfl ?_
          refine ⟨?_, HO2.out.trans' (only3 (G := w.heap.size) rfl) (fun i hi => .inr hi)⟩
          rw [HRE.out]
          show Ending.returned (.tuple #[.agg #[.int .i64 0, .int .i64 0, .int .i64 0], .int .i64 1]) = .returned (.tuple #[.agg #[.int .i64 (((0 : Int).toNat : Nat) : Int), .int .i64 0, .int .i64 0], .int .i64 1])
          rfl
        · have HRE : Hid (R = (⟨(0 : Int).toNat, 0, 0⟩, 1)) := Lib.hid (by rw [HR.out, if_neg (fun h => h11 h.2), if_neg (fun h => h3 h.2), if_neg (fun h => h3 h.2)])
          have hd : decide ((11 : Int) ≤ (m : Int)) = false := decide_eq_false (by omega)
          have hd3 : decide ((3 : Int) ≤ (m : Int)) = false := decide_eq_false (by omega)
          clear h11 h3
          clear HR
          go_wp2_with fail
          refine bodyPost_ret (results_cell_tmp (p := 4) (q := 5) (ty := 101) rfl _ _ w.heap.size 101 _ (0, 0) _ _ rfl rfl (set3 HR2.out) Tryd.underlying101 rfl info101s) rfl ?_
          refine ⟨?_, HO2.out.trans' (only3 (G := w.heap.size) rfl) (fun i hi => .inr hi)⟩
          rw [HRE.out]
          show Ending.returned (.tuple #[.agg #[.int .i64 0, .int .i64 0, .int .i64 0], .int .i64 1]) = .returned (.tuple #[.agg #[.int .i64 (((0 : Int).toNat : Nat) : Int), .int .i64 0, .int .i64 0], .int .i64 1])
          rfl
  · have hzb0 : (z == 0) = false := beq_eq_false_iff_ne.2 hz
    cases kn
    · have HRE : Hid (R = (⟨z.toNat, 0, 0⟩, 1)) := Lib.hid (by rw [HR.out, if_neg (fun h => hz h.1), if_neg (fun h => hz h.1), if_neg (fun h => (by cases h.1))])
      have HZN : Hid (z = ((z.toNat : Nat) : Int)) := Lib.hid (by omega)
      have hzz := hz
      clear hz hzz
      clear HR
      go_wp2_with fail
      refine bodyPost_ret (results_cell_tmp (p := 4) (q := 5) (ty := 101) rfl _ _ w.heap.size 101 _ (0, 0) _ _ rfl rfl (set3 HR2.out) Tryd.underlying101 rfl info101s) rfl ?_
      refine ⟨?_, HO2.out.trans' (only3 (G := w.heap.size) rfl) (fun i hi => .inr hi)⟩
      rw [HRE.out]
      show Ending.returned (.tuple #[.agg #[.int .i64 z, .int .i64 0, .int .i64 0], .int .i64 1]) = .returned (.tuple #[.agg #[.int .i64 ((z.toNat : Nat) : Int), .int .i64 0, .int .i64 0], .int .i64 1])
      rw [← HZN.out]
    · by_cases h3 : 3 ≤ m
      · have HRE : Hid (R = (⟨16, min m 6 - 3, 2⟩, min m 6)) := Lib.hid (by rw [HR.out, if_neg (fun h => hz h.1), if_neg (fun h => hz h.1), if_pos ⟨rfl, h3⟩])
        obtain ⟨q, hq⟩ : ∃ q, q = min m 6 := ⟨_, rfl⟩
        have hqi : min (m : Int) 6 = (q : Int) := by omega
        have HQS : Hid ((q : Int) - 3 = ((q - 3 : Nat) : Int)) := Lib.hid (by omega)
        have hq3 : 3 ≤ q := by omega
        have hd3 : decide ((3 : Int) ≤ (m : Int)) = true := decide_eq_true (by omega)
        rw [← hq] at HRE
        clear hz h3 hq HR
        go_wp2_with fail
        rw [HQS.out]
        refine bodyPost_ret (results_cell_tmp (p := 4) (q := 5) (ty := 101) rfl _ _ w.heap.size 101 _ (0, 0) _ _ rfl rfl (set3 HR2.out) Tryd.underlying101 rfl info101s) rfl ?_
        exact ⟨by rw [HRE.out]; rfl, HO2.out.trans' (only3 (G := w.heap.size) rfl) (fun i hi => .inr hi)⟩
      · have HRE : Hid (R = (⟨z.toNat, 0, 0⟩, 1)) := Lib.hid (by rw [HR.out, if_neg (fun h => hz h.1), if_neg (fun h => hz h.1), if_neg (fun h => h3 h.2)])
        have HZN : Hid (z = ((z.toNat : Nat) : Int)) := Lib.hid (by omega)
        have hd3 : decide ((3 : Int) ≤ (m : Int)) = false := decide_eq_false (by omega)
        clear hz h3
        clear HR
        go_wp2_with fail
        refine bodyPost_ret (results_cell_tmp (p := 4) (q := 5) (ty := 101) rfl _ _ w.heap.size 101 _ (0, 0) _ _ rfl rfl (set3 HR2.out) Tryd.underlying101 rfl info101s) rfl ?_
        refine ⟨?_, HO2.out.trans' (only3 (G := w.heap.size) rfl) (fun i hi => .inr hi)⟩
        rw [HRE.out]
        show Ending.returned (.tuple #[.agg #[.int .i64 z, .int .i64 0, .int .i64 0], .int .i64 1]) = .returned (.tuple #[.agg #[.int .i64 ((z.toNat : Nat) : Int), .int .i64 0, .int .i64 0], .int .i64 1])
        rw [← HZN.out]
end Go.Proofs.YtphdcgioeokfbaaDoor
/-
  Parts of rows of ints.
-/
namespace Go.Proofs.YtphdcgioeokfbaaDoor
open Go.RowKit
theorem from53 {w : World} {p : Option Addr} {n cap : Nat} {vs : List Value} (h : SlV w (.slice p n cap) vs) (i : Nat) (hj : i ≤ n) :
    ∃ p', (∀ w', (Instr.sliceAt 91 (.slice p n cap) (some (.int .i64 (i : Int))) none none).run Tryd.prog w' = .ok (.slice p' (n - i) (cap - i)) w') ∧ SlV w (.slice p' (n - i) (cap - i)) (vs.drop i) ∧ ∀ b, p' = some b → ∃ a, p = some a ∧ a.block = b.block := by
  rcases h with ⟨g, o, cap', h, h2, hB⟩ | ⟨p', h, rfl⟩
  · cases h
    have hl : (vs.drop i).length = vs.length - i := by simp
    have h1 : (0 : Int) ≤ (i : Int) := by omega
    have h3 : (i : Int) ≤ (vs.length : Int) := by omega
    have h4 : (vs.length : Int) ≤ (cap : Int) := by omega
    by_cases hck : cap = i
    · have hji : vs.length = i := by omega
      have hz : vs.length - i = 0 := by omega
      have hd : vs.drop i = [] := List.drop_eq_nil_of_le (by omega)
      have hc : cap - i = 0 := by omega
      rw [hz, hd, hc]
      refine ⟨some ⟨g, o, none⟩, fun w' => ?_, .inr ⟨some ⟨g, o, none⟩, rfl, rfl⟩, fun b hb => ⟨_, rfl, by cases hb; rfl⟩⟩
      subst hck
      rw [hji]
      go_simp
    · refine ⟨some ⟨g, o + i, none⟩, fun w' => ?_, .inl ⟨g, o + i, cap - i, by rw [hl], by rw [hl]; omega, hB.drop i⟩, fun b hb => ⟨_, rfl, by cases hb; rfl⟩⟩
      go_simp
  · have h0 : n = 0 ∧ cap = 0 ∧ p' = p := by cases h; exact ⟨rfl, rfl, rfl⟩
    obtain ⟨rfl, rfl, rfl⟩ := h0
    obtain rfl : i = 0 := by omega
    refine ⟨p', fun w' => ?_, .inr ⟨p', rfl, by simp⟩, fun b hb => ⟨b, hb, rfl⟩⟩
    show (Instr.sliceAt 91 (.slice p' 0 0) (some (.int .i64 0)) none none).run Tryd.prog w' = .ok (.slice p' 0 0) w'
    cases p' with
    | none => kernel_rfl
    | some a => kernel_rfl
theorem to53 {w : World} {p : Option Addr} {n cap : Nat} {vs : List Value} (h : SlV w (.slice p n cap) vs) (k : Nat) (hk : k ≤ n) : ∀ w', (Instr.sliceAt 91 (.slice p n cap) none (some (.int .i64 (k : Int))) none).run Tryd.prog w' = .ok (.slice p k cap) w' := by
  intro w'
  have hc := h.le
  rcases h with ⟨g, o, cap', h, _, _⟩ | ⟨p', h, _⟩
  · have hp : p = some ⟨g, o, none⟩ := by cases h; rfl
    subst hp
    clear h
    have h1 : (0 : Int) ≤ (k : Int) := by omega
    have h2 : (k : Int) ≤ (cap : Int) := by omega
    go_simp
  · have hc : cap = 0 ∧ p = p' ∧ n = 0 := by cases h; exact ⟨rfl, rfl, rfl⟩
    obtain ⟨rfl, rfl, rfl⟩ := hc
    obtain rfl : k = 0 := by omega
    show (Instr.sliceAt 91 (.slice p 0 0) none (some (.int .i64 0)) none).run Tryd.prog w' = .ok (.slice p 0 0) w'
    cases p with
    | none => kernel_rfl
    | some a => kernel_rfl

end Go.Proofs.YtphdcgioeokfbaaDoor
