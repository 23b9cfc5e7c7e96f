/-
  Merged, in the order in which they build: Lng.
-/
import Derived.Test.YtphdcgioeokfbaaDoorMg25
/-
  sort.Search; Long and Far: signs of copies.
-/
namespace Go.Proofs.YtphdcgioeokfbaaDoor
open Go.RowKit Hf
/-- A table of spans, as it is laid. -/
def TabAt (g : Nat) (t : List (Nat × Nat)) (w : World) : Prop := ∀ k, k < t.length → w.cell? ⟨g, k * 2, none⟩ = some (.int .i64 ((t.getD k (0, 0)).1 : Int)) ∧ w.cell? ⟨g, k * 2 + 1, none⟩ = some (.int .i64 ((t.getD k (0, 0)).2 : Int))
theorem TabAt.only {g : Nat} {t : List (Nat × Nat)} {w w' : World} {S : Nat → Prop} (h : TabAt g t w) (ho : OnlyS S w w') (hS : ¬ S g) : TabAt g t w' := fun k hk => ⟨ho.cell (h k hk).1 hS, ho.cell (h k hk).2 hS⟩
set_option maxRecDepth 100000 in
set_option maxHeartbeats 1000000 in
theorem search_walk (w : World) (n cl : Nat) (cap : Array Value) (p : Nat → Bool) (hn : n ≤ 1000000) (hent : ∀ (args : Array Value) (w : World), (callFunc cl args).run Tryd.prog w = .ok (.enter cl args) w)
    (hc : ∀ wx k, OnlyS (fun _ => False) w wx → k < n → Calls Tryd.prog cl (#[.int .i64 (k : Int)] ++ cap) wx fun e w' => e = .returned (.bool (p k)) ∧ OnlyS (fun _ => False) wx w') (hmono : ∀ a b, a ≤ b → b < n → p a = true → p b = true) :
    Calls Tryd.prog 7 #[.int .i64 (n : Int), .func (.func cl) #[] cap] w fun e w' => (∃ r : Nat, e = .returned (.int .i64 (r : Int)) ∧ r ≤ n ∧ (∀ k, k < r → p k = false) ∧ (r < n → p r = true)) ∧ OnlyS (fun _ => False) w w' := by
  have HC := Lib.hid hc
  have HE := Lib.hid hent
  have HM := Lib.hid hmono
  clear hc hmono
  go_enter Tryd.func7, Tryd.ntmps7
  go_wp2_with fail
  go_loopw [5, 6] (fun v5 v6 wr => ∃ i j : Nat, v5 = .int .i64 (i : Int) ∧ v6 = .int .i64 (j : Int) ∧ i ≤ j ∧ j ≤ n ∧ (∀ k, k < i → p k = false) ∧ (j < n → p j = true) ∧ OnlyS (fun _ => False) w wr) (fun v5 v6 _ => (intOf v6).toNat - (intOf v5).toNat)
  case atStart => exact ⟨0, n, rfl, rfl, Nat.zero_le _, Nat.le_refl _, fun k h => by omega, fun h => by omega, OnlyS.refl _ _⟩
  case round =>
    obtain ⟨i, j, rfl, rfl, hij, hjn, hlo, hhi, ho⟩ := hrel
    have HLO := Lib.hid hlo
    have HHI := Lib.hid hhi
    have HO := Lib.hid ho
    clear hlo hhi
    by_cases hlt : i < j
    · have hlti : (i : Int) < (j : Int) := by omega
      obtain ⟨m, hm⟩ : ∃ m, m = (i + j) / 2 := ⟨_, rfl⟩
      have hmi : ((i : Int) + (j : Int)) / 2 = (m : Int) := by omega
      have hm1 : i ≤ m := by omega
      have hm2 : m < j := by omega
      have HMI := Lib.hid hmi
      have HCm := Lib.hid (HC.out wr m ho (by omega))
      clear ho hm hmi
      go_wp2_with fail
      rw [HMI.out]
      refine HCm.out.mono ?_
      rintro e w2 ⟨rfl, ho2⟩
      have HO2 := Lib.hid (HO.out.trans ho2)
      clear ho2 HCm
      cases hp : p m with
      | false =>
        have HLO2 : Hid (∀ k, k < m + 1 → p k = false) := Lib.hid (fun k hk => by
          cases hpk : p k with
          | false => rfl
          | true =>
            have := HM.out k m (by omega) (by omega) hpk
            rw [hp] at this; cases this)
        clear hp
        go_wp2_with fail
        exact ⟨⟨m + 1, j, by go_num, rfl, by omega, hjn, HLO2.out, HHI.out, HO2.out⟩, by simp [intOf]; omega⟩
      | true =>
        have HHI2 := Lib.hid hp
        clear hp
        go_wp2_with fail
        exact ⟨⟨i, m, rfl, rfl, by omega, by omega, HLO.out, fun _ => HHI2.out, HO2.out⟩, by simp [intOf]; omega⟩
    · have hlti : ¬ (i : Int) < (j : Int) := by omega
      obtain rfl : i = j := by omega
      go_wp2_with fail
      go_ret
      exact ⟨⟨i, rfl, hjn, HLO.out, HHI.out⟩, HO.out⟩
theorem look_is (t : List (Nat × Nat)) (n r : Nat) (hr : r ≤ t.length) (h1 : ∀ k, k < r → decide (n < (t.getD k (0, 0)).1) = false) (h2 : r < t.length → decide (n < (t.getD r (0, 0)).1) = true) : (t.takeWhile fun e => Nat.ble e.1 n).length = r := by
  obtain ⟨m, hm⟩ : ∃ m, m = (t.takeWhile fun e => Nat.ble e.1 n).length := ⟨_, rfl⟩
  have hle : m ≤ t.length := by rw [hm]; exact (List.takeWhile_prefix _).length_le
  rw [← hm]
  rcases Nat.lt_trichotomy m r with h | h | h
  · have e := Df.take_while_end (fun e : Nat × Nat => Nat.ble e.1 n) (0, 0) t (by rw [← hm]; omega)
    rw [← hm] at e
    have h3 := of_decide_eq_false (h1 m h)
    have h4 : Nat.ble (t.getD m (0, 0)).1 n = true := Nat.ble_eq_true_of_le (by omega)
    have e2 : Nat.ble (t.getD m (0, 0)).1 n = false := e
    rw [h4] at e2; cases e2
  · exact h
  · have e := Df.take_while_at (fun e : Nat × Nat => Nat.ble e.1 n) (0, 0) t r (by rw [← hm]; omega)
    have h3 := of_decide_eq_true (h2 (by omega))
    have h4 := Nat.le_of_ble_eq_true e
    omega
theorem mono_of (t : List (Nat × Nat)) (hs : ∀ a, a + 1 < t.length → (t.getD a (0, 0)).1 ≤ (t.getD (a + 1) (0, 0)).1) : ∀ (d a : Nat), a + d < t.length → (t.getD a (0, 0)).1 ≤ (t.getD (a + d) (0, 0)).1
  | 0, _, _ => Nat.le_refl _
  | d + 1, a, h => Nat.le_trans (mono_of t hs d a (by omega)) (hs (a + d) (by omega))
set_option maxRecDepth 100000 in
set_option maxHeartbeats 1000000 in
theorem lcl_walk (w : World) (gx k n : Nat) (ht : TabAt 0 Df.longs w) (hc : w.cell? ⟨gx, 0, none⟩ = some (.int .i64 (n : Int))) (hk : k < 29) :
    Calls Tryd.prog 8 #[.int .i64 (k : Int), .pointer (some ⟨gx, 0, none⟩)] w fun e w' => e = .returned (.bool (decide (n < (Df.longs.getD k (0, 0)).1))) ∧ OnlyS (fun _ => False) w w' := by
  have c0 := (ht k hk).1
  obtain ⟨x, hx⟩ : ∃ x, x = (Df.longs.getD k (0, 0)).1 := ⟨_, rfl⟩
  rw [← hx] at c0 ⊢
  have hki : (0 : Int) ≤ (k : Int) := by omega
  have hk2 : (k : Int) < 29 := by omega
  clear ht hx
  go_enter Tryd.func8, Tryd.ntmps8
  go_wp2_with fail
  go_region
  simp only [Exit.then]
  go_wp2_with fail
  go_ret
  exact ⟨rfl, OnlyS.drew _⟩
set_option maxRecDepth 100000 in
set_option maxHeartbeats 1000000 in
theorem fcl_walk (w : World) (gx k n : Nat) (ht : TabAt 1 Df.fars w) (hc : w.cell? ⟨gx, 0, none⟩ = some (.int .i64 (n : Int))) (hk : k < 30) :
    Calls Tryd.prog 9 #[.int .i64 (k : Int), .pointer (some ⟨gx, 0, none⟩)] w fun e w' => e = .returned (.bool (decide (n < (Df.fars.getD k (0, 0)).1))) ∧ OnlyS (fun _ => False) w w' := by
  have c0 := (ht k hk).1
  obtain ⟨x, hx⟩ : ∃ x, x = (Df.fars.getD k (0, 0)).1 := ⟨_, rfl⟩
  rw [← hx] at c0 ⊢
  have hki : (0 : Int) ≤ (k : Int) := by omega
  have hk2 : (k : Int) < 30 := by omega
  clear ht hx
  go_enter Tryd.func9, Tryd.ntmps9
  go_wp2_with fail
  go_region
  simp only [Exit.then]
  go_wp2_with fail
  go_ret
  exact ⟨rfl, OnlyS.drew _⟩
theorem longs_up : ∀ a, a < 28 → (Df.longs.getD a (0, 0)).1 ≤ (Df.longs.getD (a + 1) (0, 0)).1 := by decide +kernel
set_option maxRecDepth 100000 in
set_option maxHeartbeats 2000000 in
theorem Long_walk (w : World) (n : Nat) (ht : TabAt 0 Df.longs w) (h1 : 3 ≤ n) (h2 : n ≤ 258) :
    Calls Tryd.prog 4 #[.int .i64 (n : Int)] w fun e w' => e = .returned (.tuple #[.int .i64 ((Df.lsg n).s : Int), .int .i64 ((Df.lsg n).m : Int), .int .i64 ((Df.lsg n).x : Int)]) ∧ OnlyS (fun _ => False) w w' := by
  obtain ⟨w1, hw1⟩ : ∃ w1, w1 = w.alloc (.cells #[.int .i64 (n : Int)] 3) := ⟨_, rfl⟩
  have ho1 : OnlyS (fun _ => False) w w1 := by rw [hw1]; exact OnlyS.alloc _ _
  have hr1 : w1.heap[w.heap.size]? = some (.cells #[.int .i64 (n : Int)] 3 (0, 0)) := by rw [hw1]; exact heap_alloc_new w _
  have hc1 : w1.cell? ⟨w.heap.size, 0, none⟩ = some (.int .i64 (n : Int)) := cell_of_row _ _ 0 _ _ _ hr1
  have HT := Lib.hid (ht.only ho1 (fun h => h))
  have HC := Lib.hid (fun (wx : World) (k : Nat) (h : OnlyS (fun _ => False) w1 wx) (hk : k < 29) => lcl_walk wx w.heap.size k n (HT.out.only h (fun h => h)) (h.cell hc1 (fun h => h)) hk)
  have HS := Lib.hid (search_walk w1 29 8 #[.pointer (some ⟨w.heap.size, 0, none⟩)] (fun k => decide (n < (Df.longs.getD k (0, 0)).1)) (by decide) (fun _ _ => rfl) (fun wx k h hk => HC.out wx k h hk) (fun a b hab hb hp => by
    have hm := mono_of Df.longs (fun a h => longs_up a (by have h' : a + 1 < 29 := h; omega)) (b - a) a (by show a + (b - a) < 29; omega)
    rw [show a + (b - a) = b by omega] at hm
    have := of_decide_eq_true hp
    exact decide_eq_true (by omega)))
  have hmf : ∀ (fn : Fn) (first cap : Array Value) (w : World), (Instr.makeFunc fn first cap).run Tryd.prog w = .ok (.func fn first cap) w := fun _ _ _ _ => rfl
  have HO1 := Lib.hid ho1
  have e1 : decide ((n : Int) < 3) = false := decide_eq_false (by omega)
  have e2 : decide ((258 : Int) < (n : Int)) = false := decide_eq_false (by omega)
  have H1 := Lib.hid h1
  have H2 := Lib.hid h2
  have HW1 := Lib.hid hw1
  have HC1 := Lib.hid hc1
  clear ht ho1 hr1 HC h1 h2 hw1
  go_enter Tryd.func4, Tryd.ntmps4
  go_wp2_with fail
  rw [← HW1.out]
  clear HW1
  go_wp2_with fail
  refine HS.out.mono ?_
  rintro e w2 ⟨⟨r, rfl, hrn, hlo, hhi⟩, ho2⟩
  have hlen := look_is Df.longs n r hrn hlo hhi
  have hr0 : 0 < r := by
    rcases Nat.eq_zero_or_pos r with h | h
    · subst h
      have h3 : decide (n < 3) = true := hhi (by decide)
      have := of_decide_eq_true h3
      have := H1.out
      omega
    · exact h
  obtain ⟨q, rfl⟩ : ∃ q, r = q + 1 := ⟨r - 1, by omega⟩
  have hq : Df.look Df.longs n = q := by unfold Df.look; rw [hlen]; rfl
  have hxn := of_decide_eq_false (hlo q (by omega))
  have ht2 := (HT.out.only ho2 (fun h => h)) q hrn
  obtain ⟨x, hx⟩ : ∃ x, x = (Df.longs.getD q (0, 0)).1 := ⟨_, rfl⟩
  obtain ⟨m, hm⟩ : ∃ m, m = (Df.longs.getD q (0, 0)).2 := ⟨_, rfl⟩
  rw [← hx] at hxn ht2
  rw [← hm] at ht2
  obtain ⟨c0, c1⟩ := ht2
  have hn2 : w2.cell? ⟨w.heap.size, 0, none⟩ = some (.int .i64 (n : Int)) := ho2.cell HC1.out (fun h => h)
  have HSG : Hid (Df.lsg n = ⟨257 + q, n - x, m⟩) := Lib.hid (by unfold Df.lsg; rw [hq, ← hx, ← hm])
  have h2 := H2.out
  have HX : Hid (wrap64 ((n : Int) - (x : Int)) = ((n - x : Nat) : Int)) := Lib.hid (by unfold wrap64; omega)
  have HQ : Hid (257 + (q : Int) = ((257 + q : Nat) : Int)) := Lib.hid (by omega)
  have hq29 : q < 29 := hrn
  have hqi : (q : Int) < 29 := by omega
  have hq0 : (0 : Int) ≤ (q : Int) := by omega
  have HO2 := Lib.hid (HO1.out.trans ho2)
  have hqq : ((q + 1 : Nat) : Int) - 1 = (q : Int) := by omega
  clear h2 HS HO1 HC1 HT hlo hhi hlen hr0 hq hxn hx hm ho2 hc1 hrn
  go_wp2_with fail
  go_region
  simp only [Exit.then]
  go_wp2_with fail
  refine bodyPost_ret (results_tmp3 rfl _ _ _) rfl ?_
  refine ⟨?_, HO2.out.trans (OnlyS.drew _)⟩
  rw [HSG.out]
  show Ending.returned (.tuple #[.int .i64 (257 + (q : Int)), .int .i64 (m : Int), .int .i64 (wrap64 ((n : Int) - (x : Int)))]) = _
  rw [HX.out, HQ.out]
theorem fars_up : ∀ a, a < 29 → (Df.fars.getD a (0, 0)).1 ≤ (Df.fars.getD (a + 1) (0, 0)).1 := by decide +kernel
set_option maxRecDepth 100000 in
set_option maxHeartbeats 2000000 in
theorem Far_walk (w : World) (n : Nat) (ht : TabAt 1 Df.fars w) (h1 : 1 ≤ n) (h2 : n ≤ 32768) :
    Calls Tryd.prog 5 #[.int .i64 (n : Int)] w fun e w' => e = .returned (.tuple #[.int .i64 ((Df.fsg n).s : Int), .int .i64 ((Df.fsg n).m : Int), .int .i64 ((Df.fsg n).x : Int)]) ∧ OnlyS (fun _ => False) w w' := by
  obtain ⟨w1, hw1⟩ : ∃ w1, w1 = w.alloc (.cells #[.int .i64 (n : Int)] 3) := ⟨_, rfl⟩
  have ho1 : OnlyS (fun _ => False) w w1 := by rw [hw1]; exact OnlyS.alloc _ _
  have hr1 : w1.heap[w.heap.size]? = some (.cells #[.int .i64 (n : Int)] 3 (0, 0)) := by rw [hw1]; exact heap_alloc_new w _
  have hc1 : w1.cell? ⟨w.heap.size, 0, none⟩ = some (.int .i64 (n : Int)) := cell_of_row _ _ 0 _ _ _ hr1
  have HT := Lib.hid (ht.only ho1 (fun h => h))
  have HC := Lib.hid (fun (wx : World) (k : Nat) (h : OnlyS (fun _ => False) w1 wx) (hk : k < 30) => fcl_walk wx w.heap.size k n (HT.out.only h (fun h => h)) (h.cell hc1 (fun h => h)) hk)
  have HS := Lib.hid (search_walk w1 30 9 #[.pointer (some ⟨w.heap.size, 0, none⟩)] (fun k => decide (n < (Df.fars.getD k (0, 0)).1)) (by decide) (fun _ _ => rfl) (fun wx k h hk => HC.out wx k h hk) (fun a b hab hb hp => by
    have hm := mono_of Df.fars (fun a h => fars_up a (by have h' : a + 1 < 30 := h; omega)) (b - a) a (by show a + (b - a) < 30; omega)
    rw [show a + (b - a) = b by omega] at hm
    have := of_decide_eq_true hp
    exact decide_eq_true (by omega)))
  have hmf : ∀ (fn : Fn) (first cap : Array Value) (w : World), (Instr.makeFunc fn first cap).run Tryd.prog w = .ok (.func fn first cap) w := fun _ _ _ _ => rfl
  have HO1 := Lib.hid ho1
  have e1 : decide ((n : Int) < 1) = false := decide_eq_false (by omega)
  have e2 : decide ((32768 : Int) < (n : Int)) = false := decide_eq_false (by omega)
  have H1 := Lib.hid h1
  have H2 := Lib.hid h2
  have HW1 := Lib.hid hw1
  have HC1 := Lib.hid hc1
  clear ht ho1 hr1 HC h1 h2 hw1
  go_enter Tryd.func5, Tryd.ntmps5
  go_wp2_with fail
  rw [← HW1.out]
  clear HW1
  go_wp2_with fail
  refine HS.out.mono ?_
  rintro e w2 ⟨⟨r, rfl, hrn, hlo, hhi⟩, ho2⟩
  have hlen := look_is Df.fars n r hrn hlo hhi
  have hr0 : 0 < r := by
    rcases Nat.eq_zero_or_pos r with h | h
    · subst h
      have h3 : decide (n < 1) = true := hhi (by decide)
      have := of_decide_eq_true h3
      have := H1.out
      omega
    · exact h
  obtain ⟨q, rfl⟩ : ∃ q, r = q + 1 := ⟨r - 1, by omega⟩
  have hq : Df.look Df.fars n = q := by unfold Df.look; rw [hlen]; rfl
  have hxn := of_decide_eq_false (hlo q (by omega))
  have ht2 := (HT.out.only ho2 (fun h => h)) q hrn
  obtain ⟨x, hx⟩ : ∃ x, x = (Df.fars.getD q (0, 0)).1 := ⟨_, rfl⟩
  obtain ⟨m, hm⟩ : ∃ m, m = (Df.fars.getD q (0, 0)).2 := ⟨_, rfl⟩
  rw [← hx] at hxn ht2
  rw [← hm] at ht2
  obtain ⟨c0, c1⟩ := ht2
  have hn2 : w2.cell? ⟨w.heap.size, 0, none⟩ = some (.int .i64 (n : Int)) := ho2.cell HC1.out (fun h => h)
  have HSG : Hid (Df.fsg n = ⟨q, n - x, m⟩) := Lib.hid (by unfold Df.fsg; rw [hq, ← hx, ← hm])
  have h2 := H2.out
  have HX : Hid (wrap64 ((n : Int) - (x : Int)) = ((n - x : Nat) : Int)) := Lib.hid (by unfold wrap64; omega)
  have hq30 : q < 30 := hrn
  have hqi : (q : Int) < 30 := by omega
  have hq0 : (0 : Int) ≤ (q : Int) := by omega
  have HO2 := Lib.hid (HO1.out.trans ho2)
  have hqq : ((q + 1 : Nat) : Int) - 1 = (q : Int) := by omega
  clear h2 HS HO1 HC1 HT hlo hhi hlen hr0 hq hxn hx hm ho2 hc1 hrn
  go_wp2_with fail
  go_region
  simp only [Exit.then]
  go_wp2_with fail
  refine bodyPost_ret (results_tmp3 rfl _ _ _) rfl ?_
  refine ⟨?_, HO2.out.trans (OnlyS.drew _)⟩
  rw [HSG.out]
  show Ending.returned (.tuple #[.int .i64 (q : Int), .int .i64 (m : Int), .int .i64 (wrap64 ((n : Int) - (x : Int)))]) = _
  rw [HX.out]
end Go.Proofs.YtphdcgioeokfbaaDoor
