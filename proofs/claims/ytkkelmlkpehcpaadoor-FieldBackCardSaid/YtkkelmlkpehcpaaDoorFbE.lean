/-
  The law there and back, some of its cases.
-/
import Derived.Test.YtkkelmlkpehcpaaDoorFb
namespace Go.Proofs.YtkkelmlkpehcpaaDoor
open Go.RowKit

set_option maxRecDepth 100000 in
set_option maxHeartbeats 2000000 in
theorem back_Op_Wa_Tn (w : World) (n : Int) (h1 : -9223372036854775808 ≤ n) (h2 : n < 9223372036854775808) (many : Nat) (hm : many < 256) (K : Nat) (hK : 2 + (many : Int) % 19 = (K : Int) + 1) (k1 : 1 ≤ K) (k2 : K ≤ 19) (s : List UInt8) (hs : s.length ≤ 9223372036854775807) (ht : TzAt w)
    (h0 : 0 ≤ n) (ho : (8 : Int) ^ K ≤ n) (hf : Fx.fits n ((K + 1 : Nat) : Int)) (hk : K < 19) (hz : 0 ∉ s.take 300) :
    Calls Tryd.prog 6 #[.int .i64 n, .int .u8 (many : Int), .string ⟨s.toArray⟩] w (WakesPost w) := by
  have HT := Lib.hid ht
  have hcut := cut300 s hs
  have hsz : (⟨s.toArray⟩ : ByteArray).size = s.length := by simp [ByteArray.size]
  obtain ⟨bs, hbs⟩ : ∃ bs, (⟨s.toArray⟩ : ByteArray) = bs := ⟨_, rfl⟩
  rw [hbs] at hsz hcut ⊢
  have hs2 : (bs.size : Int) ≤ 9223372036854775807 := by omega
  have hm2 : (many : Int) < 256 := by omega
  have hl3 : (s.take 300).length ≤ 300 := by simp; omega
  obtain ⟨x, hx⟩ : ∃ x, s.take 300 = x := ⟨_, rfl⟩
  rw [hx] at hz hl3 hcut
  have HO := Lib.hid (oct_long' w n K k1 k2 h1 h2 (.inr ho) ht)
  have HW : Hid (∀ w, _) := Lib.hid (fun w => wide_fits w n ((K : Int) + 1) (K + 1) (by omega) (by omega) (by omega) h1 h2 hf)
  have HW2 : Hid (∀ w, _) := Lib.hid (fun w => wide_fits w n ((K : Int) + 1 + 1) (K + 2) (by omega) (by omega) (by omega) h1 h2 (by have := fits_more n (K + 1) (by omega) hf; rwa [show (((K + 1 : Nat) : Int) + 1) = ((K + 2 : Nat) : Int) by omega] at this))
  obtain ⟨s1, hs1, hi1, hp1, hn1⟩ := shr_minB n h1 h2 K (by omega) w
  obtain rfl : s1 = 0 := by have := hi1.1 hf; have := hp1 h0; omega
  have hi2 := shr_octB n h0 K
  have g2 : n / 2 ^ (3 * K) ≠ 0 := fun h => by have := hi2.2 h; omega
  have e2 : (n / 2 ^ (3 * K) == 0) = false := by rw [beq_eq_false_iff_ne]; exact g2
  clear g2
  have hge : decide (0 ≤ n) = true := decide_eq_true h0
  have h63 : decide (63 ≤ 3 * (K : Int)) = false := decide_eq_false (by omega)
  clear hi2
  have h20 : decide ((K : Int) + 1 < 20) = true := decide_eq_true (by omega)
  have kk1 : 1 ≤ (K : Int) := by omega
  have kk2 : (K : Int) ≤ 19 := by omega
  have hnn : (n == n) = true := by simp
  have HZ := Lib.hid (And.intro hz hl3)
  clear hz hl3 hi1 hp1 hn1 hf hsz hbs hs hx h1 h2 hm k1 k2 ht h0 ho hk
  go_enter Tryd.func6, Tryd.ntmps6
  simp only [List.append_eq, List.cons_append, List.nil_append]
  go_wp2_with (first
    | ((with_reducible refine HO.out.mono ?_); rintro e w1 ⟨va, rfl, ha, hb⟩; have HA := Lib.hid ha; have B1 := Lib.hid hb; clear ha hb)
    | ((with_reducible refine (HW.out w1).mono ?_); rintro e w2 ⟨gb, cb, lb, bb, rfl, hv, hnb, hcb, hb8, hb⟩; have HV := Lib.hid (And.intro hv hnb); have B2 := Lib.hid hb; have HA2 := Lib.hid (HA.out.below B2.out (Nat.le_refl _)); clear hv hnb hb)
    | ((with_reducible refine (num_none w2 _ HA2.out).mono ?_); rintro e w3 ⟨rfl, rfl⟩)
    | ((with_reducible refine (num_of w2 _ _ n HV.out.1 HV.out.2 (by have := HV.out.1.llen; omega)).mono ?_); rintro e w3 ⟨rfl, rfl⟩)
    | ((with_reducible refine (HW2.out w2).mono ?_); rintro e w4 ⟨gd, cd, ld, bd, rfl, hd, hnd, _, _, hb⟩; have HD := Lib.hid (And.intro hd hnd); have B4 := Lib.hid hb; clear hd hnd hb)
    | ((with_reducible refine (num_of w4 _ _ n HD.out.1 HD.out.2 (by have := HD.out.1.llen; omega)).mono ?_); rintro e w5 ⟨rfl, rfl⟩)
    | ((with_reducible refine (txt_fits w4 x HZ.out.2 HZ.out.1).mono ?_); rintro e w6 ⟨gt, ct, rfl, hx6, hb⟩; have H6 := Lib.hid hx6; have B6 : Hid (Below w.heap.size w w6) := Lib.hid (((B1.out.trans (B2.out.mono B1.out.size)).trans (B4.out.mono (B1.out.trans (B2.out.mono B1.out.size)).size)).trans (hb.mono ((B1.out.trans (B2.out.mono B1.out.size)).trans (B4.out.mono (B1.out.trans (B2.out.mono B1.out.size)).size)).size)); clear hx6 hb)
    | ((with_reducible refine (str_of w6 _ x _ H6.out HZ.out.1 HZ.out.2 (by omega)).mono ?_); rintro e w7 ⟨rfl, hb⟩; have B7 : Hid (Below w.heap.size w w7) := Lib.hid (B6.out.trans (hb.mono B6.out.size)); clear hb)
    | ((with_reducible refine (wakes_walk _ (HT.out.below B7.out (Nat.le_refl _))).mono ?_); rintro e w8 ⟨rfl, hb⟩; have B8 : Hid (Below w.heap.size w w8) := Lib.hid (B7.out.trans (hb.mono B7.out.size)); clear hb))
  go_ret
  exact ⟨rfl, B8.out⟩
set_option maxRecDepth 100000 in
set_option maxHeartbeats 2000000 in
theorem back_Op_Wb_Tn (w : World) (n : Int) (h1 : -9223372036854775808 ≤ n) (h2 : n < 9223372036854775808) (many : Nat) (hm : many < 256) (K : Nat) (hK : 2 + (many : Int) % 19 = (K : Int) + 1) (k1 : 1 ≤ K) (k2 : K ≤ 19) (s : List UInt8) (hs : s.length ≤ 9223372036854775807) (ht : TzAt w)
    (h0 : 0 ≤ n) (ho : (8 : Int) ^ K ≤ n) (hf : Fx.fits n ((K + 1 : Nat) : Int)) (hk : K = 19) (hz : 0 ∉ s.take 300) :
    Calls Tryd.prog 6 #[.int .i64 n, .int .u8 (many : Int), .string ⟨s.toArray⟩] w (WakesPost w) := by
  have HT := Lib.hid ht
  have hcut := cut300 s hs
  have hsz : (⟨s.toArray⟩ : ByteArray).size = s.length := by simp [ByteArray.size]
  obtain ⟨bs, hbs⟩ : ∃ bs, (⟨s.toArray⟩ : ByteArray) = bs := ⟨_, rfl⟩
  rw [hbs] at hsz hcut ⊢
  have hs2 : (bs.size : Int) ≤ 9223372036854775807 := by omega
  have hm2 : (many : Int) < 256 := by omega
  have hl3 : (s.take 300).length ≤ 300 := by simp; omega
  obtain ⟨x, hx⟩ : ∃ x, s.take 300 = x := ⟨_, rfl⟩
  rw [hx] at hz hl3 hcut
  have HO := Lib.hid (oct_long' w n K k1 k2 h1 h2 (.inr ho) ht)
  have HW : Hid (∀ w, _) := Lib.hid (fun w => wide_fits w n ((K : Int) + 1) (K + 1) (by omega) (by omega) (by omega) h1 h2 hf)
  obtain ⟨s1, hs1, hi1, hp1, hn1⟩ := shr_minB n h1 h2 K (by omega) w
  obtain rfl : s1 = 0 := by have := hi1.1 hf; have := hp1 h0; omega
  have hi2 := shr_octB n h0 K
  have g2 : n / 2 ^ (3 * K) ≠ 0 := fun h => by have := hi2.2 h; omega
  have e2 : (n / 2 ^ (3 * K) == 0) = false := by rw [beq_eq_false_iff_ne]; exact g2
  clear g2
  have hge : decide (0 ≤ n) = true := decide_eq_true h0
  have h63 : decide (63 ≤ 3 * (K : Int)) = false := decide_eq_false (by omega)
  clear hi2
  have h20 : decide ((K : Int) + 1 < 20) = false := decide_eq_false (by omega)
  have kk1 : 1 ≤ (K : Int) := by omega
  have kk2 : (K : Int) ≤ 19 := by omega
  have hnn : (n == n) = true := by simp
  have HZ := Lib.hid (And.intro hz hl3)
  clear hz hl3 hi1 hp1 hn1 hf hsz hbs hs hx h1 h2 hm k1 k2 ht h0 ho hk
  go_enter Tryd.func6, Tryd.ntmps6
  simp only [List.append_eq, List.cons_append, List.nil_append]
  go_wp2_with (first
    | ((with_reducible refine HO.out.mono ?_); rintro e w1 ⟨va, rfl, ha, hb⟩; have HA := Lib.hid ha; have B1 := Lib.hid hb; clear ha hb)
    | ((with_reducible refine (HW.out w1).mono ?_); rintro e w2 ⟨gb, cb, lb, bb, rfl, hv, hnb, hcb, hb8, hb⟩; have HV := Lib.hid (And.intro hv hnb); have B2 := Lib.hid hb; have HA2 := Lib.hid (HA.out.below B2.out (Nat.le_refl _)); clear hv hnb hb)
    | ((with_reducible refine (num_none w2 _ HA2.out).mono ?_); rintro e w3 ⟨rfl, rfl⟩)
    | ((with_reducible refine (num_of w2 _ _ n HV.out.1 HV.out.2 (by have := HV.out.1.llen; omega)).mono ?_); rintro e w3 ⟨rfl, rfl⟩)
    | ((with_reducible refine (txt_fits w2 x HZ.out.2 HZ.out.1).mono ?_); rintro e w6 ⟨gt, ct, rfl, hx6, hb⟩; have H6 := Lib.hid hx6; have B6 : Hid (Below w.heap.size w w6) := Lib.hid ((B1.out.trans (B2.out.mono B1.out.size)).trans (hb.mono (B1.out.trans (B2.out.mono B1.out.size)).size)); clear hx6 hb)
    | ((with_reducible refine (str_of w6 _ x _ H6.out HZ.out.1 HZ.out.2 (by omega)).mono ?_); rintro e w7 ⟨rfl, hb⟩; have B7 : Hid (Below w.heap.size w w7) := Lib.hid (B6.out.trans (hb.mono B6.out.size)); clear hb)
    | ((with_reducible refine (wakes_walk _ (HT.out.below B7.out (Nat.le_refl _))).mono ?_); rintro e w8 ⟨rfl, hb⟩; have B8 : Hid (Below w.heap.size w w8) := Lib.hid (B7.out.trans (hb.mono B7.out.size)); clear hb))
  go_ret
  exact ⟨rfl, B8.out⟩
set_option maxRecDepth 100000 in
set_option maxHeartbeats 2000000 in
theorem back_Op_Wna_Tn (w : World) (n : Int) (h1 : -9223372036854775808 ≤ n) (h2 : n < 9223372036854775808) (many : Nat) (hm : many < 256) (K : Nat) (hK : 2 + (many : Int) % 19 = (K : Int) + 1) (k1 : 1 ≤ K) (k2 : K ≤ 19) (s : List UInt8) (hs : s.length ≤ 9223372036854775807) (ht : TzAt w)
    (h0 : 0 ≤ n) (ho : (8 : Int) ^ K ≤ n) (hf : ¬ Fx.fits n ((K + 1 : Nat) : Int)) (hk : K < 19) (hz : 0 ∉ s.take 300) :
    Calls Tryd.prog 6 #[.int .i64 n, .int .u8 (many : Int), .string ⟨s.toArray⟩] w (WakesPost w) := by
  have HT := Lib.hid ht
  have hcut := cut300 s hs
  have hsz : (⟨s.toArray⟩ : ByteArray).size = s.length := by simp [ByteArray.size]
  obtain ⟨bs, hbs⟩ : ∃ bs, (⟨s.toArray⟩ : ByteArray) = bs := ⟨_, rfl⟩
  rw [hbs] at hsz hcut ⊢
  have hs2 : (bs.size : Int) ≤ 9223372036854775807 := by omega
  have hm2 : (many : Int) < 256 := by omega
  have hl3 : (s.take 300).length ≤ 300 := by simp; omega
  obtain ⟨x, hx⟩ : ∃ x, s.take 300 = x := ⟨_, rfl⟩
  rw [hx] at hz hl3 hcut
  have HO := Lib.hid (oct_long' w n K k1 k2 h1 h2 (.inr ho) ht)
  have HW : Hid (∀ w, _) := Lib.hid (fun w => wide_not w n ((K : Int) + 1) (K + 1) (by omega) (by omega) (by omega) h1 h2 hf)
  obtain ⟨s1, hs1, hi1, hp1, hn1⟩ := shr_minB n h1 h2 K (by omega) w
  have g0 : s1 ≠ 0 := fun h => hf (hi1.2 (.inl h))
  have g1 : s1 ≠ -1 := fun h => hf (hi1.2 (.inr h))
  have e0 : (s1 == 0) = false := by rw [beq_eq_false_iff_ne]; exact g0
  have e1 : (s1 == -1) = false := by rw [beq_eq_false_iff_ne]; exact g1
  rw [← hs1] at e0 e1
  clear g0 g1 hs1
  have hi2 := shr_octB n h0 K
  have g2 : n / 2 ^ (3 * K) ≠ 0 := fun h => by have := hi2.2 h; omega
  have e2 : (n / 2 ^ (3 * K) == 0) = false := by rw [beq_eq_false_iff_ne]; exact g2
  clear g2
  have hge : decide (0 ≤ n) = true := decide_eq_true h0
  have h63 : decide (63 ≤ 3 * (K : Int)) = false := decide_eq_false (by omega)
  clear hi2
  have h20 : decide ((K : Int) + 1 < 20) = true := decide_eq_true (by omega)
  have kk1 : 1 ≤ (K : Int) := by omega
  have kk2 : (K : Int) ≤ 19 := by omega
  have hnn : (n == n) = true := by simp
  have HZ := Lib.hid (And.intro hz hl3)
  clear hz hl3 hi1 hp1 hn1 hf hsz hbs hs hx h1 h2 hm k1 k2 ht h0 ho hk
  go_enter Tryd.func6, Tryd.ntmps6
  simp only [List.append_eq, List.cons_append, List.nil_append]
  go_wp2_with (first
    | ((with_reducible refine HO.out.mono ?_); rintro e w1 ⟨va, rfl, ha, hb⟩; have HA := Lib.hid ha; have B1 := Lib.hid hb; clear ha hb)
    | ((with_reducible refine (HW.out w1).mono ?_); rintro e w2 ⟨vb, rfl, hv, hb⟩; have HV := Lib.hid hv; have B2 := Lib.hid hb; have HA2 := Lib.hid (HA.out.below B2.out (Nat.le_refl _)); clear hv hb)
    | ((with_reducible refine (num_none w2 _ HA2.out).mono ?_); rintro e w3 ⟨rfl, rfl⟩)
    | ((with_reducible refine (num_none w2 _ HV.out).mono ?_); rintro e w3 ⟨rfl, rfl⟩)
    | ((with_reducible refine (txt_fits w2 x HZ.out.2 HZ.out.1).mono ?_); rintro e w6 ⟨gt, ct, rfl, hx6, hb⟩; have H6 := Lib.hid hx6; have B6 : Hid (Below w.heap.size w w6) := Lib.hid ((B1.out.trans (B2.out.mono B1.out.size)).trans (hb.mono (B1.out.trans (B2.out.mono B1.out.size)).size)); clear hx6 hb)
    | ((with_reducible refine (str_of w6 _ x _ H6.out HZ.out.1 HZ.out.2 (by omega)).mono ?_); rintro e w7 ⟨rfl, hb⟩; have B7 : Hid (Below w.heap.size w w7) := Lib.hid (B6.out.trans (hb.mono B6.out.size)); clear hb)
    | ((with_reducible refine (wakes_walk _ (HT.out.below B7.out (Nat.le_refl _))).mono ?_); rintro e w8 ⟨rfl, hb⟩; have B8 : Hid (Below w.heap.size w w8) := Lib.hid (B7.out.trans (hb.mono B7.out.size)); clear hb))
  go_ret
  exact ⟨rfl, B8.out⟩
set_option maxRecDepth 100000 in
set_option maxHeartbeats 2000000 in
theorem back_Op_Wnb_Tn (w : World) (n : Int) (h1 : -9223372036854775808 ≤ n) (h2 : n < 9223372036854775808) (many : Nat) (hm : many < 256) (K : Nat) (hK : 2 + (many : Int) % 19 = (K : Int) + 1) (k1 : 1 ≤ K) (k2 : K ≤ 19) (s : List UInt8) (hs : s.length ≤ 9223372036854775807) (ht : TzAt w)
    (h0 : 0 ≤ n) (ho : (8 : Int) ^ K ≤ n) (hf : ¬ Fx.fits n ((K + 1 : Nat) : Int)) (hk : K = 19) (hz : 0 ∉ s.take 300) :
    Calls Tryd.prog 6 #[.int .i64 n, .int .u8 (many : Int), .string ⟨s.toArray⟩] w (WakesPost w) := by
  have HT := Lib.hid ht
  have hcut := cut300 s hs
  have hsz : (⟨s.toArray⟩ : ByteArray).size = s.length := by simp [ByteArray.size]
  obtain ⟨bs, hbs⟩ : ∃ bs, (⟨s.toArray⟩ : ByteArray) = bs := ⟨_, rfl⟩
  rw [hbs] at hsz hcut ⊢
  have hs2 : (bs.size : Int) ≤ 9223372036854775807 := by omega
  have hm2 : (many : Int) < 256 := by omega
  have hl3 : (s.take 300).length ≤ 300 := by simp; omega
  obtain ⟨x, hx⟩ : ∃ x, s.take 300 = x := ⟨_, rfl⟩
  rw [hx] at hz hl3 hcut
  have HO := Lib.hid (oct_long' w n K k1 k2 h1 h2 (.inr ho) ht)
  have HW : Hid (∀ w, _) := Lib.hid (fun w => wide_not w n ((K : Int) + 1) (K + 1) (by omega) (by omega) (by omega) h1 h2 hf)
  obtain ⟨s1, hs1, hi1, hp1, hn1⟩ := shr_minB n h1 h2 K (by omega) w
  have g0 : s1 ≠ 0 := fun h => hf (hi1.2 (.inl h))
  have g1 : s1 ≠ -1 := fun h => hf (hi1.2 (.inr h))
  have e0 : (s1 == 0) = false := by rw [beq_eq_false_iff_ne]; exact g0
  have e1 : (s1 == -1) = false := by rw [beq_eq_false_iff_ne]; exact g1
  rw [← hs1] at e0 e1
  clear g0 g1 hs1
  have hi2 := shr_octB n h0 K
  have g2 : n / 2 ^ (3 * K) ≠ 0 := fun h => by have := hi2.2 h; omega
  have e2 : (n / 2 ^ (3 * K) == 0) = false := by rw [beq_eq_false_iff_ne]; exact g2
  clear g2
  have hge : decide (0 ≤ n) = true := decide_eq_true h0
  have h63 : decide (63 ≤ 3 * (K : Int)) = false := decide_eq_false (by omega)
  clear hi2
  have h20 : decide ((K : Int) + 1 < 20) = false := decide_eq_false (by omega)
  have kk1 : 1 ≤ (K : Int) := by omega
  have kk2 : (K : Int) ≤ 19 := by omega
  have hnn : (n == n) = true := by simp
  have HZ := Lib.hid (And.intro hz hl3)
  clear hz hl3 hi1 hp1 hn1 hf hsz hbs hs hx h1 h2 hm k1 k2 ht h0 ho hk
  go_enter Tryd.func6, Tryd.ntmps6
  simp only [List.append_eq, List.cons_append, List.nil_append]
  go_wp2_with (first
    | ((with_reducible refine HO.out.mono ?_); rintro e w1 ⟨va, rfl, ha, hb⟩; have HA := Lib.hid ha; have B1 := Lib.hid hb; clear ha hb)
    | ((with_reducible refine (HW.out w1).mono ?_); rintro e w2 ⟨vb, rfl, hv, hb⟩; have HV := Lib.hid hv; have B2 := Lib.hid hb; have HA2 := Lib.hid (HA.out.below B2.out (Nat.le_refl _)); clear hv hb)
    | ((with_reducible refine (num_none w2 _ HA2.out).mono ?_); rintro e w3 ⟨rfl, rfl⟩)
    | ((with_reducible refine (num_none w2 _ HV.out).mono ?_); rintro e w3 ⟨rfl, rfl⟩)
    | ((with_reducible refine (txt_fits w2 x HZ.out.2 HZ.out.1).mono ?_); rintro e w6 ⟨gt, ct, rfl, hx6, hb⟩; have H6 := Lib.hid hx6; have B6 : Hid (Below w.heap.size w w6) := Lib.hid ((B1.out.trans (B2.out.mono B1.out.size)).trans (hb.mono (B1.out.trans (B2.out.mono B1.out.size)).size)); clear hx6 hb)
    | ((with_reducible refine (str_of w6 _ x _ H6.out HZ.out.1 HZ.out.2 (by omega)).mono ?_); rintro e w7 ⟨rfl, hb⟩; have B7 : Hid (Below w.heap.size w w7) := Lib.hid (B6.out.trans (hb.mono B6.out.size)); clear hb)
    | ((with_reducible refine (wakes_walk _ (HT.out.below B7.out (Nat.le_refl _))).mono ?_); rintro e w8 ⟨rfl, hb⟩; have B8 : Hid (Below w.heap.size w w8) := Lib.hid (B7.out.trans (hb.mono B7.out.size)); clear hb))
  go_ret
  exact ⟨rfl, B8.out⟩
end Go.Proofs.YtkkelmlkpehcpaaDoor
