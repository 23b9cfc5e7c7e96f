/-
  The contracts of swapRangeCmpFunc and rotateCmpFunc.
-/
import Derived.Test.YtoifppfhnedahaaOrd
namespace Go.Proofs.Ytoifppfhnedahaa
open Go.RowKit Hf

theorem SortAt.re {w0 w : World} {gd n cap gb : Nat} {v : Value} {counts : List Int} {l : List Nat} (h : SortAt w0 w gd n cap gb v counts l) : SortAt w w gd n cap gb v counts l :=
  ⟨h.own, h.len, h.box, h.sl, h.nb, h.na, h.mem, OnlyS.refl _ _⟩
theorem SortAt.thn {w0 w w' : World} {gd n cap gb : Nat} {v : Value} {counts : List Int} {l l' : List Nat} (h : SortAt w0 w gd n cap gb v counts l) (k : SortAt w w' gd n cap gb v counts l') : SortAt w0 w' gd n cap gb v counts l' :=
  ⟨k.own, k.len, k.box, k.sl, k.nb, k.na, k.mem, h.only.trans k.only⟩
set_option maxRecDepth 100000 in
set_option maxHeartbeats 2000000 in
theorem swapRange_walk (w : World) (gd n cap gb : Nat) (v f : Value) (counts : List Int) (l : List Nat) (a b k : Nat) (hS : SortAt w w gd n cap gb v counts l) (hn : n ≤ 1099511627776) (hab : a + k ≤ b) (hb : b + k ≤ n) :
    Calls Try.prog 52 #[.slice (some ⟨gd, 0, none⟩) n cap, .int .i64 (a : Int), .int .i64 (b : Int), .int .i64 (k : Int), f] w fun e w' => e = .returned (.tuple #[]) ∧ SortAt w w' gd n cap gb v counts (sr l a b k) ∧ (sr l a b k).Perm l := by
  have HZ : Hid (SortAt w w gd n cap gb v counts (sr l a b 0) ∧ (sr l a b 0).Perm l) := Lib.hid (by rw [sr_zero l a b (by omega) (by rw [hS.len]; omega)]; exact ⟨hS, List.Perm.refl _⟩)
  have HLN : Hid (l.length = n) := Lib.hid hS.len
  clear hS
  go_enter Try.func52, Try.ntmps52
  go_wp2_with fail
  go_loopw [10] (fun v10 wr => ∃ i : Nat, i ≤ k ∧ v10 = .int .i64 (i : Int) ∧ SortAt w wr gd n cap gb v counts (sr l a b i) ∧ (sr l a b i).Perm l) (fun v10 _ => k - (intOf v10).toNat)
  case atStart => exact ⟨0, Nat.zero_le _, rfl, HZ.out⟩
  case round =>
    obtain ⟨i, hi, rfl, hR⟩ := hrel
    have HR := Lib.hid hR
    clear hR HZ
    by_cases hlt : i < k
    · have hlti : (i : Int) < (k : Int) := by omega
      obtain ⟨d1, g1, hcap⟩ := HR.out.1.cell (a + i) (by omega)
      obtain ⟨d0, g0, _⟩ := HR.out.1.cell (b + i) (by omega)
      have HSW := Lib.hid (HR.out.1.swap (a + i) (b + i) (by omega) (by omega))
      have HPM : Hid ((sr l a b (i + 1)).Perm l) := Lib.hid (by
        rw [← sr_step l a b i (by omega) (by rw [HLN.out]; omega)]
        exact (swp_perm _ _ _ (by rw [sr_length, HLN.out]; omega) (by rw [sr_length, HLN.out]; omega)).trans HR.out.2)
      rw [sr_step l a b i (by omega) (by rw [HLN.out]; omega)] at HSW
      clear HR
      generalize (sr l a b i).getD (a + i) 0 = x at *
      generalize (sr l a b i).getD (b + i) 0 = y at *
      have d1b : (wr.setCell ⟨gd, b + i, none⟩ (.int .i64 (x : Int))).cell? ⟨gd, a + i, none⟩ = some (.int .i64 (x : Int)) := by
        rw [World.cell?_setCell_other _ _ _ _ (by intro e; simp only [Addr.mk.injEq] at e; omega)]; exact d1
      have d0b : (wr.setCell ⟨gd, a + i, none⟩ (.int .i64 (y : Int))).cell? ⟨gd, b + i, none⟩ = some (.int .i64 (y : Int)) := by
        rw [World.cell?_setCell_other _ _ _ _ (by intro e; simp only [Addr.mk.injEq] at e; omega)]; exact d0
      have s0 : IntKind.i64.wrap ((a : Int) + (i : Int)) = ((a + i : Nat) : Int) := by rw [Int.natCast_add]; exact IntWalk.i64_in _ (by omega)
      have s1 : IntKind.i64.wrap ((b : Int) + (i : Int)) = ((b + i : Nat) : Int) := by rw [Int.natCast_add]; exact IntWalk.i64_in _ (by omega)
      have b0 : ((a + i : Nat) : Int) < (n : Int) := by omega
      have b1 : ((b + i : Nat) : Int) < (n : Int) := by omega
      go_wp2_with fail
      go_region
      go_wp2_with fail
      exact ⟨⟨i + 1, by omega, by go_num, HSW.out.drewN 1, HPM.out⟩, by simp [intOf]; omega⟩
    · have hik : i = k := by omega
      have HK := Lib.hid hik
      have hlti : (k : Int) ≤ (i : Int) := by omega
      clear hik
      go_wp2_with fail
      go_end0
      exact ⟨rfl, by rw [← HK.out]; exact HR.out⟩
set_option maxRecDepth 100000 in
set_option maxHeartbeats 2000000 in
theorem rotate_walk (w : World) (gd n cap gb : Nat) (v f : Value) (counts : List Int) (l : List Nat) (a m b : Nat) (hS : SortAt w w gd n cap gb v counts l) (hn : n ≤ 1099511627776) (ham : a < m) (hmb : m < b) (hb : b ≤ n) :
    Calls Try.prog 51 #[.slice (some ⟨gd, 0, none⟩) n cap, .int .i64 (a : Int), .int .i64 (m : Int), .int .i64 (b : Int), f] w fun e w' => e = .returned (.tuple #[]) ∧ SortAt w w' gd n cap gb v counts (rot l a m b) ∧ (rot l a m b).Perm l := by
  have HS := Lib.hid hS
  have HLN : Hid (l.length = n) := Lib.hid hS.len
  clear hS
  go_enter Try.func51, Try.ntmps51
  go_wp2_with fail
  go_loopw [10, 11] (fun v10 v11 wr => ∃ (i j : Nat) (lq : List Nat), 0 < i ∧ 0 < j ∧ i ≤ m - a ∧ j ≤ b - m ∧ v10 = .int .i64 (i : Int) ∧ v11 = .int .i64 (j : Int) ∧ SortAt w wr gd n cap gb v counts lq ∧ lq.Perm l ∧ rot lq (m - i) m (m + j) = rot l a m b) (fun v10 v11 _ => (intOf v10).toNat + (intOf v11).toNat)
  case atStart => exact ⟨m - a, b - m, l, by omega, by omega, Nat.le_refl _, Nat.le_refl _, by go_num, by go_num, HS.out, List.Perm.refl _, by rw [show m - (m - a) = a by omega, show m + (b - m) = b by omega]⟩
  case round =>
    obtain ⟨i, j, lq, hi0, hj0, hi, hj, rfl, rfl, hR, hP, hE⟩ := hrel
    have HR := Lib.hid hR
    have HP := Lib.hid hP
    have HE := Lib.hid hE
    have hlq : lq.length = n := hR.len
    clear hR HS hP hE
    rcases Nat.lt_trichotomy i j with hlt | heq | hlt
    · have hlti : (i : Int) < (j : Int) := by omega
      have hnl : ¬ (j : Int) < (i : Int) := by omega
      have hne : ¬ (i : Int) = (j : Int) := by omega
      have hnb : ((i : Int) != (j : Int)) = true := bne_iff_ne.2 hne
      have hc := swapRange_walk wr gd n cap gb v f counts lq (m - i) (m + j - i) i HR.out.re hn (by omega) (by omega)
      rw [show ((m - i : Nat) : Int) = (m : Int) - (i : Int) by omega, show ((m + j - i : Nat) : Int) = (m : Int) + (j : Int) - (i : Int) by omega] at hc
      have HC := Lib.hid hc
      have HE2 : Hid (rot (sr lq (m - i) (m + j - i) i) (m - i) m (m + (j - i)) = rot l a m b) := Lib.hid ((rot_short lq m i j (by omega) hlt (by omega)).trans HE.out)
      clear hc HE
      go_wp2_with fail
      refine HC.out.mono ?_
      rintro e w2 ⟨rfl, hS2, hp2⟩
      have HR2 := Lib.hid (HR.out.thn hS2)
      have HP2 := Lib.hid (hp2.trans HP.out)
      clear hS2 hp2 HC HR HP
      go_wp2_with fail
      exact ⟨⟨i, j - i, _, hi0, by omega, hi, by omega, rfl, by go_num, HR2.out, HP2.out, HE2.out⟩, by simp [intOf]; omega⟩
    · subst heq
      clear hj0
      have hc := swapRange_walk wr gd n cap gb v f counts lq (m - i) m i HR.out.re hn (by omega) (by omega)
      rw [show ((m - i : Nat) : Int) = (m : Int) - (i : Int) by omega] at hc
      have HC := Lib.hid hc
      have HE2 : Hid (sr lq (m - i) m i = rot l a m b) := Lib.hid ((rot_same lq m i (by omega) (by omega)).trans HE.out)
      clear hc HE
      go_wp2_with fail
      refine HC.out.mono ?_
      rintro e w2 ⟨rfl, hS2, hp2⟩
      have HR2 := Lib.hid (HR.out.thn hS2)
      have HP2 := Lib.hid (hp2.trans HP.out)
      clear hS2 hp2 HC HR HP
      go_wp2_with fail
      go_end0
      rw [HE2.out] at HR2 HP2
      exact ⟨rfl, HR2.out, HP2.out⟩
    · have hlti : (j : Int) < (i : Int) := by omega
      have hne : ¬ (i : Int) = (j : Int) := by omega
      have hnb : ((i : Int) != (j : Int)) = true := bne_iff_ne.2 hne
      have hc := swapRange_walk wr gd n cap gb v f counts lq (m - i) m j HR.out.re hn (by omega) (by omega)
      rw [show ((m - i : Nat) : Int) = (m : Int) - (i : Int) by omega] at hc
      have HC := Lib.hid hc
      have HE2 : Hid (rot (sr lq (m - i) m j) (m - (i - j)) m (m + j) = rot l a m b) := Lib.hid ((rot_long lq m i j (by omega) hlt (by omega)).trans HE.out)
      clear hc HE
      go_wp2_with fail
      refine HC.out.mono ?_
      rintro e w2 ⟨rfl, hS2, hp2⟩
      have HR2 := Lib.hid (HR.out.thn hS2)
      have HP2 := Lib.hid (hp2.trans HP.out)
      clear hS2 hp2 HC HR HP
      go_wp2_with fail
      exact ⟨⟨i - j, j, _, by omega, hj0, by omega, hj, by go_num, rfl, HR2.out, HP2.out, HE2.out⟩, by simp [intOf]; omega⟩
end Go.Proofs.Ytoifppfhnedahaa
