/-
  Merged, in the order in which they build: Wlw.
-/
import Derived.Test.YtphdcgioeokfbaaDoorMg50
/-
  The law, walked.
-/
namespace Go.Proofs.YtphdcgioeokfbaaDoor
open Go.RowKit Hf

theorem lT_rng (n : Int) : 0 ≤ (lT n).1 ∧ (lT n).1 ≤ 285 := by
  unfold lT
  split
  · rename_i hn
    have h3 := s_rng (Df.lsg_ok n.toNat (by omega) (by omega))
    exact ⟨by show (0 : Int) ≤ ((Df.lsg n.toNat).s : Int); omega, by show ((Df.lsg n.toNat).s : Int) ≤ 285; omega⟩
  · decide
theorem fT_rng (n : Int) : 0 ≤ (fT n).1 ∧ (fT n).1 ≤ 29 := ⟨(fT_is n).1, (fT_is n).2.1⟩
theorem lim_w {b c : Int} (h0 : 0 ≤ b) (h1 : b ≤ 13) (h : c < 2 ^ b.toNat) : c < wrap64 (2 ^ b.toNat) := by
  obtain ⟨k, rfl⟩ : ∃ k : Nat, b = (k : Int) := ⟨b.toNat, by omega⟩
  rw [Int.toNat_natCast] at h ⊢
  have hk : k ≤ 13 := by omega
  have h2 : ((2 ^ k : Nat) : Int) = (2 : Int) ^ k := by push_cast; rfl
  have h3 : 2 ^ k ≤ 2 ^ 13 := Nat.pow_le_pow_right (by decide) hk
  have h4 : (2 : Int) ^ k ≤ 8192 := by rw [← h2]; exact Int.ofNat_le.2 h3
  have h5 : (0 : Int) ≤ (2 : Int) ^ k := by rw [← h2]; exact Int.natCast_nonneg _
  unfold wrap64
  omega
theorem idx0 (w' : World) : (Instr.index 23 (Value.agg #[Value.func (Fn.func 4) #[] #[], Value.func (Fn.func 5) #[] #[]]) (Value.int IntKind.i64 0)).run Tryd.prog w' = .ok (Value.func (Fn.func 4) #[] #[]) w' := by kernel_rfl
theorem idx1 (w' : World) : (Instr.index 23 (Value.agg #[Value.func (Fn.func 4) #[] #[], Value.func (Fn.func 5) #[] #[]]) (Value.int IntKind.i64 1)).run Tryd.prog w' = .ok (Value.func (Fn.func 5) #[] #[]) w' := by kernel_rfl
set_option maxRecDepth 100000 in
set_option maxHeartbeats 40000000 in
theorem signs_walk (w : World) (n m : Int) (hG : Glb w w.heap.size) : Calls Tryd.prog 3 #[.int .i64 n, .int .i64 m] w fun e w' => e = .returned (.bool true) ∧ OnlyS (fun _ => False) w w' := by
  have HG := Lib.hid hG
  have HL : Hid (∀ wx k, OnlyS (fun _ => False) w wx → Calls Tryd.prog 4 #[.int .i64 k] wx fun e w' => e = .returned (trip (lT k)) ∧ OnlyS (fun _ => False) wx w') := Lib.hid (fun wx k ho => Long_any wx k (hG.self ho).lo.1)
  have HF : Hid (∀ wx k, OnlyS (fun _ => False) w wx → Calls Tryd.prog 5 #[.int .i64 k] wx fun e w' => e = .returned (trip (fT k)) ∧ OnlyS (fun _ => False) wx w') := Lib.hid (fun wx k ho => Far_any wx k (hG.self ho).lo.2)
  have HW : Hid (∀ wx, OnlyS (fun _ => False) w wx → Calls Tryd.prog 6 #[] wx fun e w' => e = .returned (.bool true) ∧ OnlyS (fun _ => False) wx w') := Lib.hid (fun wx ho => wakes_walk wx (hG.self ho))
  clear hG
  go_enter Tryd.func3, Tryd.ntmps3
  go_wp2_with fail
  go_loopw [22] (fun v22 wr => ∃ i : Nat, i ≤ 2 ∧ v22 = .int .i64 i ∧ OnlyS (fun _ => False) w wr) (fun v22 _ => 2 - (intOf v22).toNat)
  case atStart => exact ⟨0, by omega, rfl, OnlyS.refl _ _⟩
  case round =>
    obtain ⟨i, hi, rfl, ho⟩ := hrel
    have HO := Lib.hid ho
    clear ho
    rcases (by omega : i = 0 ∨ i = 1 ∨ i = 2) with rfl | rfl | rfl
    · obtain ⟨x, hx⟩ : ∃ x, lT n = x := ⟨_, rfl⟩
      have HR := lT_rng n
      have H1 := Lib.hid (HL.out wr n HO.out)
      by_cases hnm : n = m
      · subst hnm
        have ht := lT_ok n n
        have H2 : Hid (∀ wx, OnlyS (fun _ => False) w wx → _) := Lib.hid (fun wx hq => HL.out wx n hq)
        rw [hx] at ht HR H1 H2
        obtain ⟨a, b, c⟩ := x
        unfold trip at H1 H2
        obtain ⟨t1, t2, t3, t4, -, -⟩ := ht
        have t5 := lim_w t1 t2 t4
        have hix := idx0
        clear hi hx HL HF HW t4
        simp only at t1 t2 t3 t5 HR H1 H2
        go_wp2_with (first
          | ((with_reducible refine H1.out.mono ?_); rintro e w1 ⟨rfl, ho1⟩; have HO1 := Lib.hid (HO.out.trans ho1); have H3 := Lib.hid (H2.out w1 HO1.out); clear ho1)
          | ((with_reducible refine H3.out.mono ?_); rintro e w2 ⟨rfl, ho2⟩; have HO2 := Lib.hid (HO1.out.trans ho2); clear ho2))
        all_goals exact ⟨⟨1, by omega, rfl, HO2.out⟩, by decide⟩
      · obtain ⟨y, hy⟩ : ∃ y, lT m = y := ⟨_, rfl⟩
        have ht := lT_ok n m
        have H2 : Hid (∀ wx, OnlyS (fun _ => False) w wx → _) := Lib.hid (fun wx hq => HL.out wx m hq)
        rw [hx, hy] at ht
        rw [hx] at HR H1
        rw [hy] at H2
        obtain ⟨a, b, c⟩ := x
        obtain ⟨d, e, f⟩ := y
        unfold trip at H1 H2
        obtain ⟨t1, t2, t3, t4, t6, t7⟩ := ht
        have t5 := lim_w t1 t2 t4
        have hix := idx0
        have heq := eq3 a b c d e f
        have t8 := t6 hnm
        have hnb : (n != m) = true := bne_iff_ne.2 hnm
        clear hi hx hy HL HF HW t4 t6
        simp only at t1 t2 t3 t5 t7 t8 HR H1 H2
        by_cases hq : (a == d && (b == e && c == f)) = true
        · rw [hq] at heq
          simp only [Bool.and_eq_true, beq_iff_eq] at hq
          obtain ⟨rfl, rfl, rfl⟩ := hq
          obtain ⟨rfl, -⟩ := t8 rfl
          clear t7 t8
          go_wp2_with (first
          | ((with_reducible refine H1.out.mono ?_); rintro e w1 ⟨rfl, ho1⟩; have HO1 := Lib.hid (HO.out.trans ho1); have H3 := Lib.hid (H2.out w1 HO1.out); clear ho1)
          | ((with_reducible refine H3.out.mono ?_); rintro e w2 ⟨rfl, ho2⟩; have HO2 := Lib.hid (HO1.out.trans ho2); clear ho2))
          all_goals exact ⟨⟨1, by omega, rfl, HO2.out⟩, by decide⟩
        · rw [Bool.eq_false_iff.2 hq] at heq
          have HM := Lib.hid t7
          clear t7 t8 hq
          go_wp2_with (first
          | ((with_reducible refine H1.out.mono ?_); rintro e w1 ⟨rfl, ho1⟩; have HO1 := Lib.hid (HO.out.trans ho1); have H3 := Lib.hid (H2.out w1 HO1.out); clear ho1)
          | ((with_reducible refine H3.out.mono ?_); rintro e w2 ⟨rfl, ho2⟩; have HO2 := Lib.hid (HO1.out.trans ho2); clear ho2))
          all_goals first
            | exact ⟨⟨1, by omega, rfl, HO2.out⟩, by decide⟩
            | (exfalso; have h9 := HM.out (by assumption) (by assumption); omega)
    · obtain ⟨x, hx⟩ : ∃ x, fT n = x := ⟨_, rfl⟩
      have HR := fT_rng n
      have H1 := Lib.hid (HF.out wr n HO.out)
      by_cases hnm : n = m
      · subst hnm
        have ht := fT_ok n n
        have H2 : Hid (∀ wx, OnlyS (fun _ => False) w wx → _) := Lib.hid (fun wx hq => HF.out wx n hq)
        rw [hx] at ht HR H1 H2
        obtain ⟨a, b, c⟩ := x
        unfold trip at H1 H2
        obtain ⟨t1, t2, t3, t4, -, -⟩ := ht
        have t5 := lim_w t1 t2 t4
        have hix := idx1
        clear hi hx HL HF HW t4
        simp only at t1 t2 t3 t5 HR H1 H2
        go_wp2_with (first
          | ((with_reducible refine H1.out.mono ?_); rintro e w1 ⟨rfl, ho1⟩; have HO1 := Lib.hid (HO.out.trans ho1); have H3 := Lib.hid (H2.out w1 HO1.out); clear ho1)
          | ((with_reducible refine H3.out.mono ?_); rintro e w2 ⟨rfl, ho2⟩; have HO2 := Lib.hid (HO1.out.trans ho2); clear ho2))
        all_goals exact ⟨⟨2, by omega, rfl, HO2.out⟩, by decide⟩
      · obtain ⟨y, hy⟩ : ∃ y, fT m = y := ⟨_, rfl⟩
        have ht := fT_ok n m
        have H2 : Hid (∀ wx, OnlyS (fun _ => False) w wx → _) := Lib.hid (fun wx hq => HF.out wx m hq)
        rw [hx, hy] at ht
        rw [hx] at HR H1
        rw [hy] at H2
        obtain ⟨a, b, c⟩ := x
        obtain ⟨d, e, f⟩ := y
        unfold trip at H1 H2
        obtain ⟨t1, t2, t3, t4, t6, t7⟩ := ht
        have t5 := lim_w t1 t2 t4
        have hix := idx1
        have heq := eq3 a b c d e f
        have t8 := t6 hnm
        have hnb : (n != m) = true := bne_iff_ne.2 hnm
        clear hi hx hy HL HF HW t4 t6
        simp only at t1 t2 t3 t5 t7 t8 HR H1 H2
        by_cases hq : (a == d && (b == e && c == f)) = true
        · rw [hq] at heq
          simp only [Bool.and_eq_true, beq_iff_eq] at hq
          obtain ⟨rfl, rfl, rfl⟩ := hq
          obtain ⟨rfl, -⟩ := t8 rfl
          clear t7 t8
          go_wp2_with (first
          | ((with_reducible refine H1.out.mono ?_); rintro e w1 ⟨rfl, ho1⟩; have HO1 := Lib.hid (HO.out.trans ho1); have H3 := Lib.hid (H2.out w1 HO1.out); clear ho1)
          | ((with_reducible refine H3.out.mono ?_); rintro e w2 ⟨rfl, ho2⟩; have HO2 := Lib.hid (HO1.out.trans ho2); clear ho2))
          all_goals exact ⟨⟨2, by omega, rfl, HO2.out⟩, by decide⟩
        · rw [Bool.eq_false_iff.2 hq] at heq
          have HM := Lib.hid t7
          clear t7 t8 hq
          go_wp2_with (first
          | ((with_reducible refine H1.out.mono ?_); rintro e w1 ⟨rfl, ho1⟩; have HO1 := Lib.hid (HO.out.trans ho1); have H3 := Lib.hid (H2.out w1 HO1.out); clear ho1)
          | ((with_reducible refine H3.out.mono ?_); rintro e w2 ⟨rfl, ho2⟩; have HO2 := Lib.hid (HO1.out.trans ho2); clear ho2))
          all_goals first
            | exact ⟨⟨2, by omega, rfl, HO2.out⟩, by decide⟩
            | (exfalso; have h9 := HM.out (by assumption) (by assumption); omega)
    · have H1 := Lib.hid (HL.out wr n HO.out)
      have H2 : Hid (∀ wx, OnlyS (fun _ => False) w wx → _) := Lib.hid (fun wx hq => HF.out wx n hq)
      have kl := lT_is n
      have kf := fT_is n
      have HWK := Lib.hid HW.out
      obtain ⟨x, hx⟩ : ∃ x, lT n = x := ⟨_, rfl⟩
      obtain ⟨y, hy⟩ : ∃ y, fT n = y := ⟨_, rfl⟩
      rw [hx] at H1 kl
      rw [hy] at H2 kf
      obtain ⟨a, b, c⟩ := x
      obtain ⟨d, e, f⟩ := y
      obtain ⟨k1, k2⟩ := kl
      obtain ⟨k3, k4, k5⟩ := kf
      unfold trip at H1 H2
      simp only at k1 k2 k3 k4 k5 H1 H2
      clear hi hx hy HL HF HW
      rcases (by omega : n < 1 ∨ (1 ≤ n ∧ n < 3) ∨ (3 ≤ n ∧ n ≤ 258) ∨ (258 < n ∧ n ≤ 32768) ∨ 32768 < n) with g | ⟨g, g2⟩ | ⟨g, g2⟩ | ⟨g, g2⟩ | g
      · obtain ⟨rfl, rfl, rfl⟩ : a = 0 ∧ b = 0 ∧ c = 0 := by have h := k2 (by omega); simp only [Prod.mk.injEq] at h; exact h
        obtain ⟨rfl, rfl, rfl⟩ : d = 0 ∧ e = 0 ∧ f = 0 := by have h := k5 (by omega); simp only [Prod.mk.injEq] at h; exact h
        have g3 : n < 3 := by omega
        clear k1 k2 k3 k5
        go_wp2_with (first
          | ((with_reducible refine H1.out.mono ?_); rintro e w1 ⟨rfl, ho1⟩; have HO1 := Lib.hid (HO.out.trans ho1); have H3 := Lib.hid (H2.out w1 HO1.out); clear ho1)
          | ((with_reducible refine H3.out.mono ?_); rintro e w2 ⟨rfl, ho2⟩; have HO2 := Lib.hid (HO1.out.trans ho2); have H4 := Lib.hid (HWK.out w2 HO2.out); clear ho2)
          | ((with_reducible refine H4.out.mono ?_); rintro e w3 ⟨rfl, ho3⟩; have HO3 := Lib.hid (HO2.out.trans ho3); clear ho3))
        all_goals first
          | (go_ret; exact ⟨rfl, HO3.out⟩)
          | (exfalso; omega)
      · obtain ⟨rfl, rfl, rfl⟩ : a = 0 ∧ b = 0 ∧ c = 0 := by have h := k2 (by omega); simp only [Prod.mk.injEq] at h; exact h
        have g3 : n ≤ 32768 := by omega
        clear k1 k2 k3 k5
        go_wp2_with (first
          | ((with_reducible refine H1.out.mono ?_); rintro e w1 ⟨rfl, ho1⟩; have HO1 := Lib.hid (HO.out.trans ho1); have H3 := Lib.hid (H2.out w1 HO1.out); clear ho1)
          | ((with_reducible refine H3.out.mono ?_); rintro e w2 ⟨rfl, ho2⟩; have HO2 := Lib.hid (HO1.out.trans ho2); have H4 := Lib.hid (HWK.out w2 HO2.out); clear ho2)
          | ((with_reducible refine H4.out.mono ?_); rintro e w3 ⟨rfl, ho3⟩; have HO3 := Lib.hid (HO2.out.trans ho3); clear ho3))
        all_goals first
          | (go_ret; exact ⟨rfl, HO3.out⟩)
          | (exfalso; omega)
      · obtain ⟨a1, a2⟩ := k1.2 ⟨g, g2⟩
        have g3 : n ≤ 32768 := by omega
        have g4 : 1 ≤ n := by omega
        clear k1 k2 k3 k5
        go_wp2_with (first
          | ((with_reducible refine H1.out.mono ?_); rintro e w1 ⟨rfl, ho1⟩; have HO1 := Lib.hid (HO.out.trans ho1); have H3 := Lib.hid (H2.out w1 HO1.out); clear ho1)
          | ((with_reducible refine H3.out.mono ?_); rintro e w2 ⟨rfl, ho2⟩; have HO2 := Lib.hid (HO1.out.trans ho2); have H4 := Lib.hid (HWK.out w2 HO2.out); clear ho2)
          | ((with_reducible refine H4.out.mono ?_); rintro e w3 ⟨rfl, ho3⟩; have HO3 := Lib.hid (HO2.out.trans ho3); clear ho3))
        all_goals first
          | (go_ret; exact ⟨rfl, HO3.out⟩)
          | (exfalso; omega)
      · obtain ⟨rfl, rfl, rfl⟩ : a = 0 ∧ b = 0 ∧ c = 0 := by have h := k2 (by omega); simp only [Prod.mk.injEq] at h; exact h
        have g3 : 3 ≤ n := by omega
        have g4 : 1 ≤ n := by omega
        clear k1 k2 k3 k5
        go_wp2_with (first
          | ((with_reducible refine H1.out.mono ?_); rintro e w1 ⟨rfl, ho1⟩; have HO1 := Lib.hid (HO.out.trans ho1); have H3 := Lib.hid (H2.out w1 HO1.out); clear ho1)
          | ((with_reducible refine H3.out.mono ?_); rintro e w2 ⟨rfl, ho2⟩; have HO2 := Lib.hid (HO1.out.trans ho2); have H4 := Lib.hid (HWK.out w2 HO2.out); clear ho2)
          | ((with_reducible refine H4.out.mono ?_); rintro e w3 ⟨rfl, ho3⟩; have HO3 := Lib.hid (HO2.out.trans ho3); clear ho3))
        all_goals first
          | (go_ret; exact ⟨rfl, HO3.out⟩)
          | (exfalso; omega)
      · obtain ⟨rfl, rfl, rfl⟩ : a = 0 ∧ b = 0 ∧ c = 0 := by have h := k2 (by omega); simp only [Prod.mk.injEq] at h; exact h
        obtain ⟨rfl, rfl, rfl⟩ : d = 0 ∧ e = 0 ∧ f = 0 := by have h := k5 (by omega); simp only [Prod.mk.injEq] at h; exact h
        have g3 : 3 ≤ n := by omega
        have g4 : 1 ≤ n := by omega
        have g5 : 258 < n := by omega
        clear k1 k2 k3 k5
        go_wp2_with (first
          | ((with_reducible refine H1.out.mono ?_); rintro e w1 ⟨rfl, ho1⟩; have HO1 := Lib.hid (HO.out.trans ho1); have H3 := Lib.hid (H2.out w1 HO1.out); clear ho1)
          | ((with_reducible refine H3.out.mono ?_); rintro e w2 ⟨rfl, ho2⟩; have HO2 := Lib.hid (HO1.out.trans ho2); have H4 := Lib.hid (HWK.out w2 HO2.out); clear ho2)
          | ((with_reducible refine H4.out.mono ?_); rintro e w3 ⟨rfl, ho3⟩; have HO3 := Lib.hid (HO2.out.trans ho3); clear ho3))
        all_goals first
          | (go_ret; exact ⟨rfl, HO3.out⟩)
          | (exfalso; omega)
end Go.Proofs.YtphdcgioeokfbaaDoor
