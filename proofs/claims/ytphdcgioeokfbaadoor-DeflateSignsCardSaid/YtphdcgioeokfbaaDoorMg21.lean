/-
  Merged, in the order in which they build: SymC SymD.
-/
import Derived.Test.YtphdcgioeokfbaaDoorMg20
/-
  symMergeCmpFunc, stableCmpFunc and SortStableFunc, whatever the number of elements: what comes out is what insertion alone would make.
-/
namespace Go.Proofs.YtphdcgioeokfbaaDoor
open Go.RowKit Hf

theorem sym_walk (gd n cap gb : Nat) (v : Value) (counts : List Int) (hn : n ≤ 1099511627776) (d : Nat) : SmHyp gd n cap gb v counts d := by
  induction d with
  | zero => intro w l a m b _ h1 h2 _ h3; omega
  | succ d ih =>
    intro w l a m b hS h1 h2 hb h3 hL hR hA
    by_cases e1 : m = a + 1
    · subst e1
      have := symOne_walk w gd n cap gb v counts l a b hS hn h2 hb hR hA
      rw [show ((a + 1 : Nat) : Int) = (a : Int) + 1 by omega]
      exact this
    · by_cases e2 : b = m + 1
      · subst e2
        have := symLast_walk w gd n cap gb v counts l a m hS hn (by omega) hb hL hA
        rw [show ((m + 1 : Nat) : Int) = (m : Int) + 1 by omega]
        exact this
      · have ih2 : SmHyp gd n cap gb v counts (b - a) := fun w2 l2 a2 m2 b2 k1 k2 k3 k4 k5 => ih w2 l2 a2 m2 b2 k1 k2 k3 k4 (by omega)
        by_cases hc : (a + b) / 2 < m
        · exact symHigh_walk w gd n cap gb v counts l a m b hS hn (by omega) (by omega) hb hL hR hA ih2 hc
        · exact symLow_walk w gd n cap gb v counts l a m b hS hn (by omega) (by omega) hb hL hR hA ih2 (by omega)

theorem dvd_gap {d x A : Nat} (h : d ∣ x) (h' : d ∣ A) (hlt : x < A) : x + d ≤ A := by
  obtain ⟨s, rfl⟩ := h
  obtain ⟨t, rfl⟩ := h'
  have : s < t := Nat.lt_of_mul_lt_mul_left hlt
  calc d * s + d = d * (s + 1) := by rw [Nat.mul_succ]
    _ ≤ d * t := Nat.mul_le_mul_left _ this
/-- Of the symbols ahead of x none is above one behind. -/
def cut (l : List Nat) (n x : Nat) : Prop := ∀ i j, i < x → x ≤ j → j < n → at0 l i < at0 l j
theorem cut_mv {l l' : List Nat} {n x a b : Nat} (h : cut l n x) (hm : Mv a b l l') (hx : x ≤ a ∨ b ≤ x) (hb : b ≤ n) : cut l' n x := by
  intro i j hi hj hjn
  have e1 : ∃ i', i' < x ∧ at0 l' i = at0 l i' := by
    by_cases h1 : a ≤ i ∧ i < b
    · obtain ⟨k, k1, k2, k3⟩ := hm.into i h1.1 h1.2
      exact ⟨k, by omega, k3⟩
    · exact ⟨i, hi, hm.out i (by omega)⟩
  have e2 : ∃ j', x ≤ j' ∧ j' < n ∧ at0 l' j = at0 l j' := by
    by_cases h1 : a ≤ j ∧ j < b
    · obtain ⟨k, k1, k2, k3⟩ := hm.into j h1.1 h1.2
      exact ⟨k, by omega, by omega, k3⟩
    · exact ⟨j, hj, hjn, hm.out j (by omega)⟩
  obtain ⟨i', i1, i2⟩ := e1
  obtain ⟨j', j1, j2, j3⟩ := e2
  rw [i2, j3]; exact h i' j' i1 j1 j2
theorem srt_mv {c : Nat → Int} {l l' : List Nat} {x y a b : Nat} (h : srt c l x y) (hm : Mv a b l l') (hx : y ≤ a ∨ b ≤ x) : srt c l' x y := by
  intro i j hi hij hj
  rw [hm.out i (by omega), hm.out j (by omega)]; exact h i j hi hij hj
/-- Blocks of bs elements, each in order. -/
structure PB (c : Nat → Int) (l : List Nat) (n bs : Nat) : Prop where
  cuts : ∀ x, bs ∣ x → cut l n x
  ords : ∀ x, bs ∣ x → srt c l x (min (x + bs) n)
/-- In the midst of merging: up to a they are of twice the size. -/
structure PM (c : Nat → Int) (l : List Nat) (n bs a : Nat) : Prop where
  at2 : 2 * bs ∣ a
  cuts2 : ∀ x, 2 * bs ∣ x → cut l n x
  cuts1 : ∀ x, bs ∣ x → a ≤ x → cut l n x
  ords2 : ∀ x, 2 * bs ∣ x → x < a → srt c l x (x + 2 * bs)
  ords1 : ∀ x, bs ∣ x → a ≤ x → srt c l x (min (x + bs) n)
theorem PB.start {c : Nat → Int} {l : List Nat} {n bs : Nat} (h : PB c l n bs) : PM c l n bs 0 :=
  ⟨⟨0, rfl⟩, fun x hx => h.cuts x (Nat.dvd_trans ⟨2, by omega⟩ hx), fun x hx _ => h.cuts x hx, fun x _ h0 => by omega, fun x hx _ => h.ords x hx⟩
theorem PM.dv {c : Nat → Int} {l : List Nat} {n bs a : Nat} (h : PM c l n bs a) : bs ∣ a := Nat.dvd_trans ⟨2, by omega⟩ h.at2
theorem PM.pre {c : Nat → Int} {l : List Nat} {n bs a b : Nat} (h : PM c l n bs a) (hb : a + bs < b) (hb2 : b ≤ a + 2 * bs) (hbn : b ≤ n) : srt c l a (a + bs) ∧ srt c l (a + bs) b ∧ apt l a (a + bs) b := by
  have d1 : bs ∣ a + bs := (Nat.dvd_add_right h.dv).2 (Nat.dvd_refl _)
  refine ⟨fun i j h1 h2 h3 => h.ords1 a h.dv (Nat.le_refl _) i j h1 h2 (by omega), fun i j h1 h2 h3 => h.ords1 (a + bs) d1 (by omega) i j h1 h2 (by omega), fun i j h1 h2 h3 h4 => h.cuts1 (a + bs) d1 (by omega) i j h2 h3 (by omega)⟩
theorem PM.step {c : Nat → Int} {l l' : List Nat} {n bs a : Nat} (h : PM c l n bs a) (hb : a + 2 * bs ≤ n) (hm : Mv a (a + 2 * bs) l l') (hs : srt c l' a (a + 2 * bs)) : PM c l' n bs (a + 2 * bs) := by
  have d2 : 2 * bs ∣ a + 2 * bs := (Nat.dvd_add_right h.at2).2 (Nat.dvd_refl _)
  have d1 : bs ∣ a + 2 * bs := Nat.dvd_trans ⟨2, by omega⟩ d2
  refine ⟨d2, fun x hx => cut_mv (h.cuts2 x hx) hm ?_ hb, fun x hx hax => cut_mv (h.cuts1 x hx (by omega)) hm (.inr hax) hb, fun x hx hxa => ?_, fun x hx hax => srt_mv (h.ords1 x hx (by omega)) hm (.inr hax)⟩
  · by_cases hxa : x ≤ a
    · exact .inl hxa
    · exact .inr (dvd_gap h.at2 hx (by omega))
  · have := dvd_gap hx d2 hxa
    by_cases hx2 : x < a
    · exact srt_mv (h.ords2 x hx hx2) hm (.inl (dvd_gap hx h.at2 hx2))
    · obtain rfl : x = a := by omega
      exact hs
theorem PM.done {c : Nat → Int} {l : List Nat} {n bs a : Nat} (h : PM c l n bs a) (hn : n ≤ a + bs) (hbs : 0 < bs) : PB c l n (2 * bs) := by
  refine ⟨h.cuts2, fun x hx i j h1 h2 h3 => ?_⟩
  by_cases hxa : x < a
  · exact h.ords2 x hx hxa i j h1 h2 (by omega)
  · by_cases hx2 : x = a
    · subst hx2; exact h.ords1 x h.dv (Nat.le_refl _) i j h1 h2 (by omega)
    · have := dvd_gap h.at2 hx (by omega)
      omega
theorem PM.last {c : Nat → Int} {l l' : List Nat} {n bs a : Nat} (h : PM c l n bs a) (hn : a + bs < n) (hn2 : n < a + 2 * bs) (hm : Mv a n l l') (hs : srt c l' a n) : PB c l' n (2 * bs) := by
  refine ⟨fun x hx => ?_, fun x hx i j h1 h2 h3 => ?_⟩
  · by_cases hxa : x ≤ a
    · exact cut_mv (h.cuts2 x hx) hm (.inl hxa) (Nat.le_refl _)
    · have := dvd_gap h.at2 hx (by omega)
      exact cut_mv (h.cuts2 x hx) hm (.inr (by omega)) (Nat.le_refl _)
  · by_cases hxa : x < a
    · have := dvd_gap hx h.at2 hxa
      exact srt_mv (h.ords2 x hx hxa) hm (.inl this) i j h1 h2 (by omega)
    · by_cases hx2 : x = a
      · subst hx2; exact hs i j h1 h2 (by omega)
      · have := dvd_gap h.at2 hx (by omega)
        omega
/-- In the midst of the insertions: from a on nothing has moved. -/
structure PI (c : Nat → Int) (l0 l : List Nat) (n a : Nat) : Prop where
  at1 : 20 ∣ a
  cuts : ∀ x, 20 ∣ x → cut l n x
  ords : ∀ x, 20 ∣ x → x < a → srt c l x (x + 20)
  same : ∀ i, a ≤ i → at0 l i = at0 l0 i
  perm : l.Perm l0
theorem PI.start {c : Nat → Int} {l : List Nat} {n : Nat} (hup : ∀ p q, p < q → q < n → at0 l p < at0 l q) : PI c l l n 0 :=
  ⟨⟨0, rfl⟩, fun x _ i j h1 h2 h3 => hup i j (by omega) h3, fun x _ h => by omega, fun _ _ => rfl, List.Perm.refl _⟩
theorem PI.up {c : Nat → Int} {l0 l : List Nat} {n a : Nat} (h : PI c l0 l n a) (hl : l0.length = n) (hup : ∀ p q, p < q → q < n → at0 l0 p < at0 l0 q) : ∀ p q, a ≤ p → p < q → q < l.length → at0 l p < at0 l q := by
  intro p q h1 h2 h3
  rw [h.same p h1, h.same q (by omega)]
  exact hup p q h2 (by rw [h.perm.length_eq] at h3; omega)
theorem PI.step {c : Nat → Int} {l0 l l' : List Nat} {n a : Nat} (h : PI c l0 l n a) (hb : a + 20 ≤ n) (hm : Mv a (a + 20) l l') (hs : srt c l' a (a + 20)) : PI c l0 l' n (a + 20) := by
  have d2 : 20 ∣ a + 20 := (Nat.dvd_add_right h.at1).2 (Nat.dvd_refl _)
  refine ⟨d2, fun x hx => cut_mv (h.cuts x hx) hm ?_ hb, fun x hx hxa => ?_, fun i hi => by rw [hm.out i (by omega)]; exact h.same i (by omega), hm.perm.trans h.perm⟩
  · by_cases hxa : x ≤ a
    · exact .inl hxa
    · exact .inr (dvd_gap h.at1 hx (by omega))
  · have := dvd_gap hx d2 hxa
    by_cases hx2 : x < a
    · exact srt_mv (h.ords x hx hx2) hm (.inl (dvd_gap hx h.at1 hx2))
    · obtain rfl : x = a := by omega
      exact hs
theorem PI.done {c : Nat → Int} {l0 l l' : List Nat} {n a : Nat} (h : PI c l0 l n a) (ha : a ≤ n) (hn2 : n < a + 20) (hm : Mv a n l l') (hs : srt c l' a n) : PB c l' n 20 := by
  refine ⟨fun x hx => ?_, fun x hx i j h1 h2 h3 => ?_⟩
  · by_cases hxa : x ≤ a
    · exact cut_mv (h.cuts x hx) hm (.inl hxa) (Nat.le_refl _)
    · have := dvd_gap h.at1 hx (by omega)
      exact cut_mv (h.cuts x hx) hm (.inr (by omega)) (Nat.le_refl _)
  · by_cases hxa : x < a
    · have := dvd_gap hx h.at1 hxa
      exact srt_mv (h.ords x hx hxa) hm (.inl this) i j h1 h2 (by omega)
    · by_cases hx2 : x = a
      · subst hx2; exact hs i j h1 h2 (by omega)
      · have := dvd_gap h.at1 hx (by omega)
        omega
theorem isA_block (c : Nat → Int) (l : List Nat) (a b : Nat) (hab : a ≤ b) (hb : b ≤ l.length) (hup : ∀ p q, a ≤ p → p < q → q < l.length → at0 l p < at0 l q) : srt c (isA c a (b - a - 1) l) a b ∧ Mv a b l (isA c a (b - a - 1) l) := by
  by_cases h : a = b
  · subst h
    rw [Nat.sub_self]
    exact ⟨fun i j h1 h2 h3 => by omega, Mv.refl _ _ _⟩
  · have := isA_ok c a (b - a - 1) l (by omega) hup
    rw [show a + (b - a - 1) + 1 = b by omega] at this
    exact this
end Go.Proofs.YtphdcgioeokfbaaDoor
/-
  stableCmpFunc and SortStableFunc, whatever the number of elements: what comes out is what insertion alone would make.
-/
namespace Go.Proofs.YtphdcgioeokfbaaDoor
open Go.RowKit Hf

set_option maxRecDepth 100000 in
set_option maxHeartbeats 2000000 in
theorem stableN_walk (w : World) (gd n cap gb : Nat) (v : Value) (counts : List Int) (l : List Nat) (hS : SortAt w w gd n cap gb v counts l) (hn : n ≤ 1048576) (hup : ∀ p q, p < q → q < n → at0 l p < at0 l q) :
    Calls Tryd.prog 86 #[.slice (some ⟨gd, 0, none⟩) n cap, .int .i64 (n : Int), .func (.func 75) #[] #[.pointer (some ⟨gb, 0, none⟩)]] w fun e w' => e = .returned (.tuple #[]) ∧ ∃ l', SortAt w w' gd n cap gb v counts l' ∧ l'.Perm l ∧ srt (fun s => counts.getD s 0) l' 0 n := by
  have HS := Lib.hid hS
  have HUP := Lib.hid hup
  have HLN : Hid (l.length = n) := Lib.hid hS.len
  clear hS hup
  go_enter Tryd.func86, Tryd.ntmps86
  go_wp2_with fail
  go_loopw [7, 8] (fun v7 v8 wr => ∃ (a : Nat) (lq : List Nat), a ≤ n ∧ v7 = .int .i64 (a : Int) ∧ v8 = .int .i64 ((a : Int) + 20) ∧ SortAt w wr gd n cap gb v counts lq ∧ PI (fun s => counts.getD s 0) l lq n a) (fun v7 _ _ => n - (intOf v7).toNat)
  case atStart => exact ⟨0, l, Nat.zero_le _, rfl, by simp, HS.out, PI.start HUP.out⟩
  case round =>
    clear HS
    obtain ⟨a, lq, ha, rfl, rfl, hS, hP⟩ := hrel
    have HS := Lib.hid hS
    have HP := Lib.hid hP
    clear hS hP
    by_cases hlt : a + 20 ≤ n
    · have hlti : (a : Int) + 20 ≤ (n : Int) := by omega
      have hc := insertA_walk wr gd n cap gb a (a + 20) v counts lq HS.out.re (by omega) (by omega) hlt
      rw [show ((a + 20 : Nat) : Int) = (a : Int) + 20 by omega] at hc
      have HC := Lib.hid hc
      have HB := Lib.hid (isA_block (fun s => counts.getD s 0) lq a (a + 20) (by omega) (by rw [HS.out.len]; exact hlt) (HP.out.up HLN.out HUP.out))
      clear hc
      go_wp2_with fail
      refine HC.out.mono ?_
      rintro e w2 ⟨rfl, hS2⟩
      have HS2 := Lib.hid (HS.out.thn hS2)
      have HP2 := Lib.hid (HP.out.step hlt HB.out.2 HB.out.1)
      clear hS2 HC HS HP HB
      go_wp2_with fail
      exact ⟨⟨a + 20, _, hlt, by go_num, by go_num, HS2.out, HP2.out⟩, by simp [intOf]; omega⟩
    · have hlti : (n : Int) < (a : Int) + 20 := by omega
      have HC := Lib.hid (insertA_walk wr gd n cap gb a n v counts lq HS.out.re (by omega) ha (Nat.le_refl _))
      have HB := Lib.hid (isA_block (fun s => counts.getD s 0) lq a n ha (by rw [HS.out.len]; exact Nat.le_refl _) (HP.out.up HLN.out HUP.out))
      go_wp2_with fail
      refine HC.out.mono ?_
      rintro e w2 ⟨rfl, hS2⟩
      have HS2 := Lib.hid (HS.out.thn hS2)
      have HP2 := Lib.hid (HP.out.done ha (by omega) HB.out.2 HB.out.1)
      have HPM := Lib.hid (HB.out.2.perm.trans HP.out.perm)
      clear hS2 HC HS HP HB HUP
      obtain ⟨l2, hl2⟩ : ∃ l2, l2 = isA (fun s => counts.getD s 0) a (n - a - 1) lq := ⟨_, rfl⟩
      rw [← hl2] at HS2 HP2 HPM
      clear hl2
      go_wp2_with fail
      go_loopw [6, 7, 8, 9] (fun v6 _ _ _ wr => ∃ (bs : Nat) (lq : List Nat), 0 < bs ∧ bs ≤ 2 * n + 20 ∧ v6 = .int .i64 (bs : Int) ∧ SortAt w wr gd n cap gb v counts lq ∧ lq.Perm l ∧ PB (fun s => counts.getD s 0) lq n bs) (fun v6 _ _ _ _ => n - (intOf v6).toNat)
      case atStart => exact ⟨20, l2, by decide, by omega, rfl, HS2.out, HPM.out, HP2.out⟩
      case round =>
        clear HS2 HP2 HPM
        obtain ⟨bs, lq, h0, hbs, rfl, hS, hPm, hP⟩ := hrel
        have HS := Lib.hid hS
        have HP := Lib.hid hP.start
        have HF := Lib.hid hP
        have HPM := Lib.hid hPm
        clear hS hPm hP
        by_cases hb : bs < n
        · have hbi : (bs : Int) < (n : Int) := by omega
          clear HF
          go_wp2_with fail
          go_loopw [7, 8] (fun v7 v8 wr => ∃ (a : Nat) (lq : List Nat), a ≤ n ∧ v7 = .int .i64 (a : Int) ∧ v8 = .int .i64 ((a : Int) + 2 * (bs : Int)) ∧ SortAt w wr gd n cap gb v counts lq ∧ lq.Perm l ∧ PM (fun s => counts.getD s 0) lq n bs a) (fun v7 _ _ => n - (intOf v7).toNat)
          case atStart => exact ⟨0, lq, Nat.zero_le _, rfl, by simp, HS.out, HPM.out, HP.out⟩
          case round =>
            clear HS HPM HP
            obtain ⟨a, lz, ha, rfl, rfl, hS, hPm, hP⟩ := hrel
            have HS := Lib.hid hS
            have HP := Lib.hid hP
            have HPM := Lib.hid hPm
            clear hS hPm hP
            by_cases hlt : a + 2 * bs ≤ n
            · have hlti : (a : Int) + 2 * (bs : Int) ≤ (n : Int) := by omega
              have hpre := HP.out.pre (b := a + 2 * bs) (by omega) (Nat.le_refl _) hlt
              have hc := sym_walk gd n cap gb v counts (by omega) (2 * bs + 1) wr lz a (a + bs) (a + 2 * bs) HS.out.re (by omega) (by omega) hlt (by omega) hpre.1 hpre.2.1 hpre.2.2
              rw [show ((a + bs : Nat) : Int) = (a : Int) + (bs : Int) by omega, show ((a + 2 * bs : Nat) : Int) = (a : Int) + 2 * (bs : Int) by omega] at hc
              have HC := Lib.hid hc
              clear hc hpre
              go_wp2_with fail
              refine HC.out.mono ?_
              rintro e w3 ⟨rfl, l3, hS3, hM3, hs3⟩
              have HS3 := Lib.hid (HS.out.thn hS3)
              have HP3 := Lib.hid (HP.out.step hlt hM3 hs3)
              have HPM3 := Lib.hid (hM3.perm.trans HPM.out)
              clear hS3 hM3 hs3 HC HS HP HPM
              go_wp2_with fail
              exact ⟨⟨a + 2 * bs, l3, hlt, by go_num, by go_num, HS3.out, HPM3.out, HP3.out⟩, by simp [intOf]; omega⟩
            · have hlti : (n : Int) < (a : Int) + 2 * (bs : Int) := by omega
              by_cases hm : a + bs < n
              · have hmi : (a : Int) + (bs : Int) < (n : Int) := by omega
                have hpre := HP.out.pre (b := n) hm (by omega) (Nat.le_refl _)
                have hc := sym_walk gd n cap gb v counts (by omega) (n + 1) wr lz a (a + bs) n HS.out.re (by omega) hm (Nat.le_refl _) (by omega) hpre.1 hpre.2.1 hpre.2.2
                rw [show ((a + bs : Nat) : Int) = (a : Int) + (bs : Int) by omega] at hc
                have HC := Lib.hid hc
                clear hc hpre
                go_wp2_with fail
                refine HC.out.mono ?_
                rintro e w3 ⟨rfl, l3, hS3, hM3, hs3⟩
                have HS3 := Lib.hid (HS.out.thn hS3)
                have HP3 := Lib.hid (HP.out.last hm (by omega) hM3 hs3)
                have HPM3 := Lib.hid (hM3.perm.trans HPM.out)
                clear hS3 hM3 hs3 HC HS HP HPM
                go_wp2_with fail
                exact ⟨⟨2 * bs, l3, by omega, by omega, by go_num, HS3.out, HPM3.out, HP3.out⟩, by simp [intOf]; omega⟩
              · have hmi : (n : Int) ≤ (a : Int) + (bs : Int) := by omega
                have HP3 := Lib.hid (HP.out.done (by omega) h0)
                clear HP
                go_wp2_with fail
                exact ⟨⟨2 * bs, lz, by omega, by omega, by go_num, HS.out, HPM.out, HP3.out⟩, by simp [intOf]; omega⟩
        · have hbi : (n : Int) ≤ (bs : Int) := by omega
          have HO : Hid (srt (fun s => counts.getD s 0) lq 0 n) := Lib.hid (by
            have := HF.out.ords 0 ⟨0, rfl⟩
            rwa [Nat.zero_add, Nat.min_eq_right (by omega)] at this)
          clear HF HP
          go_wp2_with fail
          go_end0
          exact ⟨rfl, lq, HS.out, HPM.out, HO.out⟩
/-- What comes out is what insertion alone makes. -/
theorem sorted_is {c : Nat → Int} {l l' : List Nat} {n : Nat} (hl : l.length = n) (hup : ∀ p q, p < q → q < n → at0 l p < at0 l q) (hp : l'.Perm l) (hs : srt c l' 0 n) : l' = isTo c (n - 1) l := by
  have hb := isA_block c l 0 n (Nat.zero_le _) (by omega) (fun p q _ h1 h2 => hup p q h1 (by omega))
  rw [Nat.sub_zero, ← isA_zero] at hb
  have h1 : l'.length = n := hp.length_eq.trans hl
  have h2 : (isTo c (n - 1) l).length = n := by rw [isTo_length, hl]
  refine perm_pair (c := c) (hp.trans hb.2.perm.symm) (srt_pair (by rw [h1]; exact hs)) (srt_pair (by rw [h2]; exact hb.1))
set_option maxHeartbeats 1000000 in
theorem sortN_walk (w : World) (gd n cap gb : Nat) (v : Value) (counts : List Int) (l : List Nat) (hS : SortAt w w gd n cap gb v counts l) (hn : n ≤ 1048576) (hup : ∀ p q, p < q → q < n → at0 l p < at0 l q) :
    Calls Tryd.prog 74 #[.slice (some ⟨gd, 0, none⟩) n cap, .func (.func 75) #[] #[.pointer (some ⟨gb, 0, none⟩)]] w fun e w' => e = .returned (.tuple #[]) ∧ SortAt w w' gd n cap gb v counts (isTo (fun s => counts.getD s 0) (n - 1) l) := by
  have HI := Lib.hid (stableN_walk w gd n cap gb v counts l hS hn hup)
  have HQ : Hid (∀ l', l'.Perm l → srt (fun s => counts.getD s 0) l' 0 n → l' = isTo (fun s => counts.getD s 0) (n - 1) l) := Lib.hid (fun l' h1 h2 => sorted_is hS.len hup h1 h2)
  clear hS
  go_enter Tryd.func74, Tryd.ntmps74
  go_wp2_with fail
  refine HI.out.mono ?_
  rintro e w1 ⟨rfl, l1, hS1, hp1, hs1⟩
  have he := HQ.out l1 hp1 hs1
  rw [he] at hS1
  have HS := Lib.hid hS1
  clear hS1 HI he hp1 hs1 HQ
  go_wp2_with fail
  go_end0
  exact ⟨rfl, HS.out⟩
end Go.Proofs.YtphdcgioeokfbaaDoor
