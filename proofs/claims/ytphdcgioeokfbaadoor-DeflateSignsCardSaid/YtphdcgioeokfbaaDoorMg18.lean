/-
  Merged, in the order in which they build: InsA.
-/
import Derived.Test.YtphdcgioeokfbaaDoorMg17
/-
  insertionSortCmpFunc of a block, wherever it begins.
-/
namespace Go.Proofs.YtphdcgioeokfbaaDoor
open Go.RowKit Hf

def insA (c : Nat → Int) (a : Nat) : Nat → List Nat → List Nat
  | 0, l => l
  | j + 1, l => if c (at0 l (a + j + 1)) < c (at0 l (a + j)) then insA c a j (swp l (a + j + 1) (a + j)) else l
def isA (c : Nat → Int) (a : Nat) : Nat → List Nat → List Nat
  | 0, l => l
  | k + 1, l => insA c a (k + 1) (isA c a k l)
theorem insA_length (c : Nat → Int) (a j : Nat) (l : List Nat) : (insA c a j l).length = l.length := by
  induction j generalizing l with
  | zero => rfl
  | succ j ih =>
    rw [insA]; split
    · rw [ih, swp_length]
    · rfl
theorem isA_length (c : Nat → Int) (a k : Nat) (l : List Nat) : (isA c a k l).length = l.length := by
  induction k with
  | zero => rfl
  | succ k ih => rw [isA, insA_length, ih]
theorem insA_zero (c : Nat → Int) (j : Nat) (l : List Nat) : insIn c j l = insA c 0 j l := by
  induction j generalizing l with
  | zero => rfl
  | succ j ih => rw [insIn, insA, Nat.zero_add, ih]; rfl
theorem isA_zero (c : Nat → Int) (k : Nat) (l : List Nat) : isTo c k l = isA c 0 k l := by
  induction k with
  | zero => rfl
  | succ k ih => rw [isTo, isA, ih, insA_zero]
theorem Mv.swp {l : List Nat} {a b i j : Nat} (hi : a ≤ i ∧ i < b) (hj : a ≤ j ∧ j < b) (hl : b ≤ l.length) : Mv a b l (swp l i j) :=
  ⟨swp_perm l i j (by omega) (by omega), fun k hk => by rw [at0_swp _ _ _ _ (by omega) (by omega), if_neg (by omega), if_neg (by omega)], fun k h1 h2 => by
    rw [at0_swp _ _ _ _ (by omega) (by omega)]
    split
    · exact ⟨i, hi.1, hi.2, rfl⟩
    · split
      · exact ⟨j, hj.1, hj.2, rfl⟩
      · exact ⟨k, h1, h2, rfl⟩⟩
theorem insA_ok (c : Nat → Int) (a hi : Nat) : ∀ (j : Nat) (l : List Nat), a + j < hi → hi ≤ l.length → (∀ p q, a ≤ p → p < q → q < hi → p ≠ a + j → q ≠ a + j → lx c (at0 l p) (at0 l q)) → (∀ q, a + j < q → q < hi → lx c (at0 l (a + j)) (at0 l q)) →
    (∀ p, a ≤ p → p < a + j → at0 l p < at0 l (a + j)) → srt c (insA c a j l) a hi ∧ Mv a hi l (insA c a j l) := by
  intro j
  induction j with
  | zero =>
    intro l h1 h2 P1 P2 _
    refine ⟨fun p q hp hpq hq => ?_, Mv.refl _ _ _⟩
    by_cases hpa : p = a
    · subst hpa; exact P2 q (by omega) hq
    · exact P1 p q hp hpq hq (by omega) (by omega)
  | succ j ih =>
    intro l h1 h2 P1 P2 P3
    have e : a + (j + 1) = a + j + 1 := by omega
    rw [e] at P1 P2 P3
    rw [insA]
    split
    · rename_i hlt
      have := ih (swp l (a + j + 1) (a + j)) (by omega) (by rw [swp_length]; exact h2) (fun p q hp hpq hq hn1 hn2 => ?_) (fun q hq1 hq2 => ?_) (fun p hp1 hp2 => ?_)
      · exact ⟨this.1, (Mv.swp (by omega) (by omega) h2).trans this.2⟩
      · rw [at0_swp _ _ _ _ (by omega) (by omega), at0_swp _ _ _ _ (by omega) (by omega), if_neg hn1, if_neg hn2]
        repeat' split
        all_goals first | omega | (apply P1 <;> omega)
      · rw [at0_swp _ _ _ _ (by omega) (by omega), at0_swp _ _ _ _ (by omega) (by omega), if_pos rfl, if_neg (by omega)]
        split
        · exact .inl hlt
        · exact P2 q (by omega) hq2
      · rw [at0_swp _ _ _ _ (by omega) (by omega), at0_swp _ _ _ _ (by omega) (by omega), if_pos rfl, if_neg (by omega), if_neg (by omega)]
        exact P3 p hp1 (by omega)
    · rename_i hlt
      have hyx : lx c (at0 l (a + j)) (at0 l (a + j + 1)) := by
        have := P3 (a + j) (by omega) (by omega)
        unfold lx; omega
      refine ⟨fun p q hp hpq hq => ?_, Mv.refl _ _ _⟩
      by_cases hp1 : p = a + j + 1
      · subst hp1; exact P2 q hpq hq
      · by_cases hq1 : q = a + j + 1
        · subst hq1
          by_cases hp2 : p = a + j
          · subst hp2; exact hyx
          · exact lx_trans (P1 p (a + j) hp (by omega) (by omega) hp1 (by omega)) hyx
        · exact P1 p q hp hpq hq hp1 hq1
theorem isA_ok (c : Nat → Int) (a k : Nat) (l : List Nat) (hk : a + k < l.length) (hup : ∀ p q, a ≤ p → p < q → q < l.length → at0 l p < at0 l q) : srt c (isA c a k l) a (a + k + 1) ∧ Mv a (a + k + 1) l (isA c a k l) := by
  induction k with
  | zero => exact ⟨fun p q h1 h2 h3 => by omega, Mv.refl _ _ _⟩
  | succ k ih =>
    obtain ⟨h1, h2⟩ := ih (by omega)
    have hx : at0 (isA c a k l) (a + (k + 1)) = at0 l (a + (k + 1)) := h2.out _ (by omega)
    have := insA_ok c a (a + (k + 1) + 1) (k + 1) (isA c a k l) (by omega) (by rw [isA_length]; omega) (fun p q hp hpq hq hn1 hn2 => h1 p q hp hpq (by omega)) (fun q h3 h4 => by omega) (fun p hp1 hp2 => by
      obtain ⟨r, r1, r2, r3⟩ := h2.into p hp1 (by omega)
      rw [hx, r3]; exact hup r _ r1 (by omega) (by omega))
    exact ⟨this.1, (h2.wide (Nat.le_refl _) (by omega)).trans this.2⟩
theorem getD_mem0 {l : List Nat} {i : Nat} (h : i < l.length) : l.getD i 0 ∈ l := by
  have e : l.getD i 0 = l[i] := by simp [h]
  rw [e]; exact List.getElem_mem _
set_option maxRecDepth 100000 in
set_option maxHeartbeats 2000000 in
theorem insertA_walk (w : World) (gd n cap gb a b : Nat) (v : Value) (counts : List Int) (l : List Nat) (hS : SortAt w w gd n cap gb v counts l) (hn : n ≤ 1099511627776) (hab : a ≤ b) (hbn : b ≤ n) :
    Calls Tryd.prog 90 #[.slice (some ⟨gd, 0, none⟩) n cap, .int .i64 (a : Int), .int .i64 (b : Int), .func (.func 75) #[] #[.pointer (some ⟨gb, 0, none⟩)]] w fun e w' => e = .returned (.tuple #[]) ∧ SortAt w w' gd n cap gb v counts (isA (fun s => counts.getD s 0) a (b - a - 1) l) := by
  have HS := Lib.hid hS
  clear hS
  go_enter Tryd.func90, Tryd.ntmps90
  go_wp2_with fail
  go_loopw [8, 9] (fun v4 _ wr => ∃ k : Nat, a ≤ k ∧ k - a ≤ b - a - 1 ∧ v4 = .int .i64 ((k : Int) + 1) ∧ SortAt w wr gd n cap gb v counts (isA (fun s => counts.getD s 0) a (k - a) l)) (fun v4 _ _ => b + 1 - (intOf v4).toNat)
  case atStart => exact ⟨a, Nat.le_refl _, by omega, by simp, by rw [Nat.sub_self]; exact HS.out⟩
  case round =>
    clear HS
    obtain ⟨k, hak, hk, rfl, hR⟩ := hrel
    have HR := Lib.hid hR
    clear hR
    by_cases hlt : k + 1 < b
    · have hlti : (k : Int) + 1 < (b : Int) := by omega
      go_wp2_with fail
      go_loopw [9] (fun v5 wr => ∃ (j : Nat) (lj : List Nat), a ≤ j ∧ j ≤ k + 1 ∧ v5 = .int .i64 (j : Int) ∧ SortAt w wr gd n cap gb v counts lj ∧ Hid (insA (fun s => counts.getD s 0) a (j - a) lj = isA (fun s => counts.getD s 0) a (k + 1 - a) l)) (fun v5 _ => (intOf v5).toNat)
      case atStart => exact ⟨k + 1, _, by omega, Nat.le_refl _, by simp, HR.out, by rw [show k + 1 - a = k - a + 1 by omega]; exact rfl⟩
      case round =>
        clear HR
        obtain ⟨j, lj, haj, hj, rfl, hR, HI⟩ := hrel
        have HR := Lib.hid hR
        clear hR
        by_cases h0 : a < j
        · obtain ⟨i, rfl⟩ : ∃ i, j = i + 1 := ⟨j - 1, by omega⟩
          have hai : a ≤ i := by omega
          have haji : (a : Int) < (i : Int) + 1 := by omega
          obtain ⟨c1, f1, hcap⟩ := HR.out.cell (i + 1) (by omega)
          obtain ⟨c0, f0, _⟩ := HR.out.cell i (by omega)
          have hm1 := HR.out.mem (lj.getD (i + 1) 0) (getD_mem0 (by rw [HR.out.len]; omega))
          have hm0 := HR.out.mem (lj.getD i 0) (getD_mem0 (by rw [HR.out.len]; omega))
          have HC := Lib.hid (fun m => byc_walk (wr.drewN m) gb v counts _ _ HR.out.box (HR.out.drewN m).sl hm1 hm0)
          have HSW := Lib.hid (fun m => (HR.out.drewN m).swap (i + 1) i (by omega) (by omega))
          have HIN : Hid (insA (fun s => counts.getD s 0) a (i + 1 - a) lj = if counts.getD (lj.getD (i + 1) 0) 0 < counts.getD (lj.getD i 0) 0 then insA (fun s => counts.getD s 0) a (i - a) (swp lj (i + 1) i) else lj) := Lib.hid (by
            obtain ⟨d, rfl⟩ : ∃ d, i = a + d := ⟨i - a, by omega⟩
            rw [show a + d + 1 - a = d + 1 by omega, show a + d - a = d by omega]; rfl)
          have HNG := Lib.hid (cmpI_neg (counts.getD (lj.getD (i + 1) 0) 0) (counts.getD (lj.getD i 0) 0))
          have HR2 := Lib.hid (fun m => HR.out.drewN m)
          clear HR
          obtain ⟨x, ha⟩ : ∃ x, x = lj.getD (i + 1) 0 := ⟨_, rfl⟩
          obtain ⟨y, hb⟩ : ∃ y, y = lj.getD i 0 := ⟨_, rfl⟩
          rw [← ha] at c1 hm1 HC HSW HIN HNG
          rw [← hb] at c0 hm0 HC HSW HIN HNG
          have HAB := Lib.hid (And.intro ha hb)
          clear ha hb
          obtain ⟨cv, hcv⟩ : ∃ cv, cv = cmpI (counts.getD x 0) (counts.getD y 0) := ⟨_, rfl⟩
          rw [← hcv] at HC HNG
          clear hcv hm1 hm0
          by_cases hlt2 : cv < 0
          · have HIT := Lib.hid (HIN.out.trans (if_pos (HNG.out.1 hlt2)))
            have hdv : decide (cv < 0) = true := decide_eq_true hlt2
            go_wp2_with fail
            go_quiet (first | (go_at_call 75; exact Calls.quiet_of (HC.out _)))
            have HR3 := Lib.hid (HR2.out nq)
            have HSW3 := Lib.hid (HSW.out nq)
            obtain ⟨d1, g1, _⟩ := HR3.out.cell (i + 1) (by omega)
            obtain ⟨d0, g0, _⟩ := HR3.out.cell i (by omega)
            clear HR2 HSW c1 f1 c0 f0 HC
            generalize wr.drewN nq = wz at *
            rw [← HAB.out.1] at d1
            rw [← HAB.out.2] at d0
            have d0b : (wz.setCell ⟨gd, i + 1, none⟩ (.int .i64 (y : Int))).cell? ⟨gd, i, none⟩ = some (.int .i64 (y : Int)) := by
              rw [World.cell?_setCell_other _ _ _ _ (by intro e; simp only [Addr.mk.injEq] at e; omega)]; exact d0
            have d1b : (wz.setCell ⟨gd, i, none⟩ (.int .i64 (x : Int))).cell? ⟨gd, i + 1, none⟩ = some (.int .i64 (x : Int)) := by
              rw [World.cell?_setCell_other _ _ _ _ (by intro e; simp only [Addr.mk.injEq] at e; omega)]; exact d1
            have hi1 : (((i + 1 : Nat) : Int) - 1) = (i : Int) := by omega
            have s0 : IntKind.i64.wrap (i : Int) = (i : Int) := IntWalk.i64_in _ (by omega)
            have s1 : ((i : Int) + 1).toNat = i + 1 := by omega
            obtain ⟨a1, a2, a3⟩ : (i : Int) < (n : Int) ∧ (i : Int) + 1 < (n : Int) ∧ 0 ≤ (i : Int) + 1 := by omega
            go_wp2_with fail
            go_region
            go_wp2_with fail
            refine ⟨⟨i, _, hai, by omega, by go_num, HSW3.out.drewN 1, (show Hid _ from by rw [← HIT.out]; exact HI)⟩, by simp [intOf]⟩
          · have HIT := Lib.hid (HIN.out.trans (if_neg (fun h => hlt2 (HNG.out.2 h))))
            have hdv : decide (cv < 0) = false := decide_eq_false hlt2
            go_wp2_with fail
            go_quiet (first | (go_at_call 75; exact Calls.quiet_of (HC.out _)))
            have HR3 := Lib.hid (HR2.out nq)
            clear HR2 HSW c1 f1 c0 f0 HC
            generalize wr.drewN nq = wz at *
            go_wp2_with fail
            refine ⟨⟨k + 1, by omega, by omega, by go_num, ?_⟩, by simp [intOf]; omega⟩
            rw [← HI.out, HIT.out]; exact HR3.out
        · obtain rfl : j = a := by omega
          have HR2 := Lib.hid (fun m => HR.out.drewN m)
          go_wp2_with fail
          go_quiet (fail)
          have HR3 := Lib.hid (HR2.out nq)
          clear HR2 HR
          generalize wr.drewN nq = wz at *
          go_wp2_with fail
          refine ⟨⟨k + 1, by omega, by omega, by go_num, ?_⟩, by simp [intOf]; omega⟩
          have := HI.out
          rw [Nat.sub_self, insA] at this
          rw [← this]; exact HR3.out
    · have hlti : (b : Int) ≤ (k : Int) + 1 := by omega
      have hkn : k - a = b - a - 1 := by omega
      have HK := Lib.hid hkn
      clear hkn
      go_wp2_with fail
      go_end0
      exact ⟨rfl, by rw [← HK.out]; exact HR.out⟩
end Go.Proofs.YtphdcgioeokfbaaDoor
