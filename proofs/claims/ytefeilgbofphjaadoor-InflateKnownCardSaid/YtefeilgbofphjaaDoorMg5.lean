/-
  Merged, in the order in which they build: Sort Ord Swaps InsA.
-/
import Derived.Deep.RegionHeldLaw
import Derived.Test.YtefeilgbofphjaaDoorMg3
/-
  The contracts of cmp.Compare, the comparison by counts, insertionSortCmpFunc, stableCmpFunc (fewer than 20), SortStableFunc.
-/
namespace Go.Proofs.YtefeilgbofphjaaDoor
open Go.RowKit Hf

def cmpI (x y : Int) : Int := if x < y then -1 else if y < x then 1 else 0
set_option maxHeartbeats 400000 in
theorem isNaN_walk (x : Int) (w : World) : Calls Tryd.prog 73 #[.int .i64 x] w fun e w' => e = .returned (.bool false) ∧ w = w' := by
  go_enter Tryd.func73, Tryd.ntmps73
  go_wp2_with fail
  go_ret
  exact ⟨rfl, rfl⟩
set_option maxHeartbeats 400000 in
theorem compare_walk (x y : Int) (w : World) : Calls Tryd.prog 48 #[.int .i64 x, .int .i64 y] w fun e w' => e = .returned (.int .i64 (cmpI x y)) ∧ w' = w := by
  have HE := Lib.hid (show cmpI x y = (if x < y then -1 else if y < x then 1 else 0) from rfl)
  go_enter Tryd.func48, Tryd.ntmps48
  go_wp2_with fail
  refine (isNaN_walk x w).mono ?_
  rintro e w' ⟨rfl, rfl⟩
  go_wp2_with fail
  refine (isNaN_walk y w).mono ?_
  rintro e w' ⟨rfl, rfl⟩
  by_cases h1 : x < y
  · have HE2 : Hid (cmpI x y = -1) := Lib.hid (by rw [HE.out, if_pos h1])
    clear HE
    go_wp2_with fail
    go_ret
    exact ⟨ret_int HE2.out.symm, rfl⟩
  · by_cases h2 : y < x
    · have HE2 : Hid (cmpI x y = 1) := Lib.hid (by rw [HE.out, if_neg h1, if_pos h2])
      clear HE
      go_wp2_with fail
      go_ret
      exact ⟨ret_int HE2.out.symm, rfl⟩
    · have HE2 : Hid (cmpI x y = 0) := Lib.hid (by rw [HE.out, if_neg h1, if_neg h2])
      clear HE
      go_wp2_with fail
      go_ret
      exact ⟨ret_int HE2.out.symm, rfl⟩
set_option maxRecDepth 100000 in
set_option maxHeartbeats 1000000 in
theorem byc_walk (w : World) (gb : Nat) (v : Value) (counts : List Int) (a b : Nat) (hb : w.cell? ⟨gb, 0, none⟩ = some v) (hv : SlV w v (ni counts)) (ha : a < counts.length) (hbl : b < counts.length) :
    Calls Tryd.prog 47 #[.int .i64 (a : Int), .int .i64 (b : Int), .pointer (some ⟨gb, 0, none⟩)] w fun e w' => e = .returned (.int .i64 (cmpI (counts.getD a 0) (counts.getD b 0))) ∧ ∃ m, w' = w.drewN m := by
  obtain ⟨p, cap, rfl⟩ := hv.shape
  rw [ni_length] at *
  obtain ⟨g, o, rfl, hrow⟩ := hv.some (by omega)
  have hcap := hv.le
  have ca := hrow.ni a ha
  have cb := hrow.ni b hbl
  have hai : (a : Int) < (counts.length : Int) := by omega
  have hbi : (b : Int) < (counts.length : Int) := by omega
  have HC := fun m => compare_walk (counts.getD a 0) (counts.getD b 0) (w.drewN m)
  generalize counts.getD a 0 = x at *
  generalize counts.getD b 0 = y at *
  generalize counts.length = n at *
  have HC := Lib.hid HC
  clear hv hrow
  go_enter Tryd.func47, Tryd.ntmps47
  go_wp2_with fail
  go_quiet (first | (go_at_call 48; exact Calls.quiet_of_same (HC.out _)))
  go_wp2_with fail
  go_ret
  exact ⟨rfl, _, rfl⟩
/-- Two places changed over. -/
def swp (l : List Nat) (i j : Nat) : List Nat := (l.set i (l.getD j 0)).set j (l.getD i 0)
theorem swp_length (l : List Nat) (i j : Nat) : (swp l i j).length = l.length := by simp [swp]
/-- An element goes down as long as the one ahead counts more. -/
def insIn (c : Nat → Int) : Nat → List Nat → List Nat
  | 0, l => l
  | j + 1, l => if c (l.getD (j + 1) 0) < c (l.getD j 0) then insIn c j (swp l (j + 1) j) else l
def isTo (c : Nat → Int) : Nat → List Nat → List Nat
  | 0, l => l
  | k + 1, l => insIn c (k + 1) (isTo c k l)
theorem insIn_length (c : Nat → Int) (j : Nat) (l : List Nat) : (insIn c j l).length = l.length := by
  induction j generalizing l with
  | zero => rfl
  | succ j ih =>
    rw [insIn]; split
    · rw [ih, swp_length]
    · rfl
theorem isTo_length (c : Nat → Int) (k : Nat) (l : List Nat) : (isTo c k l).length = l.length := by
  induction k with
  | zero => rfl
  | succ k ih => rw [isTo, insIn_length, ih]
theorem swp_mem (l : List Nat) (i j : Nat) (hi : i < l.length) (hj : j < l.length) : ∀ s ∈ swp l i j, s ∈ l := by
  intro s hs
  unfold swp at hs
  have e1 : l.getD i 0 = l[i] := by simp [hi]
  have e2 : l.getD j 0 = l[j] := by simp [hj]
  rcases List.mem_or_eq_of_mem_set hs with h | h
  · rcases List.mem_or_eq_of_mem_set h with h | h
    · exact h
    · rw [h, e2]; exact List.getElem_mem _
  · rw [h, e1]; exact List.getElem_mem _
theorem cmpI_neg (x y : Int) : cmpI x y < 0 ↔ x < y := by
  unfold cmpI; split
  · simp [*]
  · split
    · omega
    · omega
def nl (l : List Nat) : List Value := ni (l.map fun (s : Nat) => (s : Int))
theorem nl_length (l : List Nat) : (nl l).length = l.length := by simp [nl]
theorem nl_at (l : List Nat) (i : Nat) (hi : i < l.length) : (nl l)[i]? = some (.int .i64 ((l.getD i 0 : Nat) : Int)) := by simp [nl, ni, hi]
theorem nl_swp (l : List Nat) (i j : Nat) : ((nl l).set i (.int .i64 ((l.getD j 0 : Nat) : Int))).set j (.int .i64 ((l.getD i 0 : Nat) : Int)) = nl (swp l i j) := by
  unfold nl ni swp
  rw [List.map_set, List.map_set, List.map_set, List.map_set]
/-- The row that is sorted, the box of the counts, the counts: nothing of one in the other. -/
structure SortAt (w0 w : World) (gd n cap gb : Nat) (v : Value) (counts : List Int) (l : List Nat) : Prop where
  own : w.ownsRow 0 3 1 (.slice (some ⟨gd, 0, none⟩) n cap) n (nl l)
  len : l.length = n
  box : w.cell? ⟨gb, 0, none⟩ = some v
  sl : SlV w v (ni counts)
  nb : gb ≠ gd
  na : ∀ p m c, v = .slice (some p) m c → 0 < m → p.block ≠ gd
  mem : ∀ s ∈ l, s < counts.length
  only : OnlyS (· = gd) w0 w
theorem SortAt.drewN {w0 w : World} {gd n cap gb : Nat} {v : Value} {counts : List Int} {l : List Nat} (h : SortAt w0 w gd n cap gb v counts l) (m : Nat) : SortAt w0 (w.drewN m) gd n cap gb v counts l :=
  ⟨h.own, h.len, h.box, h.sl, h.nb, h.na, h.mem, h.only.trans ⟨rfl, rfl, rfl, Nat.le_refl _, fun _ _ _ => rfl⟩⟩
theorem SortAt.cell {w0 w : World} {gd n cap gb : Nat} {v : Value} {counts : List Int} {l : List Nat} (h : SortAt w0 w gd n cap gb v counts l) (i : Nat) (hi : i < n) : w.cell? ⟨gd, i, none⟩ = some (.int .i64 ((l.getD i 0 : Nat) : Int)) ∧ w.frozen? ⟨gd, i, none⟩ = false ∧ n ≤ cap := by
  obtain ⟨g, c, he, _, _, h3, _, h5, h6, _⟩ := own_spot h.own (by omega)
  cases he
  exact ⟨h5 i _ (nl_at l i (by rw [h.len]; exact hi)), h6 i, h3⟩
theorem SortAt.swap {w0 w : World} {gd n cap gb : Nat} {v : Value} {counts : List Int} {l : List Nat} (h : SortAt w0 w gd n cap gb v counts l) (i j : Nat) (hi : i < n) (hj : j < n) :
    SortAt w0 ((w.setCell ⟨gd, i, none⟩ (.int .i64 ((l.getD j 0 : Nat) : Int))).setCell ⟨gd, j, none⟩ (.int .i64 ((l.getD i 0 : Nat) : Int))) gd n cap gb v counts (swp l i j) := by
  have ho : OnlyS (· = gd) w ((w.setCell ⟨gd, i, none⟩ (.int .i64 ((l.getD j 0 : Nat) : Int))).setCell ⟨gd, j, none⟩ (.int .i64 ((l.getD i 0 : Nat) : Int))) := (OnlyS.setCell (S := (· = gd)) _ _ _ _ rfl).trans (OnlyS.setCell (S := (· = gd)) _ _ _ _ rfl)
  refine ⟨?_, by rw [swp_length]; exact h.len, ho.cell h.box h.nb, ?_, h.nb, h.na, fun s hs => h.mem s (swp_mem l i j (by rw [h.len]; exact hi) (by rw [h.len]; exact hj) s hs), h.only.trans ho⟩
  · obtain ⟨g, c, he, _, _, _, _, _, _, h7⟩ := own_spot h.own (by omega)
    cases he
    have h1 := h7 i (.int .i64 ((l.getD j 0 : Nat) : Int)) hi
    obtain ⟨g, c, he, _, _, _, _, _, _, h8⟩ := own_spot h1 (by omega)
    cases he
    have h2 := h8 j (.int .i64 ((l.getD i 0 : Nat) : Int)) hj
    rw [nl_swp] at h2
    exact h2
  · rcases h.sl with ⟨g, o, c, h1, h2, h3⟩ | h1
    · refine .inl ⟨g, o, c, h1, h2, fun k u hk => ho.cell (h3 k u hk) ?_⟩
      have hkl := (List.getElem?_eq_some_iff.1 hk).1
      exact h.na ⟨g, o, none⟩ _ _ h1 (by omega)
    · exact .inr h1
set_option maxRecDepth 100000 in
set_option maxHeartbeats 2000000 in
theorem insertion_walk (w : World) (gd n cap gb : Nat) (v : Value) (counts : List Int) (l : List Nat) (hS : SortAt w w gd n cap gb v counts l) (hn : n ≤ 1099511627776) :
    Calls Tryd.prog 88 #[.slice (some ⟨gd, 0, none⟩) n cap, .int .i64 0, .int .i64 (n : Int), .func (.func 47) #[] #[.pointer (some ⟨gb, 0, none⟩)]] w fun e w' => e = .returned (.tuple #[]) ∧ SortAt w w' gd n cap gb v counts (isTo (fun s => counts.getD s 0) (n - 1) l) := by
  have HS := Lib.hid hS
  clear hS
  go_enter Tryd.func88, Tryd.ntmps88
  go_wp2_with fail
  go_loopw [8, 9] (fun v4 _ wr => ∃ k : Nat, k ≤ n - 1 ∧ v4 = .int .i64 ((k : Int) + 1) ∧ SortAt w wr gd n cap gb v counts (isTo (fun s => counts.getD s 0) k l)) (fun v4 _ _ => n + 1 - (intOf v4).toNat)
  case atStart => exact ⟨0, Nat.zero_le _, rfl, HS.out⟩
  case round =>
    clear HS
    obtain ⟨k, hk, rfl, hR⟩ := hrel
    have HR := Lib.hid hR
    clear hR
    by_cases hlt : k + 1 < n
    · have hlti : (k : Int) + 1 < (n : Int) := by omega
      go_wp2_with fail
      go_loopw [9] (fun v5 wr => ∃ (j : Nat) (lj : List Nat), j ≤ k + 1 ∧ v5 = .int .i64 (j : Int) ∧ SortAt w wr gd n cap gb v counts lj ∧ Hid (insIn (fun s => counts.getD s 0) j lj = isTo (fun s => counts.getD s 0) (k + 1) l)) (fun v5 _ => (intOf v5).toNat)
      case atStart => exact ⟨k + 1, _, Nat.le_refl _, by simp, HR.out, rfl⟩
      case round =>
        clear HR
        obtain ⟨j, lj, hj, rfl, hR, HI⟩ := hrel
        have HR := Lib.hid hR
        clear hR
        by_cases h0 : 0 < j
        · obtain ⟨i, rfl⟩ : ∃ i, j = i + 1 := ⟨j - 1, by omega⟩
          obtain ⟨c1, f1, hcap⟩ := HR.out.cell (i + 1) (by omega)
          obtain ⟨c0, f0, _⟩ := HR.out.cell i (by omega)
          have hm1 := HR.out.mem (lj.getD (i + 1) 0) (by have hl : i + 1 < lj.length := by rw [HR.out.len]; omega
                                                         have e : lj.getD (i + 1) 0 = lj[i + 1] := by simp [hl]
                                                         rw [e]; exact List.getElem_mem _)
          have hm0 := HR.out.mem (lj.getD i 0) (by have hl : i < lj.length := by rw [HR.out.len]; omega
                                                   have e : lj.getD i 0 = lj[i] := by simp [hl]
                                                   rw [e]; exact List.getElem_mem _)
          have HC := Lib.hid (fun m => byc_walk (wr.drewN m) gb v counts _ _ HR.out.box (HR.out.drewN m).sl hm1 hm0)
          have HSW := Lib.hid (fun m => (HR.out.drewN m).swap (i + 1) i (by omega) (by omega))
          have HIN : Hid (insIn (fun s => counts.getD s 0) (i + 1) lj = if counts.getD (lj.getD (i + 1) 0) 0 < counts.getD (lj.getD i 0) 0 then insIn (fun s => counts.getD s 0) i (swp lj (i + 1) i) else lj) := Lib.hid rfl
          have HNG := Lib.hid (cmpI_neg (counts.getD (lj.getD (i + 1) 0) 0) (counts.getD (lj.getD i 0) 0))
          have HR2 := Lib.hid (fun m => HR.out.drewN m)
          clear HR
          obtain ⟨a, ha⟩ : ∃ a, a = lj.getD (i + 1) 0 := ⟨_, rfl⟩
          obtain ⟨b, hb⟩ : ∃ b, b = lj.getD i 0 := ⟨_, rfl⟩
          rw [← ha] at c1 hm1 HC HSW HIN HNG
          rw [← hb] at c0 hm0 HC HSW HIN HNG
          have HAB := Lib.hid (And.intro ha hb)
          clear ha hb
          obtain ⟨cv, hcv⟩ : ∃ cv, cv = cmpI (counts.getD a 0) (counts.getD b 0) := ⟨_, rfl⟩
          rw [← hcv] at HC HNG
          clear hcv hm1 hm0
          by_cases hlt2 : cv < 0
          · have HIT := Lib.hid (HIN.out.trans (if_pos (HNG.out.1 hlt2)))
            have hdv : decide (cv < 0) = true := decide_eq_true hlt2
            go_wp2_with fail
            go_quiet (first | (go_at_call 47; exact Calls.quiet_of (HC.out _)))
            have HR3 := Lib.hid (HR2.out nq)
            have HSW3 := Lib.hid (HSW.out nq)
            obtain ⟨d1, g1, _⟩ := HR3.out.cell (i + 1) (by omega)
            obtain ⟨d0, g0, _⟩ := HR3.out.cell i (by omega)
            clear HR2 HSW c1 f1 c0 f0 HC
            generalize wr.drewN nq = wz at *
            rw [← HAB.out.1] at d1
            rw [← HAB.out.2] at d0
            have d0b : (wz.setCell ⟨gd, i + 1, none⟩ (.int .i64 (b : Int))).cell? ⟨gd, i, none⟩ = some (.int .i64 (b : Int)) := by
              rw [World.cell?_setCell_other _ _ _ _ (by intro e; simp only [Addr.mk.injEq] at e; omega)]; exact d0
            have d1b : (wz.setCell ⟨gd, i, none⟩ (.int .i64 (a : Int))).cell? ⟨gd, i + 1, none⟩ = some (.int .i64 (a : Int)) := by
              rw [World.cell?_setCell_other _ _ _ _ (by intro e; simp only [Addr.mk.injEq] at e; omega)]; exact d1
            have hi1 : (((i + 1 : Nat) : Int) - 1) = (i : Int) := by omega
            have s0 : IntKind.i64.wrap (i : Int) = (i : Int) := IntWalk.i64_in _ (by omega)
            have s1 : ((i : Int) + 1).toNat = i + 1 := by omega
            obtain ⟨a1, a2, a3⟩ : (i : Int) < (n : Int) ∧ (i : Int) + 1 < (n : Int) ∧ 0 ≤ (i : Int) + 1 := by omega
            go_wp2_with fail
            go_region
            go_wp2_with fail
            refine ⟨⟨i, _, by omega, by go_num, HSW3.out.drewN 1, (show Hid _ from by rw [← HIT.out]; exact HI)⟩, by simp [intOf]⟩
          · have HIT := Lib.hid (HIN.out.trans (if_neg (fun h => hlt2 (HNG.out.2 h))))
            have hdv : decide (cv < 0) = false := decide_eq_false hlt2
            go_wp2_with fail
            go_quiet (first | (go_at_call 47; exact Calls.quiet_of (HC.out _)))
            have HR3 := Lib.hid (HR2.out nq)
            clear HR2 HSW c1 f1 c0 f0 HC
            generalize wr.drewN nq = wz at *
            go_wp2_with fail
            refine ⟨⟨k + 1, by omega, by go_num, ?_⟩, by simp [intOf]; omega⟩
            rw [← HI.out, HIT.out]; exact HR3.out
        · obtain rfl : j = 0 := by omega
          have HR2 := Lib.hid (fun m => HR.out.drewN m)
          go_wp2_with fail
          go_quiet (fail)
          have HR3 := Lib.hid (HR2.out nq)
          clear HR2 HR
          generalize wr.drewN nq = wz at *
          go_wp2_with fail
          refine ⟨⟨k + 1, by omega, by go_num, ?_⟩, by simp [intOf]; omega⟩
          have := HI.out
          rw [insIn] at this
          rw [← this]; exact HR3.out
    · have hlti : (n : Int) ≤ (k : Int) + 1 := by omega
      have hkn : k = n - 1 := by omega
      have HK := Lib.hid hkn
      clear hkn
      go_wp2_with fail
      go_end0
      exact ⟨rfl, by rw [← HK.out]; exact HR.out⟩
set_option maxRecDepth 100000 in
set_option maxHeartbeats 1000000 in
theorem stable_walk (w : World) (gd n cap gb : Nat) (v : Value) (counts : List Int) (l : List Nat) (hS : SortAt w w gd n cap gb v counts l) (hn : n < 20) :
    Calls Tryd.prog 72 #[.slice (some ⟨gd, 0, none⟩) n cap, .int .i64 (n : Int), .func (.func 47) #[] #[.pointer (some ⟨gb, 0, none⟩)]] w fun e w' => e = .returned (.tuple #[]) ∧ SortAt w w' gd n cap gb v counts (isTo (fun s => counts.getD s 0) (n - 1) l) := by
  have HI := Lib.hid (insertion_walk w gd n cap gb v counts l hS (by omega))
  have hni : (n : Int) < 20 := by omega
  clear hS
  go_enter Tryd.func72, Tryd.ntmps72
  go_wp2_with fail
  go_loopw [7, 8] (fun v7 v8 wr => v7 = .int .i64 0 ∧ v8 = .int .i64 20 ∧ wr = w) (fun _ _ _ => 0)
  case atStart => exact ⟨rfl, rfl, rfl⟩
  case round =>
    obtain ⟨rfl, rfl, rfl⟩ := hrel
    go_wp2_with fail
    refine HI.out.mono ?_
    rintro e w1 ⟨rfl, hS1⟩
    have HS := Lib.hid hS1
    clear hS1 HI
    go_wp2_with fail
    go_loopw [6, 7, 8, 9] (fun v6 _ _ _ wr => v6 = .int .i64 20 ∧ wr = w1) (fun _ _ _ _ _ => 0)
    case atStart => exact ⟨rfl, rfl⟩
    case round =>
      obtain ⟨rfl, rfl⟩ := hrel
      go_wp2_with fail
      go_end0
      exact ⟨rfl, HS.out⟩
set_option maxHeartbeats 1000000 in
theorem sort_walk (w : World) (gd n cap gb : Nat) (v : Value) (counts : List Int) (l : List Nat) (hS : SortAt w w gd n cap gb v counts l) (hn : n < 20) :
    Calls Tryd.prog 46 #[.slice (some ⟨gd, 0, none⟩) n cap, .func (.func 47) #[] #[.pointer (some ⟨gb, 0, none⟩)]] w fun e w' => e = .returned (.tuple #[]) ∧ SortAt w w' gd n cap gb v counts (isTo (fun s => counts.getD s 0) (n - 1) l) := by
  have HI := Lib.hid (stable_walk w gd n cap gb v counts l hS hn)
  clear hS
  go_enter Tryd.func46, Tryd.ntmps46
  go_wp2_with fail
  refine HI.out.mono ?_
  rintro e w1 ⟨rfl, hS1⟩
  have HS := Lib.hid hS1
  clear hS1 HI
  go_wp2_with fail
  go_end0
  exact ⟨rfl, HS.out⟩
/-- sorting of none: the row is nil. -/
theorem sort_nil (w : World) (gb : Nat) : Calls Tryd.prog 46 #[.slice none 0 0, .func (.func 47) #[] #[.pointer (some ⟨gb, 0, none⟩)]] w fun e w' => e = .returned (.tuple #[]) ∧ w' = w := by
  have h49 : Calls Tryd.prog 88 #[.slice none 0 0, .int .i64 0, .int .i64 0, .func (.func 47) #[] #[.pointer (some ⟨gb, 0, none⟩)]] w fun e w' => e = .returned (.tuple #[]) ∧ w' = w := by
    go_enter Tryd.func88, Tryd.ntmps88
    go_wp2_with fail
    go_loopw [8, 9] (fun v8 _ wr => v8 = .int .i64 1 ∧ wr = w) (fun _ _ _ => 0)
    case atStart => exact ⟨rfl, rfl⟩
    case round =>
      obtain ⟨rfl, rfl⟩ := hrel
      go_wp2_with fail
      go_end0
      exact ⟨rfl, rfl⟩
  have HI := Lib.hid h49
  clear h49
  have h46 : Calls Tryd.prog 72 #[.slice none 0 0, .int .i64 0, .func (.func 47) #[] #[.pointer (some ⟨gb, 0, none⟩)]] w fun e w' => e = .returned (.tuple #[]) ∧ w' = w := by
    go_enter Tryd.func72, Tryd.ntmps72
    go_wp2_with fail
    go_loopw [7, 8] (fun v7 v8 wr => v7 = .int .i64 0 ∧ v8 = .int .i64 20 ∧ wr = w) (fun _ _ _ => 0)
    case atStart => exact ⟨rfl, rfl, rfl⟩
    case round =>
      obtain ⟨rfl, rfl, rfl⟩ := hrel
      go_wp2_with fail
      refine HI.out.mono ?_
      rintro e w1 ⟨rfl, rfl⟩
      clear HI
      go_wp2_with fail
      go_loopw [6, 7, 8, 9] (fun v6 _ _ _ wr => v6 = .int .i64 20 ∧ wr = w1) (fun _ _ _ _ _ => 0)
      case atStart => exact ⟨rfl, rfl⟩
      case round =>
        obtain ⟨rfl, rfl⟩ := hrel
        go_wp2_with fail
        go_end0
        exact ⟨rfl, rfl⟩
  have HI := Lib.hid h46
  clear h46
  go_enter Tryd.func46, Tryd.ntmps46
  go_wp2_with fail
  refine HI.out.mono ?_
  rintro e w1 ⟨rfl, rfl⟩
  go_wp2_with fail
  go_end0
  exact ⟨rfl, rfl⟩
end Go.Proofs.YtefeilgbofphjaaDoor
/-
  The plain mathematics of sorting in place: two places changed over, ranges changed over, a turned range, insertion, and when a whole is in order.
-/
namespace Go.Proofs.YtefeilgbofphjaaDoor
open Go.RowKit Hf

theorem eq_of_getD {l l' : List Nat} (hl : l.length = l'.length) (h : ∀ k, l.getD k 0 = l'.getD k 0) : l = l' := by
  apply List.ext_getElem hl
  intro i h1 h2
  have := h i
  simpa [h1, h2] using this
/-- In order: by counts, of one count by symbols. -/
def lx (c : Nat → Int) (s t : Nat) : Prop := c s < c t ∨ (c s = c t ∧ s < t)
theorem lx_trans {c : Nat → Int} {a b d : Nat} (h : lx c a b) (k : lx c b d) : lx c a d := by unfold lx at *; omega
theorem lx_not {c : Nat → Int} {a b : Nat} (h : lx c a b) : ¬ lx c b a := by unfold lx at *; omega
def at0 (l : List Nat) (i : Nat) : Nat := l.getD i 0
theorem at0_out (l : List Nat) (i : Nat) (h : l.length ≤ i) : at0 l i = 0 := by unfold at0; simp [h]
theorem eq_of_at0 {l l' : List Nat} (hl : l.length = l'.length) (h : ∀ k, at0 l k = at0 l' k) : l = l' := eq_of_getD hl h
theorem at0_map (l : List Nat) (f : Nat → Nat) (k : Nat) : at0 ((List.range l.length).map f) k = if k < l.length then f k else 0 := by
  unfold at0
  split
  · rename_i h; simp [h]
  · rename_i h; simp [h]
theorem at0_swp (l : List Nat) (i j k : Nat) (hi : i < l.length) (hj : j < l.length) : at0 (swp l i j) k = if k = j then at0 l i else if k = i then at0 l j else at0 l k := by
  unfold at0 swp
  simp only [List.getD_eq_getElem?_getD, List.getElem?_set, List.length_set]
  by_cases h1 : j = k
  · subst h1; simp [hj]
  · have h1' : ¬ k = j := fun e => h1 e.symm
    by_cases h2 : i = k
    · subst h2; simp [hi, h1, h1']
    · have h2' : ¬ k = i := fun e => h2 e.symm
      simp [h1, h2, h1', h2']
theorem swp_perm (l : List Nat) (i j : Nat) (hi : i < l.length) (hj : j < l.length) : (swp l i j).Perm l := by
  unfold swp
  have e1 : l.getD i 0 = l[i] := by simp [hi]
  have e2 : l.getD j 0 = l[j] := by simp [hj]
  rw [e1, e2]
  exact List.set_set_perm hi hj
/-- Two ranges of i places, from a and from b on, changed over. -/
def sr (l : List Nat) (a b i : Nat) : List Nat := (List.range l.length).map fun k => if a ≤ k ∧ k < a + i then at0 l (k + (b - a)) else if b ≤ k ∧ k < b + i then at0 l (k - (b - a)) else at0 l k
theorem sr_length (l : List Nat) (a b i : Nat) : (sr l a b i).length = l.length := by simp [sr]
theorem at0_sr (l : List Nat) (a b i k : Nat) (h : a + i ≤ b) (hl : b + i ≤ l.length) : at0 (sr l a b i) k = if a ≤ k ∧ k < a + i then at0 l (k + (b - a)) else if b ≤ k ∧ k < b + i then at0 l (k - (b - a)) else at0 l k := by
  unfold sr
  rw [at0_map]
  split
  · rfl
  · rename_i hk
    rw [if_neg (by omega), if_neg (by omega), at0_out _ _ (by omega)]
/-- A range from s to e, what stands behind m put ahead. -/
def rot (l : List Nat) (s m e : Nat) : List Nat := (List.range l.length).map fun k => if s ≤ k ∧ k < e then (if k < s + (e - m) then at0 l (k + (m - s)) else at0 l (k - (e - m))) else at0 l k
theorem rot_length (l : List Nat) (s m e : Nat) : (rot l s m e).length = l.length := by simp [rot]
theorem at0_rot (l : List Nat) (s m e k : Nat) (hl : e ≤ l.length) : at0 (rot l s m e) k = if s ≤ k ∧ k < e then (if k < s + (e - m) then at0 l (k + (m - s)) else at0 l (k - (e - m))) else at0 l k := by
  unfold rot
  rw [at0_map]
  split
  · rfl
  · rename_i hk
    rw [if_neg (by omega), at0_out _ _ (by omega)]
theorem sr_zero (l : List Nat) (a b : Nat) (h : a ≤ b) (hl : b ≤ l.length) : sr l a b 0 = l := by
  refine eq_of_at0 (sr_length _ _ _ _) fun k => ?_
  rw [at0_sr _ _ _ _ _ (by omega) (by omega), if_neg (by omega), if_neg (by omega)]
theorem sr_step (l : List Nat) (a b i : Nat) (h : a + (i + 1) ≤ b) (hl : b + (i + 1) ≤ l.length) : swp (sr l a b i) (a + i) (b + i) = sr l a b (i + 1) := by
  refine eq_of_at0 (by rw [swp_length, sr_length, sr_length]) fun k => ?_
  rw [at0_swp _ _ _ _ (by rw [sr_length]; omega) (by rw [sr_length]; omega)]
  simp only [at0_sr l a b i _ (show a + i ≤ b by omega) (show b + i ≤ l.length by omega), at0_sr l a b (i + 1) _ (show a + (i + 1) ≤ b by omega) hl]
  repeat' split
  all_goals first | omega | rfl | (congr 1; omega)
theorem rot_left (l : List Nat) (s m : Nat) (hl : m ≤ l.length) : rot l s m m = l := by
  refine eq_of_at0 (rot_length _ _ _ _) fun k => ?_
  rw [at0_rot _ _ _ _ _ hl]
  repeat' split
  all_goals first | omega | rfl | (congr 1; omega)
theorem rot_right (l : List Nat) (m e : Nat) (h : m ≤ e) (hl : e ≤ l.length) : rot l m m e = l := by
  refine eq_of_at0 (rot_length _ _ _ _) fun k => ?_
  rw [at0_rot _ _ _ _ _ hl]
  repeat' split
  all_goals first | omega | rfl | (congr 1; omega)
/-- The first goes up by one place. -/
theorem rot_up (l : List Nat) (a k : Nat) (hk : a ≤ k) (hl : k + 2 ≤ l.length) : swp (rot l a (a + 1) (k + 1)) k (k + 1) = rot l a (a + 1) (k + 2) := by
  refine eq_of_at0 (by rw [swp_length, rot_length, rot_length]) fun q => ?_
  rw [at0_swp _ _ _ _ (by rw [rot_length]; omega) (by rw [rot_length]; omega)]
  simp only [at0_rot l a (a + 1) (k + 1) _ (show k + 1 ≤ l.length by omega), at0_rot l a (a + 1) (k + 2) _ hl]
  repeat' split
  all_goals first | omega | rfl | (congr 1; omega)
/-- The last goes down by one place. -/
theorem rot_down (l : List Nat) (k m : Nat) (hk : k + 1 ≤ m) (hl : m + 1 ≤ l.length) : swp (rot l (k + 1) m (m + 1)) (k + 1) k = rot l k m (m + 1) := by
  refine eq_of_at0 (by rw [swp_length, rot_length, rot_length]) fun q => ?_
  rw [at0_swp _ _ _ _ (by rw [rot_length]; omega) (by rw [rot_length]; omega)]
  simp only [at0_rot l (k + 1) m (m + 1) _ hl, at0_rot l k m (m + 1) _ hl]
  repeat' split
  all_goals first | omega | rfl | (congr 1; omega)
theorem rot_same (l : List Nat) (m i : Nat) (hi : i ≤ m) (hl : m + i ≤ l.length) : sr l (m - i) m i = rot l (m - i) m (m + i) := by
  refine eq_of_at0 (by rw [sr_length, rot_length]) fun q => ?_
  rw [at0_sr _ _ _ _ _ (by omega) hl, at0_rot _ _ _ _ _ hl]
  repeat' split
  all_goals first | omega | rfl | (congr 1; omega)
theorem rot_long (l : List Nat) (m i j : Nat) (hi : i ≤ m) (hj : j < i) (hl : m + j ≤ l.length) : rot (sr l (m - i) m j) (m - (i - j)) m (m + j) = rot l (m - i) m (m + j) := by
  refine eq_of_at0 (by rw [rot_length, sr_length, rot_length]) fun q => ?_
  rw [at0_rot _ _ _ _ _ (by rw [sr_length]; exact hl), at0_rot _ _ _ _ _ hl]
  simp only [at0_sr l (m - i) m j _ (show m - i + j ≤ m by omega) hl]
  repeat' split
  all_goals first | omega | rfl | (congr 1; omega)
theorem rot_short (l : List Nat) (m i j : Nat) (hi : i ≤ m) (hj : i < j) (hl : m + j ≤ l.length) : rot (sr l (m - i) (m + j - i) i) (m - i) m (m + (j - i)) = rot l (m - i) m (m + j) := by
  refine eq_of_at0 (by rw [rot_length, sr_length, rot_length]) fun q => ?_
  rw [at0_rot _ _ _ _ _ (by rw [sr_length]; omega), at0_rot _ _ _ _ _ hl]
  simp only [at0_sr l (m - i) (m + j - i) i _ (show m - i + i ≤ m + j - i by omega) (show m + j - i + i ≤ l.length by omega)]
  repeat' split
  all_goals first | omega | rfl | (congr 1; omega)
/-- In order from a to b. -/
def srt (c : Nat → Int) (l : List Nat) (a b : Nat) : Prop := ∀ i j, a ≤ i → i < j → j < b → lx c (at0 l i) (at0 l j)
/-- Of the symbols from a to m none is above one of those from m to b. -/
def apt (l : List Nat) (a m b : Nat) : Prop := ∀ i j, a ≤ i → i < m → m ≤ j → j < b → at0 l i < at0 l j
/-- Only from a to b has something moved. -/
structure Mv (a b : Nat) (l l' : List Nat) : Prop where
  perm : l'.Perm l
  out : ∀ i, i < a ∨ b ≤ i → at0 l' i = at0 l i
  into : ∀ i, a ≤ i → i < b → ∃ k, a ≤ k ∧ k < b ∧ at0 l' i = at0 l k
theorem Mv.refl (a b : Nat) (l : List Nat) : Mv a b l l := ⟨List.Perm.refl _, fun _ _ => rfl, fun i h1 h2 => ⟨i, h1, h2, rfl⟩⟩
theorem Mv.len {a b : Nat} {l l' : List Nat} (h : Mv a b l l') : l'.length = l.length := h.perm.length_eq
theorem Mv.trans {a b : Nat} {l l' l2 : List Nat} (h : Mv a b l l') (k : Mv a b l' l2) : Mv a b l l2 :=
  ⟨k.perm.trans h.perm, fun i hi => (k.out i hi).trans (h.out i hi), fun i h1 h2 => by
    obtain ⟨j, j1, j2, j3⟩ := k.into i h1 h2
    obtain ⟨q, q1, q2, q3⟩ := h.into j j1 j2
    exact ⟨q, q1, q2, j3.trans q3⟩⟩
theorem Mv.wide {a b a' b' : Nat} {l l' : List Nat} (h : Mv a b l l') (ha : a' ≤ a) (hb : b ≤ b') : Mv a' b' l l' :=
  ⟨h.perm, fun i hi => h.out i (by omega), fun i h1 h2 => by
    by_cases hi : a ≤ i ∧ i < b
    · obtain ⟨k, k1, k2, k3⟩ := h.into i hi.1 hi.2
      exact ⟨k, by omega, by omega, k3⟩
    · exact ⟨i, h1, h2, h.out i (by omega)⟩⟩
theorem Mv.rot {l : List Nat} {s m e : Nat} (hs : s ≤ m) (he : m ≤ e) (hl : e ≤ l.length) (hp : (rot l s m e).Perm l) : Mv s e l (rot l s m e) :=
  ⟨hp, fun i hi => by rw [at0_rot _ _ _ _ _ hl, if_neg (by omega)], fun i h1 h2 => by
    rw [at0_rot _ _ _ _ _ hl, if_pos ⟨h1, h2⟩]
    split
    · exact ⟨_, by omega, by omega, rfl⟩
    · exact ⟨_, by omega, by omega, rfl⟩⟩
/-- A turned range is in order as a whole. -/
theorem rot_srt {c : Nat → Int} {l : List Nat} {a m b s e : Nat} (h1 : a ≤ s) (h2 : s ≤ m) (h3 : m ≤ e) (h4 : e ≤ b) (hl : b ≤ l.length) (hL : srt c l a m) (hR : srt c l m b)
    (y1 : ∀ i j, a ≤ i → i < s → m ≤ j → j < e → lx c (at0 l i) (at0 l j)) (y2 : ∀ i j, s ≤ i → i < m → e ≤ j → j < b → lx c (at0 l i) (at0 l j))
    (x1 : ∀ i j, a ≤ i → i < s → e ≤ j → j < b → lx c (at0 l i) (at0 l j)) (x2 : ∀ i j, m ≤ i → i < e → s ≤ j → j < m → lx c (at0 l i) (at0 l j)) : srt c (rot l s m e) a b := by
  intro i j hi hij hj
  rw [at0_rot _ _ _ _ _ (by omega), at0_rot _ _ _ _ _ (by omega)]
  repeat' split
  all_goals first | omega | (apply hL <;> omega) | (apply hR <;> omega) | (apply y1 <;> omega) | (apply y2 <;> omega) | (apply x1 <;> omega) | (apply x2 <;> omega) | skip
  by_cases q1 : j < s
  · apply hL <;> omega
  · by_cases q2 : i < s
    · apply x1 <;> omega
    · apply hR <;> omega
/-- Both halves merged: the whole is in order. -/
theorem halves_srt {c : Nat → Int} {l l3 l4 : List Nat} {a m b s e : Nat} (h1 : a ≤ s) (h2 : s ≤ m) (h3 : m ≤ e) (h4 : e ≤ b) (hl : b ≤ l.length) (hL : srt c l a m) (hR : srt c l m b)
    (x1 : ∀ i j, a ≤ i → i < s → e ≤ j → j < b → lx c (at0 l i) (at0 l j)) (x2 : ∀ i j, m ≤ i → i < e → s ≤ j → j < m → lx c (at0 l i) (at0 l j))
    (m3 : Mv a (s + (e - m)) (rot l s m e) l3) (m4 : Mv (s + (e - m)) b l3 l4) (s3 : srt c l3 a (s + (e - m))) (s4 : srt c l4 (s + (e - m)) b) : srt c l4 a b := by
  intro i j hi hij hj
  by_cases c1 : j < s + (e - m)
  · rw [m4.out i (by omega), m4.out j (by omega)]; exact s3 i j hi hij c1
  · by_cases c2 : s + (e - m) ≤ i
    · exact s4 i j c2 hij hj
    · rw [m4.out i (by omega)]
      obtain ⟨k, k1, k2, k3⟩ := m3.into i hi (by omega)
      obtain ⟨q, q1, q2, q3⟩ := m4.into j (by omega) hj
      rw [k3, q3, m3.out q (by omega)]
      rw [at0_rot _ _ _ _ _ (by omega), at0_rot _ _ _ _ _ (by omega)]
      repeat' split
      all_goals first | omega | (apply hL <;> omega) | (apply hR <;> omega) | (apply x1 <;> omega) | (apply x2 <;> omega)
/-- The two parts that the lower half is merged of. -/
theorem lower_pre {c : Nat → Int} {l : List Nat} {a m b s e : Nat} (_h1 : a ≤ s) (h2 : s ≤ m) (h3 : m ≤ e) (h4 : e ≤ b) (hl : b ≤ l.length) (hL : srt c l a m) (hR : srt c l m b) (hA : apt l a m b) :
    srt c (rot l s m e) a s ∧ srt c (rot l s m e) s (s + (e - m)) ∧ apt (rot l s m e) a s (s + (e - m)) := by
  refine ⟨fun i j hi hij hj => ?_, fun i j hi hij hj => ?_, fun i j hi him hj hjb => ?_⟩
  all_goals
    rw [at0_rot _ _ _ _ _ (by omega), at0_rot _ _ _ _ _ (by omega)]
    repeat' split
  all_goals first | omega | (apply hL <;> omega) | (apply hR <;> omega) | (apply hA <;> omega)
theorem upper_pre {c : Nat → Int} {l l3 : List Nat} {a m b s e : Nat} (_h1 : a ≤ s) (h2 : s ≤ m) (h3 : m ≤ e) (h4 : e ≤ b) (hl : b ≤ l.length) (hL : srt c l a m) (hR : srt c l m b) (hA : apt l a m b) (m3 : Mv a (s + (e - m)) (rot l s m e) l3) :
    srt c l3 (s + (e - m)) e ∧ srt c l3 e b ∧ apt l3 (s + (e - m)) e b := by
  refine ⟨fun i j hi hij hj => ?_, fun i j hi hij hj => ?_, fun i j hi him hj hjb => ?_⟩
  all_goals
    rw [m3.out i (by omega), m3.out j (by omega)]
    rw [at0_rot _ _ _ _ _ (by omega), at0_rot _ _ _ _ _ (by omega)]
    repeat' split
  all_goals first | omega | (apply hL <;> omega) | (apply hR <;> omega) | (apply hA <;> omega)
/-- A sorted whole is one alone. -/
theorem srt_pair {c : Nat → Int} {l : List Nat} (h : srt c l 0 l.length) : l.Pairwise (lx c) := by
  rw [List.pairwise_iff_getElem]
  intro i j hi hj hij
  have := h i j (Nat.zero_le _) hij hj
  simpa [at0, hi, hj] using this
theorem perm_pair {c : Nat → Int} {l l' : List Nat} (hp : l.Perm l') (h : l.Pairwise (lx c)) (h' : l'.Pairwise (lx c)) : l = l' :=
  List.Perm.eq_of_pairwise (fun _ _ _ _ h1 h2 => absurd h2 (lx_not h1)) h h' hp
end Go.Proofs.YtefeilgbofphjaaDoor
/-
  The contracts of swapRangeCmpFunc and rotateCmpFunc.
-/
namespace Go.Proofs.YtefeilgbofphjaaDoor
open Go.RowKit Hf

theorem SortAt.re {w0 w : World} {gd n cap gb : Nat} {v : Value} {counts : List Int} {l : List Nat} (h : SortAt w0 w gd n cap gb v counts l) : SortAt w w gd n cap gb v counts l :=
  ⟨h.own, h.len, h.box, h.sl, h.nb, h.na, h.mem, OnlyS.refl _ _⟩
theorem SortAt.thn {w0 w w' : World} {gd n cap gb : Nat} {v : Value} {counts : List Int} {l l' : List Nat} (h : SortAt w0 w gd n cap gb v counts l) (k : SortAt w w' gd n cap gb v counts l') : SortAt w0 w' gd n cap gb v counts l' :=
  ⟨k.own, k.len, k.box, k.sl, k.nb, k.na, k.mem, h.only.trans k.only⟩
set_option maxRecDepth 100000 in
set_option maxHeartbeats 2000000 in
theorem swapRange_walk (w : World) (gd n cap gb : Nat) (v f : Value) (counts : List Int) (l : List Nat) (a b k : Nat) (hS : SortAt w w gd n cap gb v counts l) (hn : n ≤ 1099511627776) (hab : a + k ≤ b) (hb : b + k ≤ n) :
    Calls Tryd.prog 97 #[.slice (some ⟨gd, 0, none⟩) n cap, .int .i64 (a : Int), .int .i64 (b : Int), .int .i64 (k : Int), f] w fun e w' => e = .returned (.tuple #[]) ∧ SortAt w w' gd n cap gb v counts (sr l a b k) ∧ (sr l a b k).Perm l := by
  have HZ : Hid (SortAt w w gd n cap gb v counts (sr l a b 0) ∧ (sr l a b 0).Perm l) := Lib.hid (by rw [sr_zero l a b (by omega) (by rw [hS.len]; omega)]; exact ⟨hS, List.Perm.refl _⟩)
  have HLN : Hid (l.length = n) := Lib.hid hS.len
  clear hS
  go_enter Tryd.func97, Tryd.ntmps97
  go_wp2_with fail
  go_loopw [10] (fun v10 wr => ∃ i : Nat, i ≤ k ∧ v10 = .int .i64 (i : Int) ∧ SortAt w wr gd n cap gb v counts (sr l a b i) ∧ (sr l a b i).Perm l) (fun v10 _ => k - (intOf v10).toNat)
  case atStart => exact ⟨0, Nat.zero_le _, rfl, HZ.out⟩
  case round =>
    obtain ⟨i, hi, rfl, hR⟩ := hrel
    have HR := Lib.hid hR
    clear hR HZ
    by_cases hlt : i < k
    · have hlti : (i : Int) < (k : Int) := by omega
      obtain ⟨d1, g1, hcap⟩ := HR.out.1.cell (a + i) (by omega)
      obtain ⟨d0, g0, _⟩ := HR.out.1.cell (b + i) (by omega)
      have HSW := Lib.hid (HR.out.1.swap (a + i) (b + i) (by omega) (by omega))
      have HPM : Hid ((sr l a b (i + 1)).Perm l) := Lib.hid (by
        rw [← sr_step l a b i (by omega) (by rw [HLN.out]; omega)]
        exact (swp_perm _ _ _ (by rw [sr_length, HLN.out]; omega) (by rw [sr_length, HLN.out]; omega)).trans HR.out.2)
      rw [sr_step l a b i (by omega) (by rw [HLN.out]; omega)] at HSW
      clear HR
      generalize (sr l a b i).getD (a + i) 0 = x at *
      generalize (sr l a b i).getD (b + i) 0 = y at *
      have d1b : (wr.setCell ⟨gd, b + i, none⟩ (.int .i64 (x : Int))).cell? ⟨gd, a + i, none⟩ = some (.int .i64 (x : Int)) := by
        rw [World.cell?_setCell_other _ _ _ _ (by intro e; simp only [Addr.mk.injEq] at e; omega)]; exact d1
      have d0b : (wr.setCell ⟨gd, a + i, none⟩ (.int .i64 (y : Int))).cell? ⟨gd, b + i, none⟩ = some (.int .i64 (y : Int)) := by
        rw [World.cell?_setCell_other _ _ _ _ (by intro e; simp only [Addr.mk.injEq] at e; omega)]; exact d0
      have s0 : IntKind.i64.wrap ((a : Int) + (i : Int)) = ((a + i : Nat) : Int) := by rw [Int.natCast_add]; exact IntWalk.i64_in _ (by omega)
      have s1 : IntKind.i64.wrap ((b : Int) + (i : Int)) = ((b + i : Nat) : Int) := by rw [Int.natCast_add]; exact IntWalk.i64_in _ (by omega)
      have b0 : ((a + i : Nat) : Int) < (n : Int) := by omega
      have b1 : ((b + i : Nat) : Int) < (n : Int) := by omega
      go_wp2_with fail
      go_region
      go_wp2_with fail
      exact ⟨⟨i + 1, by omega, by go_num, HSW.out.drewN 1, HPM.out⟩, by simp [intOf]; omega⟩
    · have hik : i = k := by omega
      have HK := Lib.hid hik
      have hlti : (k : Int) ≤ (i : Int) := by omega
      clear hik
      go_wp2_with fail
      go_end0
      exact ⟨rfl, by rw [← HK.out]; exact HR.out⟩
set_option maxRecDepth 100000 in
set_option maxHeartbeats 2000000 in
theorem rotate_walk (w : World) (gd n cap gb : Nat) (v f : Value) (counts : List Int) (l : List Nat) (a m b : Nat) (hS : SortAt w w gd n cap gb v counts l) (hn : n ≤ 1099511627776) (ham : a < m) (hmb : m < b) (hb : b ≤ n) :
    Calls Tryd.prog 96 #[.slice (some ⟨gd, 0, none⟩) n cap, .int .i64 (a : Int), .int .i64 (m : Int), .int .i64 (b : Int), f] w fun e w' => e = .returned (.tuple #[]) ∧ SortAt w w' gd n cap gb v counts (rot l a m b) ∧ (rot l a m b).Perm l := by
  have HS := Lib.hid hS
  have HLN : Hid (l.length = n) := Lib.hid hS.len
  clear hS
  go_enter Tryd.func96, Tryd.ntmps96
  go_wp2_with fail
  go_loopw [10, 11] (fun v10 v11 wr => ∃ (i j : Nat) (lq : List Nat), 0 < i ∧ 0 < j ∧ i ≤ m - a ∧ j ≤ b - m ∧ v10 = .int .i64 (i : Int) ∧ v11 = .int .i64 (j : Int) ∧ SortAt w wr gd n cap gb v counts lq ∧ lq.Perm l ∧ rot lq (m - i) m (m + j) = rot l a m b) (fun v10 v11 _ => (intOf v10).toNat + (intOf v11).toNat)
  case atStart => exact ⟨m - a, b - m, l, by omega, by omega, Nat.le_refl _, Nat.le_refl _, by go_num, by go_num, HS.out, List.Perm.refl _, by rw [show m - (m - a) = a by omega, show m + (b - m) = b by omega]⟩
  case round =>
    obtain ⟨i, j, lq, hi0, hj0, hi, hj, rfl, rfl, hR, hP, hE⟩ := hrel
    have HR := Lib.hid hR
    have HP := Lib.hid hP
    have HE := Lib.hid hE
    have hlq : lq.length = n := hR.len
    clear hR HS hP hE
    rcases Nat.lt_trichotomy i j with hlt | heq | hlt
    · have hlti : (i : Int) < (j : Int) := by omega
      have hnl : ¬ (j : Int) < (i : Int) := by omega
      have hne : ¬ (i : Int) = (j : Int) := by omega
      have hnb : ((i : Int) != (j : Int)) = true := bne_iff_ne.2 hne
      have hc := swapRange_walk wr gd n cap gb v f counts lq (m - i) (m + j - i) i HR.out.re hn (by omega) (by omega)
      rw [show ((m - i : Nat) : Int) = (m : Int) - (i : Int) by omega, show ((m + j - i : Nat) : Int) = (m : Int) + (j : Int) - (i : Int) by omega] at hc
      have HC := Lib.hid hc
      have HE2 : Hid (rot (sr lq (m - i) (m + j - i) i) (m - i) m (m + (j - i)) = rot l a m b) := Lib.hid ((rot_short lq m i j (by omega) hlt (by omega)).trans HE.out)
      clear hc HE
      go_wp2_with fail
      refine HC.out.mono ?_
      rintro e w2 ⟨rfl, hS2, hp2⟩
      have HR2 := Lib.hid (HR.out.thn hS2)
      have HP2 := Lib.hid (hp2.trans HP.out)
      clear hS2 hp2 HC HR HP
      go_wp2_with fail
      exact ⟨⟨i, j - i, _, hi0, by omega, hi, by omega, rfl, by go_num, HR2.out, HP2.out, HE2.out⟩, by simp [intOf]; omega⟩
    · subst heq
      clear hj0
      have hc := swapRange_walk wr gd n cap gb v f counts lq (m - i) m i HR.out.re hn (by omega) (by omega)
      rw [show ((m - i : Nat) : Int) = (m : Int) - (i : Int) by omega] at hc
      have HC := Lib.hid hc
      have HE2 : Hid (sr lq (m - i) m i = rot l a m b) := Lib.hid ((rot_same lq m i (by omega) (by omega)).trans HE.out)
      clear hc HE
      go_wp2_with fail
      refine HC.out.mono ?_
      rintro e w2 ⟨rfl, hS2, hp2⟩
      have HR2 := Lib.hid (HR.out.thn hS2)
      have HP2 := Lib.hid (hp2.trans HP.out)
      clear hS2 hp2 HC HR HP
      go_wp2_with fail
      go_end0
      rw [HE2.out] at HR2 HP2
      exact ⟨rfl, HR2.out, HP2.out⟩
    · have hlti : (j : Int) < (i : Int) := by omega
      have hne : ¬ (i : Int) = (j : Int) := by omega
      have hnb : ((i : Int) != (j : Int)) = true := bne_iff_ne.2 hne
      have hc := swapRange_walk wr gd n cap gb v f counts lq (m - i) m j HR.out.re hn (by omega) (by omega)
      rw [show ((m - i : Nat) : Int) = (m : Int) - (i : Int) by omega] at hc
      have HC := Lib.hid hc
      have HE2 : Hid (rot (sr lq (m - i) m j) (m - (i - j)) m (m + j) = rot l a m b) := Lib.hid ((rot_long lq m i j (by omega) hlt (by omega)).trans HE.out)
      clear hc HE
      go_wp2_with fail
      refine HC.out.mono ?_
      rintro e w2 ⟨rfl, hS2, hp2⟩
      have HR2 := Lib.hid (HR.out.thn hS2)
      have HP2 := Lib.hid (hp2.trans HP.out)
      clear hS2 hp2 HC HR HP
      go_wp2_with fail
      exact ⟨⟨i - j, j, _, by omega, hj0, by omega, hj, by go_num, rfl, HR2.out, HP2.out, HE2.out⟩, by simp [intOf]; omega⟩
end Go.Proofs.YtefeilgbofphjaaDoor
/-
  insertionSortCmpFunc of a block, wherever it begins.
-/
namespace Go.Proofs.YtefeilgbofphjaaDoor
open Go.RowKit Hf

def insA (c : Nat → Int) (a : Nat) : Nat → List Nat → List Nat
  | 0, l => l
  | j + 1, l => if c (at0 l (a + j + 1)) < c (at0 l (a + j)) then insA c a j (swp l (a + j + 1) (a + j)) else l
def isA (c : Nat → Int) (a : Nat) : Nat → List Nat → List Nat
  | 0, l => l
  | k + 1, l => insA c a (k + 1) (isA c a k l)
theorem insA_length (c : Nat → Int) (a j : Nat) (l : List Nat) : (insA c a j l).length = l.length := by
  induction j generalizing l with
  | zero => rfl
  | succ j ih =>
    rw [insA]; split
    · rw [ih, swp_length]
    · rfl
theorem isA_length (c : Nat → Int) (a k : Nat) (l : List Nat) : (isA c a k l).length = l.length := by
  induction k with
  | zero => rfl
  | succ k ih => rw [isA, insA_length, ih]
theorem insA_zero (c : Nat → Int) (j : Nat) (l : List Nat) : insIn c j l = insA c 0 j l := by
  induction j generalizing l with
  | zero => rfl
  | succ j ih => rw [insIn, insA, Nat.zero_add, ih]; rfl
theorem isA_zero (c : Nat → Int) (k : Nat) (l : List Nat) : isTo c k l = isA c 0 k l := by
  induction k with
  | zero => rfl
  | succ k ih => rw [isTo, isA, ih, insA_zero]
theorem Mv.swp {l : List Nat} {a b i j : Nat} (hi : a ≤ i ∧ i < b) (hj : a ≤ j ∧ j < b) (hl : b ≤ l.length) : Mv a b l (swp l i j) :=
  ⟨swp_perm l i j (by omega) (by omega), fun k hk => by rw [at0_swp _ _ _ _ (by omega) (by omega), if_neg (by omega), if_neg (by omega)], fun k h1 h2 => by
    rw [at0_swp _ _ _ _ (by omega) (by omega)]
    split
    · exact ⟨i, hi.1, hi.2, rfl⟩
    · split
      · exact ⟨j, hj.1, hj.2, rfl⟩
      · exact ⟨k, h1, h2, rfl⟩⟩
theorem insA_ok (c : Nat → Int) (a hi : Nat) : ∀ (j : Nat) (l : List Nat), a + j < hi → hi ≤ l.length → (∀ p q, a ≤ p → p < q → q < hi → p ≠ a + j → q ≠ a + j → lx c (at0 l p) (at0 l q)) → (∀ q, a + j < q → q < hi → lx c (at0 l (a + j)) (at0 l q)) →
    (∀ p, a ≤ p → p < a + j → at0 l p < at0 l (a + j)) → srt c (insA c a j l) a hi ∧ Mv a hi l (insA c a j l) := by
  intro j
  induction j with
  | zero =>
    intro l h1 h2 P1 P2 _
    refine ⟨fun p q hp hpq hq => ?_, Mv.refl _ _ _⟩
    by_cases hpa : p = a
    · subst hpa; exact P2 q (by omega) hq
    · exact P1 p q hp hpq hq (by omega) (by omega)
  | succ j ih =>
    intro l h1 h2 P1 P2 P3
    have e : a + (j + 1) = a + j + 1 := by omega
    rw [e] at P1 P2 P3
    rw [insA]
    split
    · rename_i hlt
      have := ih (swp l (a + j + 1) (a + j)) (by omega) (by rw [swp_length]; exact h2) (fun p q hp hpq hq hn1 hn2 => ?_) (fun q hq1 hq2 => ?_) (fun p hp1 hp2 => ?_)
      · exact ⟨this.1, (Mv.swp (by omega) (by omega) h2).trans this.2⟩
      · rw [at0_swp _ _ _ _ (by omega) (by omega), at0_swp _ _ _ _ (by omega) (by omega), if_neg hn1, if_neg hn2]
        repeat' split
        all_goals first | omega | (apply P1 <;> omega)
      · rw [at0_swp _ _ _ _ (by omega) (by omega), at0_swp _ _ _ _ (by omega) (by omega), if_pos rfl, if_neg (by omega)]
        split
        · exact .inl hlt
        · exact P2 q (by omega) hq2
      · rw [at0_swp _ _ _ _ (by omega) (by omega), at0_swp _ _ _ _ (by omega) (by omega), if_pos rfl, if_neg (by omega), if_neg (by omega)]
        exact P3 p hp1 (by omega)
    · rename_i hlt
      have hyx : lx c (at0 l (a + j)) (at0 l (a + j + 1)) := by
        have := P3 (a + j) (by omega) (by omega)
        unfold lx; omega
      refine ⟨fun p q hp hpq hq => ?_, Mv.refl _ _ _⟩
      by_cases hp1 : p = a + j + 1
      · subst hp1; exact P2 q hpq hq
      · by_cases hq1 : q = a + j + 1
        · subst hq1
          by_cases hp2 : p = a + j
          · subst hp2; exact hyx
          · exact lx_trans (P1 p (a + j) hp (by omega) (by omega) hp1 (by omega)) hyx
        · exact P1 p q hp hpq hq hp1 hq1
theorem isA_ok (c : Nat → Int) (a k : Nat) (l : List Nat) (hk : a + k < l.length) (hup : ∀ p q, a ≤ p → p < q → q < l.length → at0 l p < at0 l q) : srt c (isA c a k l) a (a + k + 1) ∧ Mv a (a + k + 1) l (isA c a k l) := by
  induction k with
  | zero => exact ⟨fun p q h1 h2 h3 => by omega, Mv.refl _ _ _⟩
  | succ k ih =>
    obtain ⟨h1, h2⟩ := ih (by omega)
    have hx : at0 (isA c a k l) (a + (k + 1)) = at0 l (a + (k + 1)) := h2.out _ (by omega)
    have := insA_ok c a (a + (k + 1) + 1) (k + 1) (isA c a k l) (by omega) (by rw [isA_length]; omega) (fun p q hp hpq hq hn1 hn2 => h1 p q hp hpq (by omega)) (fun q h3 h4 => by omega) (fun p hp1 hp2 => by
      obtain ⟨r, r1, r2, r3⟩ := h2.into p hp1 (by omega)
      rw [hx, r3]; exact hup r _ r1 (by omega) (by omega))
    exact ⟨this.1, (h2.wide (Nat.le_refl _) (by omega)).trans this.2⟩
theorem getD_mem0 {l : List Nat} {i : Nat} (h : i < l.length) : l.getD i 0 ∈ l := by
  have e : l.getD i 0 = l[i] := by simp [h]
  rw [e]; exact List.getElem_mem _
set_option maxRecDepth 100000 in
set_option maxHeartbeats 2000000 in
theorem insertA_walk (w : World) (gd n cap gb a b : Nat) (v : Value) (counts : List Int) (l : List Nat) (hS : SortAt w w gd n cap gb v counts l) (hn : n ≤ 1099511627776) (hab : a ≤ b) (hbn : b ≤ n) :
    Calls Tryd.prog 88 #[.slice (some ⟨gd, 0, none⟩) n cap, .int .i64 (a : Int), .int .i64 (b : Int), .func (.func 47) #[] #[.pointer (some ⟨gb, 0, none⟩)]] w fun e w' => e = .returned (.tuple #[]) ∧ SortAt w w' gd n cap gb v counts (isA (fun s => counts.getD s 0) a (b - a - 1) l) := by
  have HS := Lib.hid hS
  clear hS
  go_enter Tryd.func88, Tryd.ntmps88
  go_wp2_with fail
  go_loopw [8, 9] (fun v4 _ wr => ∃ k : Nat, a ≤ k ∧ k - a ≤ b - a - 1 ∧ v4 = .int .i64 ((k : Int) + 1) ∧ SortAt w wr gd n cap gb v counts (isA (fun s => counts.getD s 0) a (k - a) l)) (fun v4 _ _ => b + 1 - (intOf v4).toNat)
  case atStart => exact ⟨a, Nat.le_refl _, by omega, by simp, by rw [Nat.sub_self]; exact HS.out⟩
  case round =>
    clear HS
    obtain ⟨k, hak, hk, rfl, hR⟩ := hrel
    have HR := Lib.hid hR
    clear hR
    by_cases hlt : k + 1 < b
    · have hlti : (k : Int) + 1 < (b : Int) := by omega
      go_wp2_with fail
      go_loopw [9] (fun v5 wr => ∃ (j : Nat) (lj : List Nat), a ≤ j ∧ j ≤ k + 1 ∧ v5 = .int .i64 (j : Int) ∧ SortAt w wr gd n cap gb v counts lj ∧ Hid (insA (fun s => counts.getD s 0) a (j - a) lj = isA (fun s => counts.getD s 0) a (k + 1 - a) l)) (fun v5 _ => (intOf v5).toNat)
      case atStart => exact ⟨k + 1, _, by omega, Nat.le_refl _, by simp, HR.out, by rw [show k + 1 - a = k - a + 1 by omega]; exact rfl⟩
      case round =>
        clear HR
        obtain ⟨j, lj, haj, hj, rfl, hR, HI⟩ := hrel
        have HR := Lib.hid hR
        clear hR
        by_cases h0 : a < j
        · obtain ⟨i, rfl⟩ : ∃ i, j = i + 1 := ⟨j - 1, by omega⟩
          have hai : a ≤ i := by omega
          have haji : (a : Int) < (i : Int) + 1 := by omega
          obtain ⟨c1, f1, hcap⟩ := HR.out.cell (i + 1) (by omega)
          obtain ⟨c0, f0, _⟩ := HR.out.cell i (by omega)
          have hm1 := HR.out.mem (lj.getD (i + 1) 0) (getD_mem0 (by rw [HR.out.len]; omega))
          have hm0 := HR.out.mem (lj.getD i 0) (getD_mem0 (by rw [HR.out.len]; omega))
          have HC := Lib.hid (fun m => byc_walk (wr.drewN m) gb v counts _ _ HR.out.box (HR.out.drewN m).sl hm1 hm0)
          have HSW := Lib.hid (fun m => (HR.out.drewN m).swap (i + 1) i (by omega) (by omega))
          have HIN : Hid (insA (fun s => counts.getD s 0) a (i + 1 - a) lj = if counts.getD (lj.getD (i + 1) 0) 0 < counts.getD (lj.getD i 0) 0 then insA (fun s => counts.getD s 0) a (i - a) (swp lj (i + 1) i) else lj) := Lib.hid (by
            obtain ⟨d, rfl⟩ : ∃ d, i = a + d := ⟨i - a, by omega⟩
            rw [show a + d + 1 - a = d + 1 by omega, show a + d - a = d by omega]; rfl)
          have HNG := Lib.hid (cmpI_neg (counts.getD (lj.getD (i + 1) 0) 0) (counts.getD (lj.getD i 0) 0))
          have HR2 := Lib.hid (fun m => HR.out.drewN m)
          clear HR
          obtain ⟨x, ha⟩ : ∃ x, x = lj.getD (i + 1) 0 := ⟨_, rfl⟩
          obtain ⟨y, hb⟩ : ∃ y, y = lj.getD i 0 := ⟨_, rfl⟩
          rw [← ha] at c1 hm1 HC HSW HIN HNG
          rw [← hb] at c0 hm0 HC HSW HIN HNG
          have HAB := Lib.hid (And.intro ha hb)
          clear ha hb
          obtain ⟨cv, hcv⟩ : ∃ cv, cv = cmpI (counts.getD x 0) (counts.getD y 0) := ⟨_, rfl⟩
          rw [← hcv] at HC HNG
          clear hcv hm1 hm0
          by_cases hlt2 : cv < 0
          · have HIT := Lib.hid (HIN.out.trans (if_pos (HNG.out.1 hlt2)))
            have hdv : decide (cv < 0) = true := decide_eq_true hlt2
            go_wp2_with fail
            go_quiet (first | (go_at_call 47; exact Calls.quiet_of (HC.out _)))
            have HR3 := Lib.hid (HR2.out nq)
            have HSW3 := Lib.hid (HSW.out nq)
            obtain ⟨d1, g1, _⟩ := HR3.out.cell (i + 1) (by omega)
            obtain ⟨d0, g0, _⟩ := HR3.out.cell i (by omega)
            clear HR2 HSW c1 f1 c0 f0 HC
            generalize wr.drewN nq = wz at *
            rw [← HAB.out.1] at d1
            rw [← HAB.out.2] at d0
            have d0b : (wz.setCell ⟨gd, i + 1, none⟩ (.int .i64 (y : Int))).cell? ⟨gd, i, none⟩ = some (.int .i64 (y : Int)) := by
              rw [World.cell?_setCell_other _ _ _ _ (by intro e; simp only [Addr.mk.injEq] at e; omega)]; exact d0
            have d1b : (wz.setCell ⟨gd, i, none⟩ (.int .i64 (x : Int))).cell? ⟨gd, i + 1, none⟩ = some (.int .i64 (x : Int)) := by
              rw [World.cell?_setCell_other _ _ _ _ (by intro e; simp only [Addr.mk.injEq] at e; omega)]; exact d1
            have hi1 : (((i + 1 : Nat) : Int) - 1) = (i : Int) := by omega
            have s0 : IntKind.i64.wrap (i : Int) = (i : Int) := IntWalk.i64_in _ (by omega)
            have s1 : ((i : Int) + 1).toNat = i + 1 := by omega
            obtain ⟨a1, a2, a3⟩ : (i : Int) < (n : Int) ∧ (i : Int) + 1 < (n : Int) ∧ 0 ≤ (i : Int) + 1 := by omega
            go_wp2_with fail
            go_region
            go_wp2_with fail
            refine ⟨⟨i, _, hai, by omega, by go_num, HSW3.out.drewN 1, (show Hid _ from by rw [← HIT.out]; exact HI)⟩, by simp [intOf]⟩
          · have HIT := Lib.hid (HIN.out.trans (if_neg (fun h => hlt2 (HNG.out.2 h))))
            have hdv : decide (cv < 0) = false := decide_eq_false hlt2
            go_wp2_with fail
            go_quiet (first | (go_at_call 47; exact Calls.quiet_of (HC.out _)))
            have HR3 := Lib.hid (HR2.out nq)
            clear HR2 HSW c1 f1 c0 f0 HC
            generalize wr.drewN nq = wz at *
            go_wp2_with fail
            refine ⟨⟨k + 1, by omega, by omega, by go_num, ?_⟩, by simp [intOf]; omega⟩
            rw [← HI.out, HIT.out]; exact HR3.out
        · obtain rfl : j = a := by omega
          have HR2 := Lib.hid (fun m => HR.out.drewN m)
          go_wp2_with fail
          go_quiet (fail)
          have HR3 := Lib.hid (HR2.out nq)
          clear HR2 HR
          generalize wr.drewN nq = wz at *
          go_wp2_with fail
          refine ⟨⟨k + 1, by omega, by omega, by go_num, ?_⟩, by simp [intOf]; omega⟩
          have := HI.out
          rw [Nat.sub_self, insA] at this
          rw [← this]; exact HR3.out
    · have hlti : (b : Int) ≤ (k : Int) + 1 := by omega
      have hkn : k - a = b - a - 1 := by omega
      have HK := Lib.hid hkn
      clear hkn
      go_wp2_with fail
      go_end0
      exact ⟨rfl, by rw [← HK.out]; exact HR.out⟩
end Go.Proofs.YtefeilgbofphjaaDoor
