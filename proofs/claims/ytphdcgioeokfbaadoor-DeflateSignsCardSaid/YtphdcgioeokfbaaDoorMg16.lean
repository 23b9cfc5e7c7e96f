/-
  Merged, in the order in which they build: Sort.
-/
import Derived.Deep.RegionHeldLaw
import Derived.Test.YtphdcgioeokfbaaDoorMg4
/-
  The contracts of cmp.Compare, the comparison by counts, insertionSortCmpFunc, stableCmpFunc (fewer than 20), SortStableFunc.
-/
namespace Go.Proofs.YtphdcgioeokfbaaDoor
open Go.RowKit Hf

def cmpI (x y : Int) : Int := if x < y then -1 else if y < x then 1 else 0
set_option maxHeartbeats 400000 in
theorem isNaN_walk (x : Int) (w : World) : Calls Tryd.prog 87 #[.int .i64 x] w fun e w' => e = .returned (.bool false) ∧ w = w' := by
  go_enter Tryd.func87, Tryd.ntmps87
  go_wp2_with fail
  go_ret
  exact ⟨rfl, rfl⟩
set_option maxHeartbeats 400000 in
theorem compare_walk (x y : Int) (w : World) : Calls Tryd.prog 76 #[.int .i64 x, .int .i64 y] w fun e w' => e = .returned (.int .i64 (cmpI x y)) ∧ w' = w := by
  have HE := Lib.hid (show cmpI x y = (if x < y then -1 else if y < x then 1 else 0) from rfl)
  go_enter Tryd.func76, Tryd.ntmps76
  go_wp2_with fail
  refine (isNaN_walk x w).mono ?_
  rintro e w' ⟨rfl, rfl⟩
  go_wp2_with fail
  refine (isNaN_walk y w).mono ?_
  rintro e w' ⟨rfl, rfl⟩
  by_cases h1 : x < y
  · have HE2 : Hid (cmpI x y = -1) := Lib.hid (by rw [HE.out, if_pos h1])
    clear HE
    go_wp2_with fail
    go_ret
    exact ⟨ret_int HE2.out.symm, rfl⟩
  · by_cases h2 : y < x
    · have HE2 : Hid (cmpI x y = 1) := Lib.hid (by rw [HE.out, if_neg h1, if_pos h2])
      clear HE
      go_wp2_with fail
      go_ret
      exact ⟨ret_int HE2.out.symm, rfl⟩
    · have HE2 : Hid (cmpI x y = 0) := Lib.hid (by rw [HE.out, if_neg h1, if_neg h2])
      clear HE
      go_wp2_with fail
      go_ret
      exact ⟨ret_int HE2.out.symm, rfl⟩
set_option maxRecDepth 100000 in
set_option maxHeartbeats 1000000 in
theorem byc_walk (w : World) (gb : Nat) (v : Value) (counts : List Int) (a b : Nat) (hb : w.cell? ⟨gb, 0, none⟩ = some v) (hv : SlV w v (ni counts)) (ha : a < counts.length) (hbl : b < counts.length) :
    Calls Tryd.prog 75 #[.int .i64 (a : Int), .int .i64 (b : Int), .pointer (some ⟨gb, 0, none⟩)] w fun e w' => e = .returned (.int .i64 (cmpI (counts.getD a 0) (counts.getD b 0))) ∧ ∃ m, w' = w.drewN m := by
  obtain ⟨p, cap, rfl⟩ := hv.shape
  rw [ni_length] at *
  obtain ⟨g, o, rfl, hrow⟩ := hv.some (by omega)
  have hcap := hv.le
  have ca := hrow.ni a ha
  have cb := hrow.ni b hbl
  have hai : (a : Int) < (counts.length : Int) := by omega
  have hbi : (b : Int) < (counts.length : Int) := by omega
  have HC := fun m => compare_walk (counts.getD a 0) (counts.getD b 0) (w.drewN m)
  generalize counts.getD a 0 = x at *
  generalize counts.getD b 0 = y at *
  generalize counts.length = n at *
  have HC := Lib.hid HC
  clear hv hrow
  go_enter Tryd.func75, Tryd.ntmps75
  go_wp2_with fail
  go_quiet (first | (go_at_call 76; exact Calls.quiet_of_same (HC.out _)))
  go_wp2_with fail
  go_ret
  exact ⟨rfl, _, rfl⟩
/-- Two places changed over. -/
def swp (l : List Nat) (i j : Nat) : List Nat := (l.set i (l.getD j 0)).set j (l.getD i 0)
theorem swp_length (l : List Nat) (i j : Nat) : (swp l i j).length = l.length := by simp [swp]
/-- An element goes down as long as the one ahead counts more. -/
def insIn (c : Nat → Int) : Nat → List Nat → List Nat
  | 0, l => l
  | j + 1, l => if c (l.getD (j + 1) 0) < c (l.getD j 0) then insIn c j (swp l (j + 1) j) else l
def isTo (c : Nat → Int) : Nat → List Nat → List Nat
  | 0, l => l
  | k + 1, l => insIn c (k + 1) (isTo c k l)
theorem insIn_length (c : Nat → Int) (j : Nat) (l : List Nat) : (insIn c j l).length = l.length := by
  induction j generalizing l with
  | zero => rfl
  | succ j ih =>
    rw [insIn]; split
    · rw [ih, swp_length]
    · rfl
theorem isTo_length (c : Nat → Int) (k : Nat) (l : List Nat) : (isTo c k l).length = l.length := by
  induction k with
  | zero => rfl
  | succ k ih => rw [isTo, insIn_length, ih]
theorem swp_mem (l : List Nat) (i j : Nat) (hi : i < l.length) (hj : j < l.length) : ∀ s ∈ swp l i j, s ∈ l := by
  intro s hs
  unfold swp at hs
  have e1 : l.getD i 0 = l[i] := by simp [hi]
  have e2 : l.getD j 0 = l[j] := by simp [hj]
  rcases List.mem_or_eq_of_mem_set hs with h | h
  · rcases List.mem_or_eq_of_mem_set h with h | h
    · exact h
    · rw [h, e2]; exact List.getElem_mem _
  · rw [h, e1]; exact List.getElem_mem _
theorem cmpI_neg (x y : Int) : cmpI x y < 0 ↔ x < y := by
  unfold cmpI; split
  · simp [*]
  · split
    · omega
    · omega
def nl (l : List Nat) : List Value := ni (l.map fun (s : Nat) => (s : Int))
theorem nl_length (l : List Nat) : (nl l).length = l.length := by simp [nl]
theorem nl_at (l : List Nat) (i : Nat) (hi : i < l.length) : (nl l)[i]? = some (.int .i64 ((l.getD i 0 : Nat) : Int)) := by simp [nl, ni, hi]
theorem nl_swp (l : List Nat) (i j : Nat) : ((nl l).set i (.int .i64 ((l.getD j 0 : Nat) : Int))).set j (.int .i64 ((l.getD i 0 : Nat) : Int)) = nl (swp l i j) := by
  unfold nl ni swp
  rw [List.map_set, List.map_set, List.map_set, List.map_set]
/-- The row that is sorted, the box of the counts, the counts: nothing of one in the other. -/
structure SortAt (w0 w : World) (gd n cap gb : Nat) (v : Value) (counts : List Int) (l : List Nat) : Prop where
  own : w.ownsRow 0 3 1 (.slice (some ⟨gd, 0, none⟩) n cap) n (nl l)
  len : l.length = n
  box : w.cell? ⟨gb, 0, none⟩ = some v
  sl : SlV w v (ni counts)
  nb : gb ≠ gd
  na : ∀ p m c, v = .slice (some p) m c → 0 < m → p.block ≠ gd
  mem : ∀ s ∈ l, s < counts.length
  only : OnlyS (· = gd) w0 w
theorem SortAt.drewN {w0 w : World} {gd n cap gb : Nat} {v : Value} {counts : List Int} {l : List Nat} (h : SortAt w0 w gd n cap gb v counts l) (m : Nat) : SortAt w0 (w.drewN m) gd n cap gb v counts l :=
  ⟨h.own, h.len, h.box, h.sl, h.nb, h.na, h.mem, h.only.trans ⟨rfl, rfl, rfl, Nat.le_refl _, fun _ _ _ => rfl⟩⟩
theorem SortAt.cell {w0 w : World} {gd n cap gb : Nat} {v : Value} {counts : List Int} {l : List Nat} (h : SortAt w0 w gd n cap gb v counts l) (i : Nat) (hi : i < n) : w.cell? ⟨gd, i, none⟩ = some (.int .i64 ((l.getD i 0 : Nat) : Int)) ∧ w.frozen? ⟨gd, i, none⟩ = false ∧ n ≤ cap := by
  obtain ⟨g, c, he, _, _, h3, _, h5, h6, _⟩ := own_spot h.own (by omega)
  cases he
  exact ⟨h5 i _ (nl_at l i (by rw [h.len]; exact hi)), h6 i, h3⟩
theorem SortAt.swap {w0 w : World} {gd n cap gb : Nat} {v : Value} {counts : List Int} {l : List Nat} (h : SortAt w0 w gd n cap gb v counts l) (i j : Nat) (hi : i < n) (hj : j < n) :
    SortAt w0 ((w.setCell ⟨gd, i, none⟩ (.int .i64 ((l.getD j 0 : Nat) : Int))).setCell ⟨gd, j, none⟩ (.int .i64 ((l.getD i 0 : Nat) : Int))) gd n cap gb v counts (swp l i j) := by
  have ho : OnlyS (· = gd) w ((w.setCell ⟨gd, i, none⟩ (.int .i64 ((l.getD j 0 : Nat) : Int))).setCell ⟨gd, j, none⟩ (.int .i64 ((l.getD i 0 : Nat) : Int))) := (OnlyS.setCell (S := (· = gd)) _ _ _ _ rfl).trans (OnlyS.setCell (S := (· = gd)) _ _ _ _ rfl)
  refine ⟨?_, by rw [swp_length]; exact h.len, ho.cell h.box h.nb, ?_, h.nb, h.na, fun s hs => h.mem s (swp_mem l i j (by rw [h.len]; exact hi) (by rw [h.len]; exact hj) s hs), h.only.trans ho⟩
  · obtain ⟨g, c, he, _, _, _, _, _, _, h7⟩ := own_spot h.own (by omega)
    cases he
    have h1 := h7 i (.int .i64 ((l.getD j 0 : Nat) : Int)) hi
    obtain ⟨g, c, he, _, _, _, _, _, _, h8⟩ := own_spot h1 (by omega)
    cases he
    have h2 := h8 j (.int .i64 ((l.getD i 0 : Nat) : Int)) hj
    rw [nl_swp] at h2
    exact h2
  · rcases h.sl with ⟨g, o, c, h1, h2, h3⟩ | h1
    · refine .inl ⟨g, o, c, h1, h2, fun k u hk => ho.cell (h3 k u hk) ?_⟩
      have hkl := (List.getElem?_eq_some_iff.1 hk).1
      exact h.na ⟨g, o, none⟩ _ _ h1 (by omega)
    · exact .inr h1
set_option maxRecDepth 100000 in
set_option maxHeartbeats 2000000 in
theorem insertion_walk (w : World) (gd n cap gb : Nat) (v : Value) (counts : List Int) (l : List Nat) (hS : SortAt w w gd n cap gb v counts l) (hn : n ≤ 1099511627776) :
    Calls Tryd.prog 90 #[.slice (some ⟨gd, 0, none⟩) n cap, .int .i64 0, .int .i64 (n : Int), .func (.func 75) #[] #[.pointer (some ⟨gb, 0, none⟩)]] w fun e w' => e = .returned (.tuple #[]) ∧ SortAt w w' gd n cap gb v counts (isTo (fun s => counts.getD s 0) (n - 1) l) := by
  have HS := Lib.hid hS
  clear hS
  go_enter Tryd.func90, Tryd.ntmps90
  go_wp2_with fail
  go_loopw [8, 9] (fun v4 _ wr => ∃ k : Nat, k ≤ n - 1 ∧ v4 = .int .i64 ((k : Int) + 1) ∧ SortAt w wr gd n cap gb v counts (isTo (fun s => counts.getD s 0) k l)) (fun v4 _ _ => n + 1 - (intOf v4).toNat)
  case atStart => exact ⟨0, Nat.zero_le _, rfl, HS.out⟩
  case round =>
    clear HS
    obtain ⟨k, hk, rfl, hR⟩ := hrel
    have HR := Lib.hid hR
    clear hR
    by_cases hlt : k + 1 < n
    · have hlti : (k : Int) + 1 < (n : Int) := by omega
      go_wp2_with fail
      go_loopw [9] (fun v5 wr => ∃ (j : Nat) (lj : List Nat), j ≤ k + 1 ∧ v5 = .int .i64 (j : Int) ∧ SortAt w wr gd n cap gb v counts lj ∧ Hid (insIn (fun s => counts.getD s 0) j lj = isTo (fun s => counts.getD s 0) (k + 1) l)) (fun v5 _ => (intOf v5).toNat)
      case atStart => exact ⟨k + 1, _, Nat.le_refl _, by simp, HR.out, rfl⟩
      case round =>
        clear HR
        obtain ⟨j, lj, hj, rfl, hR, HI⟩ := hrel
        have HR := Lib.hid hR
        clear hR
        by_cases h0 : 0 < j
        · obtain ⟨i, rfl⟩ : ∃ i, j = i + 1 := ⟨j - 1, by omega⟩
          obtain ⟨c1, f1, hcap⟩ := HR.out.cell (i + 1) (by omega)
          obtain ⟨c0, f0, _⟩ := HR.out.cell i (by omega)
          have hm1 := HR.out.mem (lj.getD (i + 1) 0) (by have hl : i + 1 < lj.length := by rw [HR.out.len]; omega
                                                         have e : lj.getD (i + 1) 0 = lj[i + 1] := by simp [hl]
                                                         rw [e]; exact List.getElem_mem _)
          have hm0 := HR.out.mem (lj.getD i 0) (by have hl : i < lj.length := by rw [HR.out.len]; omega
                                                   have e : lj.getD i 0 = lj[i] := by simp [hl]
                                                   rw [e]; exact List.getElem_mem _)
          have HC := Lib.hid (fun m => byc_walk (wr.drewN m) gb v counts _ _ HR.out.box (HR.out.drewN m).sl hm1 hm0)
          have HSW := Lib.hid (fun m => (HR.out.drewN m).swap (i + 1) i (by omega) (by omega))
          have HIN : Hid (insIn (fun s => counts.getD s 0) (i + 1) lj = if counts.getD (lj.getD (i + 1) 0) 0 < counts.getD (lj.getD i 0) 0 then insIn (fun s => counts.getD s 0) i (swp lj (i + 1) i) else lj) := Lib.hid rfl
          have HNG := Lib.hid (cmpI_neg (counts.getD (lj.getD (i + 1) 0) 0) (counts.getD (lj.getD i 0) 0))
          have HR2 := Lib.hid (fun m => HR.out.drewN m)
          clear HR
          obtain ⟨a, ha⟩ : ∃ a, a = lj.getD (i + 1) 0 := ⟨_, rfl⟩
          obtain ⟨b, hb⟩ : ∃ b, b = lj.getD i 0 := ⟨_, rfl⟩
          rw [← ha] at c1 hm1 HC HSW HIN HNG
          rw [← hb] at c0 hm0 HC HSW HIN HNG
          have HAB := Lib.hid (And.intro ha hb)
          clear ha hb
          obtain ⟨cv, hcv⟩ : ∃ cv, cv = cmpI (counts.getD a 0) (counts.getD b 0) := ⟨_, rfl⟩
          rw [← hcv] at HC HNG
          clear hcv hm1 hm0
          by_cases hlt2 : cv < 0
          · have HIT := Lib.hid (HIN.out.trans (if_pos (HNG.out.1 hlt2)))
            have hdv : decide (cv < 0) = true := decide_eq_true hlt2
            go_wp2_with fail
            go_quiet (first | (go_at_call 75; exact Calls.quiet_of (HC.out _)))
            have HR3 := Lib.hid (HR2.out nq)
            have HSW3 := Lib.hid (HSW.out nq)
            obtain ⟨d1, g1, _⟩ := HR3.out.cell (i + 1) (by omega)
            obtain ⟨d0, g0, _⟩ := HR3.out.cell i (by omega)
            clear HR2 HSW c1 f1 c0 f0 HC
            generalize wr.drewN nq = wz at *
            rw [← HAB.out.1] at d1
            rw [← HAB.out.2] at d0
            have d0b : (wz.setCell ⟨gd, i + 1, none⟩ (.int .i64 (b : Int))).cell? ⟨gd, i, none⟩ = some (.int .i64 (b : Int)) := by
              rw [World.cell?_setCell_other _ _ _ _ (by intro e; simp only [Addr.mk.injEq] at e; omega)]; exact d0
            have d1b : (wz.setCell ⟨gd, i, none⟩ (.int .i64 (a : Int))).cell? ⟨gd, i + 1, none⟩ = some (.int .i64 (a : Int)) := by
              rw [World.cell?_setCell_other _ _ _ _ (by intro e; simp only [Addr.mk.injEq] at e; omega)]; exact d1
            have hi1 : (((i + 1 : Nat) : Int) - 1) = (i : Int) := by omega
            have s0 : IntKind.i64.wrap (i : Int) = (i : Int) := IntWalk.i64_in _ (by omega)
            have s1 : ((i : Int) + 1).toNat = i + 1 := by omega
            obtain ⟨a1, a2, a3⟩ : (i : Int) < (n : Int) ∧ (i : Int) + 1 < (n : Int) ∧ 0 ≤ (i : Int) + 1 := by omega
            go_wp2_with fail
            go_region
            go_wp2_with fail
            refine ⟨⟨i, _, by omega, by go_num, HSW3.out.drewN 1, (show Hid _ from by rw [← HIT.out]; exact HI)⟩, by simp [intOf]⟩
          · have HIT := Lib.hid (HIN.out.trans (if_neg (fun h => hlt2 (HNG.out.2 h))))
            have hdv : decide (cv < 0) = false := decide_eq_false hlt2
            go_wp2_with fail
            go_quiet (first | (go_at_call 75; exact Calls.quiet_of (HC.out _)))
            have HR3 := Lib.hid (HR2.out nq)
            clear HR2 HSW c1 f1 c0 f0 HC
            generalize wr.drewN nq = wz at *
            go_wp2_with fail
            refine ⟨⟨k + 1, by omega, by go_num, ?_⟩, by simp [intOf]; omega⟩
            rw [← HI.out, HIT.out]; exact HR3.out
        · obtain rfl : j = 0 := by omega
          have HR2 := Lib.hid (fun m => HR.out.drewN m)
          go_wp2_with fail
          go_quiet (fail)
          have HR3 := Lib.hid (HR2.out nq)
          clear HR2 HR
          generalize wr.drewN nq = wz at *
          go_wp2_with fail
          refine ⟨⟨k + 1, by omega, by go_num, ?_⟩, by simp [intOf]; omega⟩
          have := HI.out
          rw [insIn] at this
          rw [← this]; exact HR3.out
    · have hlti : (n : Int) ≤ (k : Int) + 1 := by omega
      have hkn : k = n - 1 := by omega
      have HK := Lib.hid hkn
      clear hkn
      go_wp2_with fail
      go_end0
      exact ⟨rfl, by rw [← HK.out]; exact HR.out⟩
set_option maxRecDepth 100000 in
set_option maxHeartbeats 1000000 in
theorem stable_walk (w : World) (gd n cap gb : Nat) (v : Value) (counts : List Int) (l : List Nat) (hS : SortAt w w gd n cap gb v counts l) (hn : n < 20) :
    Calls Tryd.prog 86 #[.slice (some ⟨gd, 0, none⟩) n cap, .int .i64 (n : Int), .func (.func 75) #[] #[.pointer (some ⟨gb, 0, none⟩)]] w fun e w' => e = .returned (.tuple #[]) ∧ SortAt w w' gd n cap gb v counts (isTo (fun s => counts.getD s 0) (n - 1) l) := by
  have HI := Lib.hid (insertion_walk w gd n cap gb v counts l hS (by omega))
  have hni : (n : Int) < 20 := by omega
  clear hS
  go_enter Tryd.func86, Tryd.ntmps86
  go_wp2_with fail
  go_loopw [7, 8] (fun v7 v8 wr => v7 = .int .i64 0 ∧ v8 = .int .i64 20 ∧ wr = w) (fun _ _ _ => 0)
  case atStart => exact ⟨rfl, rfl, rfl⟩
  case round =>
    obtain ⟨rfl, rfl, rfl⟩ := hrel
    go_wp2_with fail
    refine HI.out.mono ?_
    rintro e w1 ⟨rfl, hS1⟩
    have HS := Lib.hid hS1
    clear hS1 HI
    go_wp2_with fail
    go_loopw [6, 7, 8, 9] (fun v6 _ _ _ wr => v6 = .int .i64 20 ∧ wr = w1) (fun _ _ _ _ _ => 0)
    case atStart => exact ⟨rfl, rfl⟩
    case round =>
      obtain ⟨rfl, rfl⟩ := hrel
      go_wp2_with fail
      go_end0
      exact ⟨rfl, HS.out⟩
set_option maxHeartbeats 1000000 in
theorem sort_walk (w : World) (gd n cap gb : Nat) (v : Value) (counts : List Int) (l : List Nat) (hS : SortAt w w gd n cap gb v counts l) (hn : n < 20) :
    Calls Tryd.prog 74 #[.slice (some ⟨gd, 0, none⟩) n cap, .func (.func 75) #[] #[.pointer (some ⟨gb, 0, none⟩)]] w fun e w' => e = .returned (.tuple #[]) ∧ SortAt w w' gd n cap gb v counts (isTo (fun s => counts.getD s 0) (n - 1) l) := by
  have HI := Lib.hid (stable_walk w gd n cap gb v counts l hS hn)
  clear hS
  go_enter Tryd.func74, Tryd.ntmps74
  go_wp2_with fail
  refine HI.out.mono ?_
  rintro e w1 ⟨rfl, hS1⟩
  have HS := Lib.hid hS1
  clear hS1 HI
  go_wp2_with fail
  go_end0
  exact ⟨rfl, HS.out⟩
/-- sorting of none: the row is nil. -/
theorem sort_nil (w : World) (gb : Nat) : Calls Tryd.prog 74 #[.slice none 0 0, .func (.func 75) #[] #[.pointer (some ⟨gb, 0, none⟩)]] w fun e w' => e = .returned (.tuple #[]) ∧ w' = w := by
  have h49 : Calls Tryd.prog 90 #[.slice none 0 0, .int .i64 0, .int .i64 0, .func (.func 75) #[] #[.pointer (some ⟨gb, 0, none⟩)]] w fun e w' => e = .returned (.tuple #[]) ∧ w' = w := by
    go_enter Tryd.func90, Tryd.ntmps90
    go_wp2_with fail
    go_loopw [8, 9] (fun v8 _ wr => v8 = .int .i64 1 ∧ wr = w) (fun _ _ _ => 0)
    case atStart => exact ⟨rfl, rfl⟩
    case round =>
      obtain ⟨rfl, rfl⟩ := hrel
      go_wp2_with fail
      go_end0
      exact ⟨rfl, rfl⟩
  have HI := Lib.hid h49
  clear h49
  have h46 : Calls Tryd.prog 86 #[.slice none 0 0, .int .i64 0, .func (.func 75) #[] #[.pointer (some ⟨gb, 0, none⟩)]] w fun e w' => e = .returned (.tuple #[]) ∧ w' = w := by
    go_enter Tryd.func86, Tryd.ntmps86
    go_wp2_with fail
    go_loopw [7, 8] (fun v7 v8 wr => v7 = .int .i64 0 ∧ v8 = .int .i64 20 ∧ wr = w) (fun _ _ _ => 0)
    case atStart => exact ⟨rfl, rfl, rfl⟩
    case round =>
      obtain ⟨rfl, rfl, rfl⟩ := hrel
      go_wp2_with fail
      refine HI.out.mono ?_
      rintro e w1 ⟨rfl, rfl⟩
      clear HI
      go_wp2_with fail
      go_loopw [6, 7, 8, 9] (fun v6 _ _ _ wr => v6 = .int .i64 20 ∧ wr = w1) (fun _ _ _ _ _ => 0)
      case atStart => exact ⟨rfl, rfl⟩
      case round =>
        obtain ⟨rfl, rfl⟩ := hrel
        go_wp2_with fail
        go_end0
        exact ⟨rfl, rfl⟩
  have HI := Lib.hid h46
  clear h46
  go_enter Tryd.func74, Tryd.ntmps74
  go_wp2_with fail
  refine HI.out.mono ?_
  rintro e w1 ⟨rfl, rfl⟩
  go_wp2_with fail
  go_end0
  exact ⟨rfl, rfl⟩
end Go.Proofs.YtphdcgioeokfbaaDoor
