/-
  HuffKnown: the chapter's rows; what may not be; deflate's fixed codes.
-/
import Derived.Test.YtoifppfhnedahaaRowKit
namespace Go.Proofs.Ytoifppfhnedahaa
open Go.RowKit Hf

theorem bt {w w1 w2 : World} (h : Below w.heap.size w w1) (k : Below w1.heap.size w1 w2) : Below w.heap.size w w2 := h.trans (k.mono h.size)
def fix (s : Nat) : Int := if s < 144 then 8 else if s < 256 then 9 else if s < 280 then 7 else 8
def fixN (n k : Nat) : List Int := (List.range n).map fun s => if s < k then fix s else 0
theorem fixN_length (n k : Nat) : (fixN n k).length = n := by simp [fixN]
theorem fixN_zero (n : Nat) : fixN n 0 = zeros n := by
  apply List.ext_getElem
  · simp [fixN, zeros]
  · intro i h1 h2; simp [fixN, zeros]
theorem fixN_step (n k : Nat) : fixN n (k + 1) = (fixN n k).set k (fix k) := by
  apply List.ext_getElem
  · simp [fixN]
  · intro i h1 h2
    rw [List.getElem_set]
    by_cases h : k = i
    · subst h; simp [fixN]
    · simp only [fixN, List.getElem_map, List.getElem_range, if_neg h]
      by_cases h3 : i < k
      · rw [if_pos h3, if_pos (by omega)]
      · rw [if_neg h3, if_neg (by omega)]
def fixTo (k : Nat) : List Int := fixN 288 k
theorem fixTo_length (k : Nat) : (fixTo k).length = 288 := fixN_length _ _
theorem fixTo_zero : fixTo 0 = zeros 288 := fixN_zero _
theorem fixTo_step (k : Nat) : fixTo (k + 1) = (fixTo k).set k (fix k) := fixN_step _ _
theorem fix_small (k : Nat) : 0 ≤ fix k ∧ fix k ≤ 9 := by unfold fix; split <;> (try split) <;> (try split) <;> decide
/-- The row that is laid: s of 288 are there. -/
structure FixAt (w wr : World) (k : Nat) : Prop where
  row : wr.heap[w.heap.size]? = some (.cells (ni (fixTo k)).toArray 3 (0, 0))
  below : Below w.heap.size w wr
theorem FixAt.cell {w wr : World} {k i : Nat} (h : FixAt w wr k) (hi : i < 288) : wr.cell? ⟨w.heap.size, i, none⟩ = some (.int .i64 ((fixTo k).getD i 0)) := by
  rw [cell_of_row _ _ _ _ _ _ h.row]
  have hl : i < (fixTo k).length := by rw [fixTo_length]; exact hi
  simp [ni, hl]
theorem FixAt.free {w wr : World} {k : Nat} (h : FixAt w wr k) (i : Nat) : wr.frozen? ⟨w.heap.size, i, none⟩ = false := frozen_of_row _ _ _ _ _ h.row
theorem FixAt.step {w wr : World} {k : Nat} (h : FixAt w wr k) (x : Int) (hx : fix k = x) : FixAt w (wr.setCell ⟨w.heap.size, k, none⟩ (.int .i64 x)) (k + 1) :=
  ⟨by rw [heap_setCell_same _ _ _ _ _ _ h.row, fixTo_step, hx]; simp [ni, List.map_set], h.below.setCell (Nat.le_refl _) _⟩
theorem FixAt.sl {w wr : World} {k : Nat} (h : FixAt w wr k) : SlV wr (.slice (some ⟨w.heap.size, 0, none⟩) 288 288) (ni (fixTo k)) :=
  own_toV (row_own (B := 0) h.row (fixTo_length k) (Nat.zero_le _) (by decide))
theorem kv1 : okC [1, 1, 1] = true ∧ (syms [1, 1, 1]).length < 20 ∧ 2 ^ 1 < (syms [1, 1, 1]).length := by decide +kernel
theorem kv2 : okC [0, 9, 0] = true ∧ (syms [0, 9, 0]).length = 1 ∧ lensF [0, 9, 0] 1 = [0, 1, 0] := by decide +kernel
theorem kv3 : ¬ good [16] ∧ may [-1] = 1 ∧ may [1, 1, 1] = 20 ∧ may [2] = 20 ∧ may [1, 2] = 20 ∧ good [] ∧ st [] = -1 := by decide +kernel
theorem kv4 : good (fixTo 288) ∧ st (fixTo 288) = 0 := by decide +kernel
theorem kv5 : code (fixTo 288) 0 = 48 ∧ code (fixTo 288) 144 = 400 ∧ code (fixTo 288) 256 = 0 ∧ code (fixTo 288) 280 = 192 := by decide +kernel
theorem kv6 : okC [-1] = false ∧ okC [4294967297] = false := by decide +kernel
theorem kv7 : okC (zeros 1025) = false := by unfold okC; rw [show decide ((zeros 1025).length ≤ 1024) = false from by rw [zeros_length]; rfl, Bool.and_false]
theorem kv8 : trn 6 (min 3 32) = 3 ∧ trn 1 (min 32 32) = 2147483648 := by decide +kernel
theorem fix_codes (i x : Nat) (hi : i < 288) (h : code (fixTo 288) i = x) : (codes (fixTo 288)).getD i 0 = x := by rw [codes_getD _ _ (by rw [fixTo_length]; exact hi), h]
theorem turn_neg (w : World) : Calls Try.prog 21 #[.int .u32 9, .int .i64 (-4)] w fun e w' => e = .returned (.int .u32 0) ∧ w = w' := Turned_walk w 9 (-4) (by decide)
set_option maxRecDepth 100000 in
set_option maxHeartbeats 4000000 in
theorem known_walk (w : World) : Calls Try.prog 8 #[] w fun e w' => e = .returned (.bool true) ∧ Below w.heap.size w w' := by
  have hmf : ∀ (fn : Fn) (first cap : Array Value) (w : World), (Instr.makeFunc fn first cap).run Try.prog w = .ok (.func fn first cap) w := fun _ _ _ _ => rfl
  obtain ⟨i0, hi, hz0, hz1, hz2⟩ := info_parts info3
  have HI0 := Lib.hid (And.intro hi (And.intro hz0 (And.intro hz1 hz2)))
  clear hi hz0 hz1 hz2
  go_enter Try.func8, Try.ntmps8
  go_wp2_with fail
  refine (Next_nil _ _ _ _).mono ?_
  rintro e w1 ⟨rfl, hB1⟩
  have HB := Lib.hid (bt (bt ((Below.refl _ _).alloc (Nat.le_refl _) _) ((Below.refl _ _).alloc (Nat.le_refl _) _)) hB1)
  clear hB1
  go_wp2_with fail
  refine (len_over _ _ [1, 1, 1] 1 (slv_lit w1 (ni [1, 1, 1]) 3) kv1.1 (by decide) (by decide) kv1.2.1 kv1.2.2).mono ?_
  rintro e w2 ⟨rfl, hB2⟩
  have HB := Lib.hid (bt HB.out (below_lit hB2))
  clear hB2
  go_wp2_with fail
  refine (len_bad _ _ [-1] 5 (slv_lit w2 (ni [-1]) 3) (by decide) (by rw [kv6.1]; simp)).mono ?_
  rintro e w3 ⟨rfl, hB3⟩
  have HB := Lib.hid (bt HB.out (below_lit hB3))
  clear hB3
  go_wp2_with fail
  refine (len_bad _ _ [4294967297] 5 (slv_lit w3 (ni [4294967297]) 3) (by decide) (by rw [kv6.2]; simp)).mono ?_
  rintro e w4 ⟨rfl, hB4⟩
  have HB := Lib.hid (bt HB.out (below_lit hB4))
  clear hB4
  go_wp2_with (refine wpList_make_full w4 rfl _ _ 22 rfl w.heap.size 3 i0 (.int .i64 0) 1 Try.underlying22 HI0.out.1 HI0.out.2.1 HI0.out.2.2.1 .i64 .i64 1025 1025 1025 rfl rfl rfl rfl (by rw [HI0.out.2.2.2]; decide) (by decide) HB.out.size ?_; intro wm hown hgrow; have hsv := own_toV hown; rw [zeros_made] at hsv; have HSV := Lib.hid hsv; have HB := Lib.hid (bt HB.out ((Below.refl _ _).grown hgrow (Nat.le_refl _) (fun k e => by cases e))); clear hown hgrow hsv)
  refine (len_bad _ _ (zeros 1025) 5 HSV.out (by rw [zeros_length]; decide) (by rw [kv7]; simp)).mono ?_
  rintro e w5 ⟨rfl, hB5⟩
  have HB := Lib.hid (bt HB.out (hB5))
  clear hB5
  clear HSV
  go_wp2_with fail
  refine (len_bad _ _ [] 0 (SlV.nil _ none) (by decide) (by simp)).mono ?_
  rintro e w6 ⟨rfl, hB6⟩
  have HB := Lib.hid (bt HB.out (hB6))
  clear hB6
  go_wp2_with fail
  refine (len_bad _ _ [] 16 (SlV.nil _ none) (by decide) (by simp)).mono ?_
  rintro e w7 ⟨rfl, hB7⟩
  have HB := Lib.hid (bt HB.out (hB7))
  clear hB7
  go_wp2_with fail
  refine (len_good _ _ [0, 9, 0] 1 [0, 1, 0] (slv_lit w7 (ni [0, 9, 0]) 3) kv2.1 (by decide) (by decide) (by rw [kv2.2.1]; decide) (by rw [kv2.2.1]; decide) (by rw [kv2.2.1]; simp) kv2.2.2).mono ?_
  rintro e w8 ⟨u, rfl, hB8, hS⟩
  have HB := Lib.hid (bt HB.out (below_lit hB8))
  clear hB8
  have HS := Lib.hid hS
  clear hS
  go_wp2_with fail
  refine (state_bad _ _ [16] (slv_lit w8 (ni [16]) 3) kv3.1).mono ?_
  rintro e w9 ⟨rfl, hB9⟩
  have HS := Lib.hid (HS.out.below (below_lit hB9) (Nat.le_refl _))
  have HB := Lib.hid (bt HB.out (below_lit hB9))
  clear hB9
  go_wp2_with fail
  refine (new_bad _ _ [-1] 1 (slv_lit w9 (ni [-1]) 3) kv3.2.1 (by decide)).mono ?_
  rintro e w10 ⟨rfl, hB10⟩
  have HS := Lib.hid (HS.out.below (below_lit hB10) (Nat.le_refl _))
  have HB := Lib.hid (bt HB.out (below_lit hB10))
  clear hB10
  go_wp2_with fail
  refine (new_bad _ _ [1, 1, 1] 20 (slv_lit w10 (ni [1, 1, 1]) 3) kv3.2.2.1 (by decide)).mono ?_
  rintro e w11 ⟨rfl, hB11⟩
  have HS := Lib.hid (HS.out.below (below_lit hB11) (Nat.le_refl _))
  have HB := Lib.hid (bt HB.out (below_lit hB11))
  clear hB11
  go_wp2_with fail
  refine (new_bad _ _ [2] 20 (slv_lit w11 (ni [2]) 3) kv3.2.2.2.1 (by decide)).mono ?_
  rintro e w12 ⟨rfl, hB12⟩
  have HS := Lib.hid (HS.out.below (below_lit hB12) (Nat.le_refl _))
  have HB := Lib.hid (bt HB.out (below_lit hB12))
  clear hB12
  go_wp2_with fail
  refine (new_bad _ _ [1, 2] 20 (slv_lit w12 (ni [1, 2]) 3) kv3.2.2.2.2.1 (by decide)).mono ?_
  rintro e w13 ⟨rfl, hB13⟩
  have HS := Lib.hid (HS.out.below (below_lit hB13) (Nat.le_refl _))
  have HB := Lib.hid (bt HB.out (below_lit hB13))
  clear hB13
  go_wp2_with (refine wpList_make_full w13 rfl _ _ 22 rfl w13.heap.size 3 i0 (.int .i64 0) 1 Try.underlying22 HI0.out.1 HI0.out.2.1 HI0.out.2.2.1 .i64 .i64 288 288 288 rfl rfl rfl rfl (by rw [HI0.out.2.2.2]; decide) (by decide) (Nat.le_refl _) ?_; intro wf hown hgrow; have hrow := made_row hown; have HFX : Hid (FixAt w13 wf 0) := Lib.hid ⟨by rw [fixTo_zero]; exact hrow, (Below.refl _ _).grown hgrow (Nat.le_refl _) (fun k e => by cases e)⟩; clear hown hgrow hrow)
  have hLT : w13.heap.size < wf.heap.size := (Array.getElem?_eq_some_iff.1 HFX.out.row).1
  have HLT := Lib.hid hLT
  clear hLT
  go_loopw [106] (fun v wr => ∃ k : Nat, k ≤ 288 ∧ v = .int .i64 k ∧ FixAt w13 wr k) (fun v _ => 288 - (intOf v).toNat)
  case atStart => exact ⟨0, by omega, rfl, HFX.out⟩
  case round =>
    obtain ⟨k, hk, rfl, hF⟩ := hrel
    have HF := Lib.hid hF
    clear hF
    by_cases hlt : k < 288
    · have hc := HF.out.cell hlt
      have hfr := HF.out.free k
      clear HS HB HFX
      generalize (fixTo k).getD k 0 = z at hc
      have h0 : (k : Int) < 288 := by omega
      by_cases h1 : (k : Int) < 144
      · have HF2 := Lib.hid (HF.out.step 8 (by unfold fix; rw [if_pos (by omega)]))
        clear HF
        go_wp2_with fail
        exact ⟨⟨k + 1, by omega, by go_num, HF2.out⟩, by simp [intOf]; omega⟩
      · by_cases h2 : (k : Int) < 256
        · have HF2 := Lib.hid (HF.out.step 9 (by unfold fix; rw [if_neg (by omega), if_pos (by omega)]))
          clear HF
          go_wp2_with fail
          exact ⟨⟨k + 1, by omega, by go_num, HF2.out⟩, by simp [intOf]; omega⟩
        · by_cases h3 : (k : Int) < 280
          · have HF2 := Lib.hid (HF.out.step 7 (by unfold fix; rw [if_neg (by omega), if_neg (by omega), if_pos (by omega)]))
            clear HF
            go_wp2_with fail
            exact ⟨⟨k + 1, by omega, by go_num, HF2.out⟩, by simp [intOf]; omega⟩
          · have HF2 := Lib.hid (HF.out.step 8 (by unfold fix; rw [if_neg (by omega), if_neg (by omega), if_neg (by omega)]))
            clear HF
            go_wp2_with fail
            exact ⟨⟨k + 1, by omega, by go_num, HF2.out⟩, by simp [intOf]; omega⟩
    · obtain rfl : k = 288 := by omega
      have HB := Lib.hid (bt HB.out HF.out.below)
      have HS := Lib.hid (HS.out.below HF.out.below (Nat.le_refl _))
      have HSL := Lib.hid HF.out.sl
      clear HF HFX
      go_wp2_with fail
      refine (codes_good _ _ _ HSL.out kv4.1 (by rw [kv4.2]; decide)).mono ?_
      rintro e wc ⟨uc, rfl, hO, hBc⟩
      rw [fixTo_length] at hO
      obtain ⟨gc, cc, rfl, _, _, hcc, _, _, _, _⟩ := own_spot hO (by decide)
      obtain ⟨gc', oc', hgc, hrc⟩ := (own_toV hO).some (by decide)
      cases hgc
      have HB := Lib.hid (bt HB.out hBc)
      have HS := Lib.hid (HS.out.below hBc (Nat.le_refl _))
      have HSL := Lib.hid (HSL.out.below hBc (Nat.le_refl _))
      have HR := Lib.hid hrc
      clear hO hBc hrc
      go_wp2_with fail
      refine (state_good _ _ _ 0 HSL.out kv4.1 kv4.2).mono ?_
      rintro e wd ⟨rfl, hBd⟩
      have HR := Lib.hid (HR.out.below hBd (HR.out.lt (by decide)))
      have HB := Lib.hid (bt HB.out hBd)
      have HS := Lib.hid (HS.out.below hBd (Nat.le_refl _))
      clear hBd HSL
      go_wp2_with fail
      refine (state_good _ _ [] (-1) (SlV.nil _ none) kv3.2.2.2.2.2.1 kv3.2.2.2.2.2.2).mono ?_
      rintro e we ⟨rfl, hBe⟩
      have HR := Lib.hid (HR.out.below hBe (HR.out.lt (by decide)))
      have HB := Lib.hid (bt HB.out hBe)
      have HS := Lib.hid (HS.out.below hBe (Nat.le_refl _))
      clear hBe
      go_wp2_with fail
      refine (ints_lit we u [0, 1, 0] [0, 1, 0] HS.out (by decide)).mono ?_
      rintro e wg ⟨rfl, hBg⟩
      have hR := HR.out.below hBg (HR.out.lt (by decide))
      have HB := Lib.hid (bt HB.out hBg)
      have c0 : wg.cell? ⟨gc, 0, none⟩ = some (.int .u32 48) := by
        have := hR.nu 0 (by rw [codes_length, fixTo_length]; decide)
        rwa [fix_codes 0 48 (by decide) kv5.1] at this
      have c1 : wg.cell? ⟨gc, 144, none⟩ = some (.int .u32 400) := by
        have := hR.nu 144 (by rw [codes_length, fixTo_length]; decide)
        rwa [fix_codes 144 400 (by decide) kv5.2.1, Nat.zero_add] at this
      have c2 : wg.cell? ⟨gc, 256, none⟩ = some (.int .u32 0) := by
        have := hR.nu 256 (by rw [codes_length, fixTo_length]; decide)
        rwa [fix_codes 256 0 (by decide) kv5.2.2.1, Nat.zero_add] at this
      have c3 : wg.cell? ⟨gc, 280, none⟩ = some (.int .u32 192) := by
        have := hR.nu 280 (by rw [codes_length, fixTo_length]; decide)
        rwa [fix_codes 280 192 (by decide) kv5.2.2.2, Nat.zero_add] at this
      clear hBg hR HR HS
      go_wp2_with fail
      refine (turn_is _ 6 3 3 (by decide) kv8.1).mono ?_
      rintro e _ ⟨rfl, rfl⟩
      go_wp2_with fail
      refine (turn_is _ 1 32 2147483648 (by decide) kv8.2).mono ?_
      rintro e _ ⟨rfl, rfl⟩
      go_wp2_with fail
      refine (turn_neg _).mono ?_
      rintro e _ ⟨rfl, rfl⟩
      go_wp2_with fail
      refine (tells_walk _).mono ?_
      rintro e wz ⟨rfl, hBz⟩
      have HB := Lib.hid (bt HB.out hBz)
      clear hBz
      go_wp2_with fail
      go_ret
      exact ⟨rfl, HB.out⟩
end Go.Proofs.Ytoifppfhnedahaa
