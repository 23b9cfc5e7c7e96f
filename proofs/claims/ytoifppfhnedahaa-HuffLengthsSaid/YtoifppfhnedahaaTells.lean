/-
  The contract of tells: the chapter's rows.
-/
import Derived.Test.YtoifppfhnedahaaInts
import Derived.Test.YtoifppfhnedahaaCodes
namespace Go.Proofs.Ytoifppfhnedahaa
open Go.RowKit Hf

instance (syms : List Nat) (lens : List Int) (ls : Nat → List (Int × Bool)) (L : Nat) : Decidable (sttOk syms lens ls L) := by unfold sttOk; infer_instance
theorem ev1 : lensF [1, 1, 2, 4] 15 = [3, 3, 2, 1] ∧ lensF [1, 1, 2, 4] 2 = [2, 2, 2, 2] ∧ lenErr [1, 1, 2, 4] 15 = 0 ∧ lenErr [1, 1, 2, 4] 2 = 0 ∧ codes [2, 1, 3, 3] = [2, 0, 6, 7] := by decide +kernel
theorem ev2 : okC [1, 1, 2, 4] = true ∧ (syms [1, 1, 2, 4]).length < 20 ∧ (syms [1, 1, 2, 4]).length ≤ 2 ^ 15 ∧ (syms [1, 1, 2, 4]).length ≤ 2 ^ 2 := by decide +kernel
theorem ev3 : sttOk (syms [1, 1, 2, 4]) (zeros 4) (lst (its (cnts [1, 1, 2, 4] (syms [1, 1, 2, 4])))) 15 := by decide +kernel
theorem ev4 : sttOk (syms [1, 1, 2, 4]) (zeros 4) (lst (its (cnts [1, 1, 2, 4] (syms [1, 1, 2, 4])))) 2 := by decide +kernel
theorem ev5 : good [2, 1, 3, 3] ∧ st [2, 1, 3, 3] = 0 := by decide +kernel
theorem len_row (w : World) (v : Value) (limit : Nat) (out : List Int) (hv : SlV w v (ni [1, 1, 2, 4])) (h1 : 1 ≤ limit) (h2 : limit ≤ 15) (hk : (syms [1, 1, 2, 4]).length ≤ 2 ^ limit)
    (hs : sttOk (syms [1, 1, 2, 4]) (zeros 4) (lst (its (cnts [1, 1, 2, 4] (syms [1, 1, 2, 4])))) limit) (he : lenErr [1, 1, 2, 4] limit = 0) (ho : lensF [1, 1, 2, 4] limit = out) :
    Calls Try.prog 9 #[v, .int .i64 (limit : Int)] w fun e w' => ∃ u, e = .returned (.tuple #[u, .int .i64 0]) ∧ Below w.heap.size w w' ∧ SlV w' u (ni out) := by
  refine (Lengths_ok w v [1, 1, 2, 4] limit hv ev2.1 h1 h2 ev2.2.1 hk (fun _ => hs)).mono ?_
  rintro e w' ⟨u, h3, h4, h5, _⟩
  rw [he] at h3
  refine ⟨u, h3, h4, ?_⟩
  have := own_toV (h5 he)
  rw [Int.toNat_natCast, ho] at this
  exact this
theorem codes_row (w : World) (v : Value) (hv : SlV w v (ni [2, 1, 3, 3])) :
    Calls Try.prog 17 #[v] w fun e w' => ∃ g cap, e = .returned (.tuple #[.slice (some ⟨g, 0, none⟩) 4 cap, .int .i64 0]) ∧ Below w.heap.size w w' ∧ 4 ≤ cap ∧ RowAt w' g 0 (nu [2, 0, 6, 7]) := by
  refine (Codes_walk w v _ hv).mono ?_
  rintro e w' ⟨u, h3, h4, h5⟩
  rw [if_pos ev5.1, ev5.2, if_neg (by decide)] at h3
  rw [if_pos ⟨ev5.1, by rw [ev5.2]; decide⟩, if_pos ⟨ev5.1, by rw [ev5.2]; decide⟩, ev1.2.2.2.2] at h4
  obtain ⟨g, cap, rfl, _⟩ := own_spot h4 (by decide)
  have h6 := own_toV h4
  have hle := h6.le
  obtain ⟨g', o', hg, hr⟩ := h6.some (by decide)
  cases hg
  exact ⟨_, cap, h3, h5, hle, hr⟩
theorem below_lit {w w' : World} {o : Obj} (h : Below (w.alloc o).heap.size (w.alloc o) w') : Below w.heap.size w w' := ((Below.refl _ _).alloc (Nat.le_refl _) _).trans (h.mono (by simp))
theorem ints_lit (w : World) (u : Value) (a b : List Int) (h : SlV w u (ni a)) (hl : a.length ≤ 1099511627776) :
    Calls Try.prog 11 #[u, .slice (some ⟨w.heap.size, 0, none⟩) (ni b).length (ni b).length] (w.alloc (.cells (ni b).toArray 3)) fun e w' => e = .returned (.bool (decide (a = b))) ∧ Below w.heap.size w w' := by
  refine (ints_walk _ u _ a b (h.below ((Below.refl _ _).alloc (Nat.le_refl _) _) (Nat.le_refl _)) (slv_lit w (ni b) 3) hl).mono ?_
  rintro e w' ⟨h1, h2⟩
  exact ⟨h1, below_lit h2⟩
set_option maxRecDepth 100000 in
set_option maxHeartbeats 1000000 in
theorem tells_walk (w : World) : Calls Try.prog 14 #[] w fun e w' => e = .returned (.bool true) ∧ Below w.heap.size w w' := by
  go_enter Try.func14, Try.ntmps14
  go_wp2_with fail
  refine (len_row _ _ 15 _ (slv_lit w (ni [1, 1, 2, 4]) 3) (by decide) (by decide) ev2.2.2.1 ev3 ev1.2.2.1 ev1.1).mono ?_
  rintro e w1 ⟨u1, rfl, hB1, hS1⟩
  have HB1 := Lib.hid (below_lit hB1)
  have HS1 := Lib.hid hS1
  clear hB1 hS1
  go_wp2_with fail
  refine (len_row _ _ 2 _ (slv_lit w1 (ni [1, 1, 2, 4]) 3) (by decide) (by decide) ev2.2.2.2 ev4 ev1.2.2.2.1 ev1.2.1).mono ?_
  rintro e w2 ⟨u2, rfl, hB2, hS2⟩
  have HB2 := Lib.hid (below_lit hB2)
  have HS2 := Lib.hid hS2
  clear hB2 hS2
  go_wp2_with fail
  refine (codes_row _ _ (slv_lit w2 (ni [2, 1, 3, 3]) 3)).mono ?_
  rintro e w3 ⟨g3, cap3, rfl, hB3, hc3, hS3⟩
  have HB3 := Lib.hid (below_lit hB3)
  have HS3 := Lib.hid hS3
  clear hB3 hS3
  go_wp2_with fail
  refine (ints_lit w3 u1 [3, 3, 2, 1] [3, 3, 2, 1] ((HS1.out.below HB2.out (Nat.le_refl _)).below HB3.out (Nat.le_refl _)) (by decide)).mono ?_
  rintro e w4 ⟨rfl, hB4⟩
  have HB4 := Lib.hid hB4
  clear hB4
  go_wp2_with fail
  refine (ints_lit w4 u2 [2, 2, 2, 2] [2, 2, 2, 2] ((HS2.out.below HB3.out (Nat.le_refl _)).below HB4.out (Nat.le_refl _)) (by decide)).mono ?_
  rintro e w5 ⟨rfl, hB5⟩
  have HB5 := Lib.hid hB5
  clear hB5
  have hlt := HS3.out.lt (by decide)
  have hrow := (HS3.out.below HB4.out hlt).below HB5.out (Nat.lt_of_lt_of_le hlt HB4.out.size)
  have c0 : w5.cell? ⟨g3, 0, none⟩ = some (.int .u32 2) := hrow.nu 0 (by decide)
  have c1 : w5.cell? ⟨g3, 1, none⟩ = some (.int .u32 0) := hrow.nu 1 (by decide)
  have c2 : w5.cell? ⟨g3, 2, none⟩ = some (.int .u32 6) := hrow.nu 2 (by decide)
  have c3 : w5.cell? ⟨g3, 3, none⟩ = some (.int .u32 7) := hrow.nu 3 (by decide)
  clear hrow hlt
  have HB : Hid (Below w.heap.size w w5) := Lib.hid (((((HB1.out.trans (HB2.out.mono HB1.out.size)).trans (HB3.out.mono (Nat.le_trans HB1.out.size HB2.out.size)))).trans (HB4.out.mono (Nat.le_trans (Nat.le_trans HB1.out.size HB2.out.size) HB3.out.size))).trans (HB5.out.mono (Nat.le_trans (Nat.le_trans (Nat.le_trans HB1.out.size HB2.out.size) HB3.out.size) HB4.out.size)))
  go_wp2_with fail
  go_ret
  exact ⟨rfl, HB.out⟩
end Go.Proofs.Ytoifppfhnedahaa
