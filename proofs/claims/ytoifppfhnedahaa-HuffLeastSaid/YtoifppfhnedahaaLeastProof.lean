/-
  Proved: for every row of numbers, every limit and every row of other lengths the law HuffLeast returns true (lengths from counts cost no more than any other lengths that are not too many; from two symbols on they are full; a symbol of a greater count has no greater length), and what came in reads as before.
  Conditions: none.
-/
import Derived.Test.YtoifppfhnedahaaDoor
import Derived.Test.YtoifppfhnedahaaLeastA
import Derived.Test.YtoifppfhnedahaaRows
namespace Go.Proofs.Ytoifppfhnedahaa
open Go.ChangeShapes Go.WideShapes Go.ChangeAt Go.RowKit

theorem nu_of (zs : List Int) (h : ∀ z ∈ zs, 0 ≤ z) : zs.map (Value.int .u32) = nu (zs.map Int.toNat) := by
  unfold nu
  rw [List.map_map]
  apply List.map_congr_left
  intro z hz
  show Value.int .u32 z = Value.int .u32 ((z.toNat : Nat) : Int)
  rw [Int.toNat_of_nonneg (h z hz)]
set_option maxRecDepth 100000 in
theorem least_lifted (os : Os) (started : os.Started) (H : Type) (enc : TypeId × Value → H) :
    ReturnsInHanded {} Try.checked os 5 .any (Rows.huffLeastSpec.pre6 enc Try.prog Try.f5 Rows.huffLeastRow.domain false) (Rows.huffLeastSpec.post enc Try.prog Try.f5 false true false false) := by
  refine returnsInHanded_of_change (C := Try.checked) own started (by kernel_rfl) Try.func5
    (ChangeSpec.witness6 (enc := enc) (C := Try.checked) false ⟨#[], #[.slice none 0 0, .int .u8 0, .slice none 0 0], []⟩ 8 (by kernel_rfl) (by kernel_rfl) (by kernel_rfl) (by kernel_rfl)) ?_
  intro W base args ds gs before hval0 hW _ _
  have hval : ∀ (j : Nat) t v, Try.f5.params[j]? = some t → args[j]? = some v → Value.okWide Try.prog W .any base t v := hval0
  have hW' := hW
  obtain ⟨p, q, hA0, hV, rfl, hfz, hnd⟩ := hW
  have hA : DataW.TrodAll enc Try.prog W 0 (fun _ => true) true Try.f5.params.toList args.toList ds p := hA0
  rw [Try.params5] at hA hval
  obtain ⟨v0, vs0, d0, ds0, p0, q0, hargs, rfl, rfl, h0, r0⟩ := trodAll_cons hA
  obtain ⟨v1, vs1, d1, ds1, p1, q1, rfl, rfl, rfl, h1, r1⟩ := trodAll_cons r0
  obtain ⟨v2, vs2, d2, ds2, p2, q2, rfl, rfl, rfl, h2, r2⟩ := trodAll_cons r1
  obtain ⟨rfl, rfl, rfl⟩ := trodAll_nil r2
  obtain rfl : args = #[v0, v1, v2] := by cases args; simp_all
  obtain ⟨rfl, rfl⟩ := trodVars_none hV
  have lt0 : ∀ x ∈ p0, x.block < W.heap.size := by obtain ⟨m, hm⟩ := h0; exact DataW.trod_lt m _ _ _ hm
  have lt2 : ∀ x ∈ p2, x.block < W.heap.size := by obtain ⟨m, hm⟩ := h2; exact DataW.trod_lt m _ _ _ hm
  obtain ⟨zs, hs, hz⟩ := slice_came Try.underlying38 Try.underlying33 (by kernel_rfl) (hval 0 38 v0 rfl rfl) h0
  obtain ⟨a1, rfl, rfl, rfl, w1⟩ := open_int Try.underlying5 (hval 1 5 v1 rfl rfl) h1
  obtain ⟨ys, hy, hyz⟩ := slice_came Try.underlying56 Try.underlying5 (by kernel_rfl) (hval 2 56 v2 rfl rfl) h2
  clear hA0 hval0
  have hwalk : Calls Try.prog 5 #[v0, .int .u8 a1, v2] W fun e w' => e = .returned (.bool true) ∧ Below W.heap.size W w' := by
    have hb : ∀ z ∈ zs, 0 ≤ z ∧ z < 4294967296 := fun z h => by have := bounds_u32 (hz z h); omega
    rw [nu_of zs (fun z h => (hb z h).1)] at hs
    exact least_walk W v0 v2 a1 (zs.map Int.toNat) ys hs hy (by have := bounds_u8 w1; omega) (fun z h => by
      obtain ⟨y, hy, rfl⟩ := List.mem_map.1 h
      have := hb y hy
      omega) (fun z h => by have := bounds_u8 (hyz z h); omega)
  refine hwalk.mono fun e W' ⟨he, bel⟩ => ?_
  subst he
  exact ⟨_, rfl, _, _, _, [], _, [], hW', trodAll_mk1 (shut_bool Try.underlying4 _), (trodAll_cons_mk (Below.trod laidOut (by kernel_rfl) (of_decide_eq_true (by kernel_rfl)) h0 bel lt0) (trodAll_cons_mk (shut_int Try.underlying5 w1) (trodAll_cons_mk (Below.trod laidOut (by kernel_rfl) (of_decide_eq_true (by kernel_rfl)) h2 bel lt2) trodAll_mk0))), rfl, bel.frame _, fun h => by cases h⟩
theorem least_holds : Rows.HuffLeastSaid :=
  OpenClaim.holds_of_wide 5 Try.f5 rfl rfl rfl rfl rfl rfl rfl ⟨rfl, rfl, rfl, rfl, rfl⟩ rfl rfl rfl rfl rfl (by kernel_rfl) Try.func5 (by kernel_rfl)
    (of_decide_eq_true (by kernel_rfl)) (by unfold Func.isWrapper; first | (rw [if_pos (by decide +kernel)]; kernel_rfl) | (rw [if_neg (by decide +kernel)]; exact ⟨rfl, rfl⟩))
    (fun os started H enc _ => least_lifted os started H enc)
#print axioms least_holds
end Go.Proofs.Ytoifppfhnedahaa
