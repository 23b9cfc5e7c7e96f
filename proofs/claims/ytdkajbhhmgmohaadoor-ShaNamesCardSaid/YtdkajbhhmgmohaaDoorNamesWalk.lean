/-
  The law ShaNames walked.
-/
import Derived.Test.YtdkajbhhmgmohaaDoorRefParse
import Derived.Test.YtdkajbhhmgmohaaDoorKinds
namespace Go.Proofs.YtdkajbhhmgmohaaDoor
open Go.RowKit Sha Inv
theorem pval_parts (t : List UInt8) : ∃ (D : List UInt8) (E : Int), D.length = 32 ∧ pval (parseL t) = .tuple #[.agg (bcells D), .int .i64 E] := by
  have h : parseL t = none ∨ parseL t = some (outTo (t.drop 7) 32) := by
    by_cases hx : t.length = 71 ∧ t.take 7 = preL ∧ ∀ i, i < 64 → hv (t.getD (7 + i) 0) < 16
    · exact .inr (parse_some t hx.1 hx.2.1 hx.2.2)
    · unfold parseL; rw [if_neg hx]; exact .inl rfl
  rcases h with h | h
  · rw [h]; exact ⟨List.replicate 32 0, 5, by simp, rfl⟩
  · rw [h]; exact ⟨outTo (t.drop 7) 32, 0, outTo_length _ _, pval_some _⟩
set_option maxRecDepth 100000 in
set_option maxHeartbeats 1000000 in
theorem names_law (d : List UInt8) (hd : d.length = 32) (s : List UInt8) (hs : s.length ≤ 9223372036854775807) (w : World) (hK : KAt w) (hH : HAt w) :
    Calls Tryd.prog 4 #[.agg (bcells d), .string ⟨s.toArray⟩] w (SumsPost w) := by
  have hK2 : 2 < w.heap.size := block_lt_of_cell (hK 0 (by omega))
  obtain ⟨m, hm⟩ : ∃ m, m = min s.length 100 := ⟨_, rfl⟩
  have hmi : min (s.length : Int) 100 = (m : Int) := by omega
  obtain ⟨t, ht⟩ : ∃ t, t = s.take m := ⟨_, rfl⟩
  have htl : t.length ≤ 100 := by rw [ht]; simp; omega
  have hsl : ∀ wx, (Instr.slice 9 (.string ⟨s.toArray⟩) none (some (.int .i64 (m : Int))) none).run Tryd.prog wx = .ok (.string ⟨t.toArray⟩) wx := fun wx => by
    rw [run_slice_string_to_if wx 9 _ .i64 _ Tryd.underlying9, if_pos ⟨by omega, by show (m : Int) ≤ (s.length : Nat); omega⟩]
    rw [Int.toNat_natCast, Go.ByteArray.extract_mk, ht]
    simp
  have hz : (ByteArray.mk s.toArray).size = s.length := rfl
  have HD := Lib.hid hd
  have HCS : Hid ((Tryd.prog.info? 24).map (·.size) = some (bcells d).size) := Lib.hid (by rw [bcells_size, hd]; exact size24)
  clear hd ht hm
  generalize hS : ByteArray.mk s.toArray = S at *
  generalize hTT : ByteArray.mk t.toArray = TT at *
  have HT := Lib.hid hTT
  generalize s.length = sl at *
  clear hS hTT
  go_enter Tryd.func4, Tryd.ntmps4
  go_wp2_with fail
  rw [← HT.out]
  refine (parse_walk t _ htl).mono ?_
  rintro e w1 ⟨rfl, hb1⟩
  obtain ⟨D, E, hDl, hDE⟩ := pval_parts t
  rw [hDE]
  have HDE := Lib.hid hDE
  have HDl := Lib.hid hDl
  have HI : Hid ((Tryd.prog.info? 25).map (·.size) = some (bcells D).size) := Lib.hid (by rw [bcells_size, hDl]; exact size25)
  have HI4 : Hid ((Tryd.prog.info? 24).map (·.size) = some (bcells D).size) := Lib.hid (by rw [bcells_size, hDl]; exact size24)
  have HO : Hid ((bcells (List.replicate 32 0)).size = (bcells D).size) := Lib.hid (by rw [bcells_size, bcells_size, hDl]; rfl)
  have hx1 : RowT 24 w1 w.heap.size d := (hb1.block w.heap.size (by simp)).trans (heap_alloc_new _ _)
  have hbel1 : Below w.heap.size w w1 := ((Below.refl _ _).alloc (Nat.le_refl _) _).trans (hb1.mono (by simp))
  have hz1 : w.heap.size < w1.heap.size := (Array.getElem?_eq_some_iff.1 hx1).1
  clear hDE hDl hb1 hsl
  go_wp2_with (refine wpList_store_rowX rfl 25 _ _ rfl w1.heap.size (bcells D) rfl rfl 25 (bcells (List.replicate 32 0)) (heap_alloc_new _ _) HI.out HO.out (bcells_one _) ?_; intro w2 hrow2 ho2 hs2)
  refine (rparse_walk t _).mono ?_
  rintro e w3 ⟨rfl, hb3⟩
  rw [HDE.out]
  have hb12 : Below w1.heap.size w1 w2 := ((Below.refl _ _).alloc (Nat.le_refl _) _).trans (Below.of_only ho2 (Nat.le_refl _) (by simp))
  have hz2 : w1.heap.size < w2.heap.size := (Array.getElem?_eq_some_iff.1 hrow2).1
  have hb13 : Below w1.heap.size w1 w3 := hb12.trans (hb3.mono (by omega))
  have hx3 : RowT 24 w3 w.heap.size d := hx1.below hb13 hz1
  have ha3 : RowT 25 w3 w1.heap.size D := RowT.below hrow2 hb3 hz2
  have hbel3 : Below w.heap.size w w3 := hbel1.trans (hb13.mono (by omega))
  have hz3 : w1.heap.size < w3.heap.size := (Array.getElem?_eq_some_iff.1 ha3).1
  obtain ⟨ga, hga⟩ : ∃ g, g = w1.heap.size := ⟨_, rfl⟩
  rw [← hga] at ha3 hz3 hz1 ⊢
  clear hx1 hbel1 hrow2 ho2 hs2 hb3 hb12 hz2 hb13 hga
  go_wp2_with (refine wpList_store_rowX rfl 24 _ _ rfl w3.heap.size (bcells D) rfl rfl 24 (bcells (List.replicate 32 0)) (heap_alloc_new _ _) HI4.out HO.out (bcells_one _) ?_; intro w4 hrow4 ho4 hs4)
  have hb34 : Below w3.heap.size w3 w4 := ((Below.refl _ _).alloc (Nat.le_refl _) _).trans (Below.of_only ho4 (Nat.le_refl _) (by simp))
  have hx4 : RowT 24 w4 w.heap.size d := hx3.below hb34 (by omega)
  have ha4 : RowT 25 w4 ga D := ha3.below hb34 hz3
  have hbel4 : Below w.heap.size w w4 := hbel3.trans (hb34.mono (by omega))
  obtain ⟨gb, hgb⟩ : ∃ g, g = w3.heap.size := ⟨_, rfl⟩
  have hr4 : RowT 24 w4 gb D := by rw [hgb]; exact hrow4
  have hz4 : gb < w4.heap.size := (Array.getElem?_eq_some_iff.1 hr4).1
  rw [← hgb] at hz3 ⊢
  clear hrow4 ho4 hs4 hb34 hx3 ha3 hbel3 hgb
  have hK4 := hK.below hbel4 hK2
  have hH4 := hH.below hbel4 (by omega)
  have hK2' : 2 < w4.heap.size := by have := hbel4.size; omega
  have HQ : Hid (∀ wx, Below w4.heap.size w4 wx → SumsPost w (.returned (.bool true)) wx) := Lib.hid (fun wx h => ⟨rfl, hbel4.trans (h.mono hbel4.size)⟩)
  refine wp_region_inv (by kernel_rfl) (by kernel_rfl) (BaseW w4.drew) StepW (VV [.eq (.agg (bcells d)), .eq (.string ⟨(nameL d).toArray⟩), .eq (.agg (bcells d)), .eq (.string ⟨(nameL d).toArray⟩), .eq (.bool true), .eq (.bool true), .eq (.agg (bcells D)), .eq (.agg (bcells D)), .eq (.bool true), .eq (.bool true), .eq (.bool true), .eq (.int .i64 E), .eq (.int .i64 E), .eq (.bool true), .eq (.bool true), .eq (.bool true), .eq (.bool true), .eq (.bool true), .eq (.bool true)]) (VV.mono _) (Below.refl _ _) ?_ ?_
  · refine ⟨ok_run (.inl rfl) _ rfl rfl fun x y hL hB hD => run_load24 (.tmp 2) rfl w.heap.size 24 d HD.out (hL.rest 2 (by kernel_rfl)) (hx4.below (of_drew hB) hx4.lt),
          ok_call1 (.inl rfl) 15 (.tmp 24) (fun a w => by kernel_rfl) (.agg (bcells d)) _ rfl rfl fun x y hL hB hD => ⟨(hD.1 rfl), name_walk d HD.out y⟩,
          ok_run (.inl rfl) _ rfl rfl fun x y hL hB hD => run_load24 (.tmp 2) rfl w.heap.size 24 d HD.out (hL.rest 2 (by kernel_rfl)) (hx4.below (of_drew hB) hx4.lt),
          ok_call1 (.inl rfl) 16 (.tmp 26) (fun a w => by kernel_rfl) (.agg (bcells d)) _ rfl rfl fun x y hL hB hD => ⟨(hD.1 rfl), rname_walk d HD.out y⟩,
          ok_run (.inl rfl) _ rfl rfl fun x y hL hB hD => run_eql_str (.tmp 25) (.tmp 27) rfl ⟨(nameL d).toArray⟩ ⟨(nameL d).toArray⟩ (hD.1 rfl) (hD.2.1 rfl) rfl,
          ok_move (.inl rfl) _ rfl _ rfl rfl fun x y hL _ hD => hD.1 rfl,
          ok_run (.inr ⟨5, true, rfl, fun x y hL _ hD => hD.1 rfl⟩) _ rfl rfl fun x y hL hB hD => run_load25 (.tmp 5) rfl ga 25 D HDl.out (hL.rest 5 (by kernel_rfl)) (ha4.below (of_drew hB) ha4.lt),
          ok_run (.inr ⟨5, true, rfl, fun x y hL _ hD => hD.1 rfl⟩) _ rfl rfl fun x y hL hB hD => run_load24 (.tmp 7) rfl gb 24 D HDl.out (hL.rest 7 (by kernel_rfl)) (hr4.below (of_drew hB) hr4.lt),
          ok_run (.inr ⟨5, true, rfl, fun x y hL _ hD => hD.2.2.1 rfl⟩) _ rfl rfl fun x y hL hB hD => run_eql25 (.tmp 30) (.tmp 31) rfl D HDl.out (hD.1 rfl) (hD.2.1 rfl),
          ok_pick (.inl rfl) _ _ _ rfl _ rfl rfl fun x y hL _ hD => ⟨hD.1 rfl, hD.2.1 rfl⟩,
          ok_move (.inl rfl) _ rfl _ rfl rfl fun x y hL _ hD => hD.1 rfl,
          ok_move (.inr ⟨10, true, rfl, fun x y hL _ hD => hD.1 rfl⟩) _ rfl _ rfl rfl fun x y hL _ hD => hL.rest 6 (by kernel_rfl),
          ok_move (.inr ⟨10, true, rfl, fun x y hL _ hD => hD.1 rfl⟩) _ rfl _ rfl rfl fun x y hL _ hD => hL.rest 8 (by kernel_rfl),
          ok_run (.inr ⟨10, true, rfl, fun x y hL _ hD => hD.2.2.1 rfl⟩) _ rfl rfl fun x y hL hB hD => (run_eql_int (.tmp 35) (.tmp 36) rfl E E (hD.1 rfl) (hD.2.1 rfl)).trans (by rw [beq_self_eq_true]),
          ok_pick (.inl rfl) _ _ _ rfl _ rfl rfl fun x y hL _ hD => ⟨hD.1 rfl, hD.2.1 rfl⟩,
          ok_move (.inl rfl) _ rfl _ rfl rfl fun x y hL _ hD => hD.1 rfl,
          ok_call0 (.inr ⟨15, true, rfl, fun x y hL _ hD => hD.1 rfl⟩) 12 (fun a w => by kernel_rfl) _ rfl rfl fun x y hL hB hD => wakes_walk y (hK4.below (of_drew hB) hK2') (hH4.below (of_drew hB) (by omega)),
          ok_pick (.inl rfl) _ _ _ rfl _ rfl rfl fun x y hL _ hD => ⟨hD.1 rfl, hD.2.1 rfl⟩,
          ok_assign (.inl rfl) _ rfl _ rfl rfl fun x y hL _ hD => hD.1 rfl, trivial⟩
  · intro a' w' hL hB hV
    have h4 : a'.eval (.tmp 4) = .bool true := hV 18 (of_decide_eq_true (by kernel_rfl))
    refine (by assumption : ∀ (a : Act) (wx : World), Code.wp Tryd.prog Code.ret (bodyPost Tryd.prog Tryd.f4 (SumsPost w)) a wx → _) a' w' ?_
    exact law_end4 h4 hL.defers (HQ.out w' (of_drew hB))
end Go.Proofs.YtdkajbhhmgmohaaDoor
