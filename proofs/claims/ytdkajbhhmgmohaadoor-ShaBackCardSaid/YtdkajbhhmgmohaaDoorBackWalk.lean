/-
  The law ShaBack walked.
-/
import Derived.Test.YtdkajbhhmgmohaaDoorBack1
namespace Go.Proofs.YtdkajbhhmgmohaaDoor
open Go.RowKit Sha Inv
set_option maxRecDepth 100000 in
set_option maxHeartbeats 1000000 in
theorem back_law (d : List UInt8) (hd : d.length = 32) (s : List UInt8) (hs : s.length ≤ 9223372036854775807) (w : World) (hK : KAt w) (hH : HAt w) :
    Calls Tryd.prog 6 #[.agg (bcells d), .string ⟨s.toArray⟩] w (SumsPost w) := by
  have hK2 : 2 < w.heap.size := block_lt_of_cell (hK 0 (by omega))
  obtain ⟨m, hm⟩ : ∃ m, m = min s.length 100 := ⟨_, rfl⟩
  have hmi : min (s.length : Int) 100 = (m : Int) := by omega
  obtain ⟨t, ht⟩ : ∃ t, t = s.take m := ⟨_, rfl⟩
  have htl : t.length ≤ 100 := by rw [ht]; simp; omega
  have hsl : ∀ wx, (Instr.slice 9 (.string ⟨s.toArray⟩) none (some (.int .i64 (m : Int))) none).run Tryd.prog wx = .ok (.string ⟨t.toArray⟩) wx := fun wx => by
    rw [run_slice_string_to_if wx 9 _ .i64 _ Tryd.underlying9, if_pos ⟨by omega, by show (m : Int) ≤ (s.length : Nat); omega⟩]
    rw [Int.toNat_natCast, Go.ByteArray.extract_mk, ht]
    simp
  have hzs : (ByteArray.mk s.toArray).size = s.length := rfl
  clear ht hm
  generalize hS : ByteArray.mk s.toArray = S at *
  generalize hTT : ByteArray.mk t.toArray = TT at *
  have HT := Lib.hid hTT
  generalize s.length = sl at *
  clear hS hTT
  have HD := Lib.hid hd
  have HCS : Hid ((Tryd.prog.info? 24).map (·.size) = some (bcells d).size) := Lib.hid (by rw [bcells_size, hd]; exact size24)
  have HI : Hid ((Tryd.prog.info? 25).map (·.size) = some (bcells d).size) := Lib.hid (by rw [bcells_size, hd]; exact size25)
  have HO : Hid ((bcells (List.replicate 32 0)).size = (bcells d).size) := Lib.hid (by rw [bcells_size, bcells_size, hd]; rfl)
  have HPN := Lib.hid (parse_name d hd)
  have HPM := Lib.hid (parse_more d hd)
  have HPL := Lib.hid (parse_less d hd)
  have HNL := Lib.hid (name_length d hd)
  have hadd : ∀ w, (Op.stringOp .add ⟨(nameL d).toArray⟩ ⟨#[48]⟩).run Tryd.prog w = .ok (.string ⟨(nameL d ++ [48]).toArray⟩) w := fun w => run_string_add_lists w (nameL d) [48] (by rw [HNL.out]; omega) (by simp)
  have HEX : Hid ((ByteArray.mk (nameL d).toArray).extract 0 (max 70 0 : Int).toNat = ⟨((nameL d).take 70).toArray⟩) := Lib.hid (by rw [show (max 70 0 : Int).toNat = 70 from rfl, Go.ByteArray.extract_mk]; simp)
  have HEX2 : Hid ((ByteArray.mk (nameL d).toArray).extract (min 7 71 : Int).toNat 71 = ⟨(hexL d).toArray⟩) := Lib.hid (by rw [show (min 7 71 : Int).toNat = 7 from rfl, Go.ByteArray.extract_mk, nameL, pre_drop, List.take_of_length_le (by rw [hexL_length, hd]; decide)])
  have hadd2 : ∀ w, (Op.stringOp .add ⟨#[115, 104, 97, 50, 53, 54, 58]⟩ ⟨(upL d).toArray⟩).run Tryd.prog w = .ok (.string ⟨(preL ++ upL d).toArray⟩) w := fun w => run_string_add_lists w preL (upL d) (by decide) (by rw [upL_length d hd]; decide)
  have HUL := Lib.hid (upL_length d hd)
  clear hd
  have hz : (ByteArray.mk (nameL d).toArray).size = 71 := HNL.out
  generalize hBN : ByteArray.mk (nameL d).toArray = BN at *
  have HBN := Lib.hid hBN
  clear hBN
  obtain ⟨zl, hzl⟩ : ∃ zl, zl = bcells (List.replicate 32 0) := ⟨_, rfl⟩
  have HZ := Lib.hid hzl
  have HPV : Hid (pval none = .tuple #[.agg zl, .int .i64 5]) := Lib.hid (by rw [hzl]; exact pval_none)
  have HZI : Hid ((Tryd.prog.info? 25).map (·.size) = some zl.size) := Lib.hid (by rw [hzl]; exact HIz)
  have HZO : Hid ((bcells (List.replicate 32 0)).size = zl.size) := Lib.hid (by rw [hzl])
  have HZ1 : Hid (zl.all (·.oneCell') = true) := Lib.hid (by rw [hzl]; exact bcells_one _)
  clear hzl
  go_enter Tryd.func6, Tryd.ntmps6
  go_wp2_with (first | (refine wpList_load_row rfl 24 _ rfl (w.heap.size) rfl 24 (bcells d) (0, 0) _ (heap_alloc_new _ _) Tryd.underlying24 rfl HCS.out ?_) | fail)
  refine (name_walk d HD.out _).mono ?_
  rintro e w1 ⟨rfl, hb1⟩
  have hx1 : RowT 24 w1 w.heap.size d := (hb1.block w.heap.size (by simp)).trans (heap_alloc_new _ _)
  have hbel1 : Below w.heap.size w w1 := ((Below.refl _ _).alloc (Nat.le_refl _) _).trans (hb1.mono (by simp))
  clear hb1
  rw [HBN.out]
  go_wp2_with fail
  rw [← HBN.out]
  refine (parse_walk (nameL d) _ (by rw [HNL.out]; omega)).mono ?_
  rintro e w2 ⟨rfl, hb2⟩
  rw [HPN.out, pval_some, HBN.out]
  have hx2 : RowT 24 w2 w.heap.size d := hx1.below hb2 hx1.lt
  have hbel2 : Below w.heap.size w w2 := hbel1.trans (hb2.mono hbel1.size)
  clear hb2 hx1 hbel1
  go_wp2_with (refine wpList_store_rowX rfl 25 _ _ rfl w2.heap.size (bcells d) rfl rfl 25 (bcells (List.replicate 32 0)) (heap_alloc_new _ _) HI.out HO.out (bcells_one _) ?_; intro w3 hrow3 ho3 hs3)
  have hb23 : Below w2.heap.size w2 w3 := ((Below.refl _ _).alloc (Nat.le_refl _) _).trans (Below.of_only ho3 (Nat.le_refl _) (by simp))
  have hx3 : RowT 24 w3 w.heap.size d := hx2.below hb23 hx2.lt
  have hbel3 : Below w.heap.size w w3 := hbel2.trans (hb23.mono hbel2.size)
  obtain ⟨ge, hge⟩ : ∃ g, g = w2.heap.size := ⟨_, rfl⟩
  have he3 : RowT 25 w3 ge d := by rw [hge]; exact hrow3
  rw [← hge]
  clear hrow3 ho3 hs3 hb23 hx2 hbel2 hge
  refine (parse_walk (nameL d ++ [48]) _ (by rw [List.length_append, HNL.out]; decide)).mono ?_
  rintro e w4 ⟨rfl, hb4⟩
  rw [HPM.out, HPV.out]
  have hx4 : RowT 24 w4 w.heap.size d := hx3.below hb4 hx3.lt
  have he4 : RowT 25 w4 ge d := he3.below hb4 he3.lt
  have hbel4 : Below w.heap.size w w4 := hbel3.trans (hb4.mono hbel3.size)
  clear hb4 hx3 he3 hbel3 hadd
  go_wp2_with (refine wpList_store_rowX rfl 25 _ _ rfl w4.heap.size zl rfl rfl 25 (bcells (List.replicate 32 0)) (heap_alloc_new _ _) HZI.out HZO.out HZ1.out ?_; intro w5 hrow5 ho5 hs5)
  have hb45 : Below w4.heap.size w4 w5 := ((Below.refl _ _).alloc (Nat.le_refl _) _).trans (Below.of_only ho5 (Nat.le_refl _) (by simp))
  have hx5 : RowT 24 w5 w.heap.size d := hx4.below hb45 hx4.lt
  have he5 : RowT 25 w5 ge d := he4.below hb45 he4.lt
  have hbel5 : Below w.heap.size w w5 := hbel4.trans (hb45.mono hbel4.size)
  clear hrow5 ho5 hs5 hb45 hx4 he4 hbel4
  generalize w4.heap.size = g4
  rw [HEX.out]
  refine (parse_walk ((nameL d).take 70) _ (by rw [List.length_take, HNL.out]; decide)).mono ?_
  rintro e w6 ⟨rfl, hb6⟩
  rw [HPL.out, HPV.out]
  have hx6 : RowT 24 w6 w.heap.size d := hx5.below hb6 hx5.lt
  have he6 : RowT 25 w6 ge d := he5.below hb6 he5.lt
  have hbel6 : Below w.heap.size w w6 := hbel5.trans (hb6.mono hbel5.size)
  clear hb6 hx5 he5 hbel5
  go_wp2_with (refine wpList_store_rowX rfl 25 _ _ rfl w6.heap.size zl rfl rfl 25 (bcells (List.replicate 32 0)) (heap_alloc_new _ _) HZI.out HZO.out HZ1.out ?_; intro w7 hrow7 ho7 hs7)
  have hb67 : Below w6.heap.size w6 w7 := ((Below.refl _ _).alloc (Nat.le_refl _) _).trans (Below.of_only ho7 (Nat.le_refl _) (by simp))
  have hx7 : RowT 24 w7 w.heap.size d := hx6.below hb67 hx6.lt
  have he7 : RowT 25 w7 ge d := he6.below hb67 he6.lt
  have hbel7 : Below w.heap.size w w7 := hbel6.trans (hb67.mono hbel6.size)
  clear hrow7 ho7 hs7 hb67 hx6 he6 hbel6
  generalize w6.heap.size = g6
  rw [← HBN.out]
  refine (up_walk d HD.out _).mono ?_
  rintro e w8 ⟨rfl, hb8⟩
  rw [HBN.out]
  have hx8 : RowT 24 w8 w.heap.size d := hx7.below hb8 hx7.lt
  have he8 : RowT 25 w8 ge d := he7.below hb8 he7.lt
  have hbel8 : Below w.heap.size w w8 := hbel7.trans (hb8.mono hbel7.size)
  clear hb8 hx7 he7 hbel7
  go_wp2_with fail
  refine (trim_walk d _).mono ?_
  rintro e w9 ⟨rfl, rfl⟩
  go_wp2_with fail
  refine (parse_walk (preL ++ upL d) _ (by rw [List.length_append, HUL.out]; decide)).mono ?_
  rintro e w10 ⟨rfl, hb10⟩
  obtain ⟨A, E, hAl, hAE, hCE⟩ := up_told d HD.out
  have HIA : Hid ((Tryd.prog.info? 25).map (·.size) = some (bcells A).size) := Lib.hid (by rw [bcells_size, hAl]; exact size25)
  have HOA : Hid ((bcells (List.replicate 32 0)).size = (bcells A).size) := Lib.hid (by rw [bcells_size, bcells_size, hAl]; rfl)
  have HCE := Lib.hid hCE
  rw [hAE]
  have hx10 : RowT 24 w10 w.heap.size d := hx8.below hb10 hx8.lt
  have he10 : RowT 25 w10 ge d := he8.below hb10 he8.lt
  have hbel10 : Below w.heap.size w w10 := hbel8.trans (hb10.mono hbel8.size)
  clear hb10 hx8 he8 hbel8 hAl hAE hCE hadd2
  have hgd25 : Tryd.prog.eqGuardType Tryd.prog.depth 25 = false := by kernel_rfl
  have hs25 := same25 d HD.out
  go_wp2_with (first
    | (refine wpList_store_rowX rfl 25 _ _ rfl w10.heap.size (bcells A) rfl rfl 25 (bcells (List.replicate 32 0)) (heap_alloc_new _ _) HIA.out HOA.out (bcells_one _) ?_
       intro w11 hrow11 ho11 hs11
       have hb1011 : Below w10.heap.size w10 w11 := ((Below.refl _ _).alloc (Nat.le_refl _) _).trans (Below.of_only ho11 (Nat.le_refl _) (by simp))
       have hx11 : RowT 24 w11 w.heap.size d := hx10.below hb1011 hx10.lt
       have he11 : RowT 25 w11 ge d := he10.below hb1011 he10.lt
       have hbel11 : Below w.heap.size w w11 := hbel10.trans (hb1011.mono hbel10.size)
       clear hrow11 ho11 hs11 hb1011 hx10 he10 hbel10
       generalize w10.heap.size = g10)
    | (refine wpList_load_rowG rfl 25 _ rfl ge rfl 25 (bcells d) (0, 0) _ he11 Tryd.underlying25 rfl HI.out ?_)
    | (refine wpList_load_rowG rfl 24 _ rfl w.heap.size rfl 24 (bcells d) (0, 0) _ hx11 Tryd.underlying24 rfl HCS.out ?_))
  rw [← HBN.out]
  refine (low_walk d HD.out _).mono ?_
  rintro e w12 ⟨rfl, hb12⟩
  rw [HBN.out]
  have hbel12 : Below w.heap.size w w12 := hbel11.trans (hb12.mono hbel11.size)
  clear hb12 hx11 he11 hbel11
  go_wp2_with fail
  rw [HEX2.out]
  refine (any_walk d HD.out _).mono ?_
  rintro e w13 ⟨rfl, hb13⟩
  have hbel13 : Below w.heap.size w w13 := hbel12.trans (hb13.mono hbel12.size)
  clear hb13 hbel12 hgd25 hs25
  have hCE := HCE.out
  generalize Lib.containsAny (hexL d) abcL = C at *
  clear HCE HEX HEX2 HPN HPM HPL HNL HUL HBN HI HO HCS HIA HOA
  rcases hCE with ⟨rfl, rfl⟩ | ⟨rfl, rfl⟩
  all_goals
    go_wp2_with fail
    rw [← HT.out]
    refine (parse_walk t _ htl).mono ?_
    rintro e w14 ⟨rfl, hb14⟩
    have hbel14 : Below w.heap.size w w14 := hbel13.trans (hb14.mono hbel13.size)
    clear hb14 hbel13
    rcases parse_back t with hp | ⟨a, hp, hna, hal⟩
    · rw [hp, HPV.out, HT.out]
      have hgd25 : Tryd.prog.eqGuardType Tryd.prog.depth 25 = false := by kernel_rfl
      have hs25 := same25 (List.replicate 32 0) (by simp)
      rw [← HZ.out] at hs25
      go_wp2_with (first
        | (refine wpList_store_rowX rfl 25 _ _ rfl w14.heap.size zl rfl rfl 25 (bcells (List.replicate 32 0)) (heap_alloc_new _ _) HZI.out HZO.out HZ1.out ?_
           intro w15 hrow15 ho15 hs15
           have hbel15 : Below w.heap.size w w15 := hbel14.trans ((((Below.refl _ _).alloc (Nat.le_refl _) _).trans (Below.of_only ho15 (Nat.le_refl _) (by simp))).mono hbel14.size)
           clear ho15 hs15)
        | (refine wpList_load_rowG rfl 25 _ rfl w14.heap.size rfl 25 zl (0, 0) _ hrow15 Tryd.underlying25 rfl HZI.out ?_)
        | (refine wpList_buildXG rfl 25 _ rfl zl (by rw [HZ.out]; kernel_rfl) ?_))
      refine (wakes_walk w15 (hK.below hbel15 hK2) (hH.below hbel15 (by omega))).mono ?_
      rintro e w16 ⟨rfl, hb16⟩
      go_wp2_with fail
      go_ret
      exact ⟨rfl, hbel15.trans (hb16.mono hbel15.size)⟩
    · rw [hp, pval_some, HT.out]
      have HIa : Hid ((Tryd.prog.info? 25).map (·.size) = some (bcells a).size) := Lib.hid (by rw [bcells_size, hal]; exact size25)
      have HOa : Hid ((bcells (List.replicate 32 0)).size = (bcells a).size) := Lib.hid (by rw [bcells_size, bcells_size, hal]; rfl)
      have HTa : Hid (ByteArray.mk (nameL a).toArray = TT) := Lib.hid (by rw [hna]; exact HT.out)
      have HAl := Lib.hid hal
      clear hp hna hal
      go_wp2_with (first
        | (refine wpList_store_rowX rfl 25 _ _ rfl w14.heap.size (bcells a) rfl rfl 25 (bcells (List.replicate 32 0)) (heap_alloc_new _ _) HIa.out HOa.out (bcells_one _) ?_
           intro w15 hrow15 ho15 hs15
           have hbel15 : Below w.heap.size w w15 := hbel14.trans ((((Below.refl _ _).alloc (Nat.le_refl _) _).trans (Below.of_only ho15 (Nat.le_refl _) (by simp))).mono hbel14.size)
           clear ho15 hs15)
        | (refine wpList_load_rowG rfl 25 _ rfl w14.heap.size rfl 25 (bcells a) (0, 0) _ hrow15 Tryd.underlying25 rfl HIa.out ?_))
      refine (name_walk a HAl.out _).mono ?_
      rintro e w16 ⟨rfl, hb16⟩
      rw [HTa.out]
      have hbel16 : Below w.heap.size w w16 := hbel15.trans (hb16.mono hbel15.size)
      clear hb16 hbel15 hrow15
      go_wp2_with fail
      refine (wakes_walk w16 (hK.below hbel16 hK2) (hH.below hbel16 (by omega))).mono ?_
      rintro e w17 ⟨rfl, hb17⟩
      go_wp2_with fail
      go_ret
      exact ⟨rfl, hbel16.trans (hb17.mono hbel16.size)⟩
end Go.Proofs.YtdkajbhhmgmohaaDoor
