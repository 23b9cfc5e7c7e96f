/-
  The law: a size counts itself: the walk.
-/
import Derived.Test.YtkbgkhkkmclfgaaDoorPsa
namespace Go.Proofs.YtkbgkhkkmclfgaaDoor
open Go.RowKit Go.Maps

set_option maxRecDepth 100000 in
set_option maxHeartbeats 4000000 in
theorem self_walk (w : World) (s v : List UInt8) (hs : s.length ≤ maxLen) (hv : v.length ≤ maxLen) (hP : PxAt w) : Calls Tryd.prog 7 #[.string ⟨s.toArray⟩, .string ⟨v.toArray⟩] w (TellsPost w) := by
  unfold maxLen at hs hv
  have hcut := cutN s 255
  have hcutv := cutN v 20000
  have hsz : (⟨s.toArray⟩ : ByteArray).size = s.length := by simp [ByteArray.size]
  have hvz : (⟨v.toArray⟩ : ByteArray).size = v.length := by simp [ByteArray.size]
  obtain ⟨bs, hbs⟩ : ∃ bs, (⟨s.toArray⟩ : ByteArray) = bs := ⟨_, rfl⟩
  obtain ⟨bv, hbv⟩ : ∃ bs, (⟨v.toArray⟩ : ByteArray) = bs := ⟨_, rfl⟩
  rw [hbs] at hsz hcut ⊢
  rw [hbv] at hvz hcutv ⊢
  have hs2 : (bs.size : Int) ≤ 9223372036854775807 := by omega
  have hv2 : (bv.size : Int) ≤ 9223372036854775807 := by omega
  have hx6 : (s.take 255).length ≤ 255 := List.length_take_le _ _
  have hy6 : (v.take 20000).length ≤ 20000 := List.length_take_le _ _
  obtain ⟨k, hk⟩ : ∃ x, s.take 255 = x := ⟨_, rfl⟩
  obtain ⟨z, hz⟩ : ∃ x, v.take 20000 = x := ⟨_, rfl⟩
  rw [hk] at hx6 hcut
  rw [hz] at hy6 hcutv
  have hcut1 : bs.extract 0 (min (bs.size : Int) 255).toNat = ⟨k.toArray⟩ := hcut
  have hcut2 : bv.extract 0 (min (bv.size : Int) 20000).toNat = ⟨z.toArray⟩ := hcutv
  obtain ⟨bk, hbk⟩ : ∃ b, (⟨k.toArray⟩ : ByteArray) = b := ⟨_, rfl⟩
  obtain ⟨bz, hbz⟩ : ∃ b, (⟨z.toArray⟩ : ByteArray) = b := ⟨_, rfl⟩
  rw [hbk] at hcut1
  rw [hbz] at hcut2
  have hkz : bk.size = k.length := by rw [← hbk]; simp [ByteArray.size]
  have hzz : bz.size = z.length := by rw [← hbz]; simp [ByteArray.size]
  have HP := Lib.hid hP
  have ks := conv_str
  have HB0 : Hid (Below w.heap.size w (Lib.bytesWorld w 5 bk)) := Lib.hid (conv_below w bk)
  have HO0 : Hid (OwnG w.heap.size w.heap.size (grownCap w bk.size 0 5) (Lib.bytesWorld w 5 bk) (fxk k 0)) := Lib.hid (by
    have h := OwnG.conv w bk k (by rw [← hbk]) (by omega)
    have e : fxk k 0 = k := by simp [fxk]
    rw [e]; exact h)
  obtain ⟨cp, hcp⟩ : ∃ c, grownCap w bk.size 0 5 = c := ⟨_, rfl⟩
  rw [hcp] at HO0
  have ks1 : (convert 9 26 (.string bk)).run Tryd.prog w = .ok (.slice (some ⟨w.heap.size, 0, none⟩) bk.size cp) (Lib.bytesWorld w 5 bk) := by rw [← hcp]; exact conv_str bk w
  have hcple : (bk.size : Int) ≤ (cp : Int) := by rw [← hcp]; have := grownCap_ge w bk.size 0 5; omega
  have HSZ : Hid (bk.size = k.length ∧ k.length ≤ 255) := Lib.hid ⟨hkz, hx6⟩
  have hkI : (bk.size : Int) ≤ 255 := by omega
  have hzI : (bz.size : Int) ≤ 20000 := by omega
  have HZZ : Hid (bz.size = z.length ∧ z.length ≤ 20000) := Lib.hid ⟨hzz, hy6⟩
  have HBZ := Lib.hid hbz
  have HW : Hid (∀ w1, Below w.heap.size w w1 → Calls Tryd.prog 17 #[] w1 (TellsPost w)) := Lib.hid (fun w1 hb =>
    (tells_walk w1 (hP.below hb (Nat.le_refl _))).mono fun _ _ ⟨h1, h2⟩ => ⟨h1, hb.trans (h2.mono hb.size)⟩)
  have HSN : Hid (∀ w1, Below w.heap.size w w1 → Calls Tryd.prog 15 #[.agg #[.string ⟨#[]⟩, .string bv]] w1 fun e w' => e = .returned (.int .i64 0) ∧ Below w.heap.size w w') := Lib.hid (fun w1 hb =>
    (size_none bv w1).mono fun _ _ ⟨h1, h2⟩ => ⟨h1, hb.trans (h2.mono hb.size)⟩)
  clear hcut hcutv hsz hvz hbs hbv hs hv hk hz hx6 hy6 hbk hbz hkz hzz hP ks hcp
  go_enter Tryd.func7, Tryd.ntmps7
  go_wp2_with fail
  go_loopw [6, 17] (fun _ i wr => ∃ j : Nat, j ≤ bk.size ∧ i = .int .i64 (j : Int) ∧ OwnG w.heap.size w.heap.size cp wr (fxk k j) ∧ Below w.heap.size w wr) (fun _ i _ => bk.size - (intOf i).toNat)
  case atStart => exact ⟨0, Nat.zero_le _, rfl, HO0.out, HB0.out⟩
  case round =>
    clear HO0 HB0 ks1
    obtain ⟨j, hj, rfl, ho, hb⟩ := hrel
    have HO := Lib.hid ho
    have HB := Lib.hid hb
    by_cases hjk : j < bk.size
    · have hjl : j < k.length := by have := HSZ.out.1; omega
      have hc := ho.cell j (by rw [fxk_length]; exact hjl)
      have hf := ho.free j (by rw [fxk_length]; exact hjl)
      have hat : (fxk k j).getD j 0 = k[j] := fxk_at k j hjl
      rw [hat] at hc
      have HST := Lib.hid (fxk_step k j hjl)
      have HSM := Lib.hid (fxk_same k j hjl)
      have HS2 := Lib.hid (ho.set j 120)
      have hjI : (j : Int) < (bk.size : Int) := by omega
      obtain ⟨x, hx⟩ : ∃ x, k[j] = x := ⟨_, rfl⟩
      rw [hx] at hc HST HSM
      clear ho hb hat hx hjl
      have h120 : Hid (fxc x = 120 → OwnG w.heap.size w.heap.size cp (wr.setCell ⟨w.heap.size, j, none⟩ (.int .u8 120)) (fxk k (j + 1))) := Lib.hid (fun h => by
        have h9 := HS2.out
        rw [← h, HST.out] at h9
        rw [h] at h9
        exact h9)
      by_cases h0 : x = 0
      · subst h0
        have hc0 : wr.cell? ⟨w.heap.size, j, none⟩ = some (.int .u8 0) := hc
        clear hc
        go_wp2_with fail
        exact ⟨⟨j + 1, hjk, by go_num, h120.out (by decide), HB.out.setCell (Nat.le_refl _) _⟩, by simp only [intOf]; omega⟩
      · by_cases h61 : x = 61
        · subst h61
          have hc0 : wr.cell? ⟨w.heap.size, j, none⟩ = some (.int .u8 61) := hc
          clear hc h0
          go_wp2_with fail
          exact ⟨⟨j + 1, hjk, by go_num, h120.out (by decide), HB.out.setCell (Nat.le_refl _) _⟩, by simp only [intOf]; omega⟩
        · by_cases h10 : x = 10
          · subst h10
            have hc0 : wr.cell? ⟨w.heap.size, j, none⟩ = some (.int .u8 10) := hc
            clear hc h0 h61
            go_wp2_with fail
            exact ⟨⟨j + 1, hjk, by go_num, h120.out (by decide), HB.out.setCell (Nat.le_refl _) _⟩, by simp only [intOf]; omega⟩
          · have b0 : (bi x == 0) = false := by rw [beq_eq_false_iff_ne]; intro h; exact h0 (bi_inj.1 (h.trans (by decide)))
            have b1 : (bi x == 61) = false := by rw [beq_eq_false_iff_ne]; intro h; exact h61 (bi_inj.1 (h.trans (by decide)))
            have b2 : (bi x == 10) = false := by rw [beq_eq_false_iff_ne]; intro h; exact h10 (bi_inj.1 (h.trans (by decide)))
            have hok : Px.okB x = true := by unfold Px.okB; simp [h0, h61, h10]
            have HOK := Lib.hid hok
            clear h0 h61 h10 hok h120
            go_wp2_with fail
            exact ⟨⟨j + 1, hjk, by go_num, by rw [← HSM.out HOK.out]; exact HO.out, HB.out⟩, by simp only [intOf]; omega⟩
    · obtain rfl : j = bk.size := by omega
      clear hjk hj ho hb
      by_cases hk0 : bk.size = 0
      · have hkb : ((bk.size : Int) == 0) = true := by rw [beq_iff_eq]; omega
        have HC := Lib.hid (HSN.out wr HB.out)
        clear hk0
        go_wp2_with (first
          | ((with_reducible refine HC.out.mono ?_); rintro e w1 ⟨rfl, hb⟩; have HC2 := Lib.hid (HW.out w1 hb); clear hb)
          | ((with_reducible refine HC2.out.mono ?_); rintro e w2 ⟨rfl, hb⟩; have HB2 := Lib.hid hb; clear hb))
        go_ret
        exact ⟨rfl, HB2.out⟩
      · have hkb : ((bk.size : Int) == 0) = false := by rw [beq_eq_false_iff_ne]; omega
        obtain ⟨K, hK⟩ : ∃ K, fxk k bk.size = K := ⟨_, rfl⟩
        have hKl : K.length = bk.size := by rw [← hK, fxk_length]; exact HSZ.out.1.symm
        have hKok : Px.okK K = true := by
          rw [← hK, HSZ.out.1]
          exact fxk_ok k (by intro h; have := HSZ.out.1; rw [h] at this; exact hk0 this) HSZ.out.2
        rw [hK] at HO
        obtain ⟨bK, hbK⟩ : ∃ b, (⟨K.toArray⟩ : ByteArray) = b := ⟨_, rfl⟩
        obtain ⟨by', hby⟩ : ∃ b, (⟨(z ++ [121]).toArray⟩ : ByteArray) = b := ⟨_, rfl⟩
        have hcat : bz ++ (⟨#[121]⟩ : ByteArray) = by' := by
          rw [← hby, ← HBZ.out]
          apply ByteArray.ext
          rw [ByteArray.data_append]
          simp
        have HCV : Hid (∀ w1, Below wr.heap.size wr w1 → (convert 26 9 (.slice (some ⟨w.heap.size, 0, none⟩) bk.size cp)).run Tryd.prog w1 = .ok (.string bK) w1) := Lib.hid (fun w1 hb => by
          have h := run_toString (HO.out.later hb (Nat.le_refl _)).toV
          rw [hKl, hbK] at h
          exact h)
        have HS1 : Hid (∀ w1, Below w.heap.size w w1 → Calls Tryd.prog 15 #[.agg #[.string bK, .string bz]] w1 fun e w' => e = .returned (.int .i64 (Px.sz (K, z) : Int)) ∧ Below w1.heap.size w1 w') := Lib.hid (fun w1 hb => by
          have := size_walk (K, z) w1 (by have := HZZ.out.2; show z.length ≤ _; omega) (HP.out.below hb (Nat.le_refl _))
          rw [← hbK, ← HBZ.out]
          exact this)
        have HS2 : Hid (∀ w1, Below w.heap.size w w1 → Calls Tryd.prog 15 #[.agg #[.string bK, .string by']] w1 fun e w' => e = .returned (.int .i64 (Px.sz (K, z ++ [121]) : Int)) ∧ Below w1.heap.size w1 w') := Lib.hid (fun w1 hb => by
          have := size_walk (K, z ++ [121]) w1 (by have := HZZ.out.2; show (z ++ [121]).length ≤ _; simp; omega) (HP.out.below hb (Nat.le_refl _))
          rw [← hbK, ← hby]
          exact this)
        have hfix := Px.sz_fix (r := (K, z)) hKok
        have hmore : Px.sz (K, z ++ [121]) = Px.sz (K, z) + 1 ∨ Px.sz (K, z ++ [121]) = Px.sz (K, z) + 2 := by
          rw [Px.sz_ok (r := (K, z ++ [121])) hKok, Px.sz_ok (r := (K, z)) hKok]
          have := Px.wd_more (K.length + z.length + 3)
          have e : ((K, z ++ [121]) : Px.Rec).1.length + ((K, z ++ [121]) : Px.Rec).2.length + 3 = K.length + z.length + 3 + 1 := by simp; omega
          rw [e]
          exact this
        obtain ⟨q, hq⟩ : ∃ q, Px.sz (K, z) = q := ⟨_, rfl⟩
        rw [hq] at HS1 hfix hmore
        have hqle : q ≤ 100000 := by
          have h1 := sz_le (K, z) (by have := HZZ.out.2; show z.length ≤ _; omega)
          have h2 : Lib.nDigits q ≤ 20 := Px.dg_lt (k := 19) (by rw [hq] at h1; omega)
          have := HZZ.out.2; have := HSZ.out
          simp only at hfix
          omega
        have HT : Hid (∀ w1, Below w.heap.size w w1 → Calls Tryd.prog 23 #[.int .i64 (q : Int)] w1 fun e w' => e = .returned (.string ⟨(Lib.decDigits q).toArray⟩) ∧ Below w1.heap.size w1 w') := Lib.hid (fun w1 hb => by
          have := text_walk w1 q (by omega) (by omega) (HP.out.below hb (Nat.le_refl _))
          rw [itoa_nat] at this
          exact this)
        obtain ⟨bt, hbt⟩ : ∃ b, (⟨(Lib.decDigits q).toArray⟩ : ByteArray) = b := ⟨_, rfl⟩
        have hbtz : bt.size = Lib.nDigits q := by rw [← hbt, ← Px.dec_len]; simp [ByteArray.size]
        rw [hbt] at HT
        have htI : (bt.size : Int) ≤ 100000 := by omega
        have hqe : ((q : Int) == (bt.size : Int) + 1 + (bk.size : Int) + 1 + (bz.size : Int) + 1) = true := by
          rw [beq_iff_eq]
          have := HZZ.out.1
          simp only at hfix
          omega
        have hqI : (q : Int) ≤ 100000 := by omega
        have hcv0 := HCV.out wr (Below.refl _ _)
        have HC1 := Lib.hid (HS1.out wr HB.out)
        rcases hmore with hm | hm
        · rw [hm] at HS2
          have hd : (((q + 1 : Nat) : Int) - (q : Int)) = 1 := by omega
          have hu : ((q + 1 : Nat) : Int) ≤ 100002 := by omega
          clear hK hKl hKok hfix hm hq hbK hby hbt hbtz hk0 hqle
          generalize q + 1 = q2 at *
          go_wp2_with (first
            | ((with_reducible refine HC1.out.mono ?_); rintro e w1 ⟨rfl, hb⟩; have HB1 := Lib.hid (HB.out.trans (hb.mono HB.out.size)); have hcv1 := HCV.out w1 hb; have HC2 := Lib.hid (HS2.out w1 HB1.out); clear hcv0 hb)
            | ((with_reducible refine HC2.out.mono ?_); rintro e w2 ⟨rfl, hb⟩; have HB2 := Lib.hid (HB1.out.trans (hb.mono HB1.out.size)); have HC3 := Lib.hid (HT.out w2 HB2.out); clear hcv1 hb)
            | ((with_reducible refine HC3.out.mono ?_); rintro e w3 ⟨rfl, hb⟩; have HC4 := Lib.hid (HW.out w3 (HB2.out.trans (hb.mono HB2.out.size))); clear hb)
            | ((with_reducible refine HC4.out.mono ?_); rintro e w4 ⟨rfl, hb⟩; have HBZ4 := Lib.hid hb; clear hb))
          go_ret
          exact ⟨rfl, HBZ4.out⟩
        · rw [hm] at HS2
          have hd : (((q + 2 : Nat) : Int) - (q : Int)) = 2 := by omega
          have hu : ((q + 2 : Nat) : Int) ≤ 100002 := by omega
          clear hK hKl hKok hfix hm hq hbK hby hbt hbtz hk0 hqle
          generalize q + 2 = q2 at *
          go_wp2_with (first
            | ((with_reducible refine HC1.out.mono ?_); rintro e w1 ⟨rfl, hb⟩; have HB1 := Lib.hid (HB.out.trans (hb.mono HB.out.size)); have hcv1 := HCV.out w1 hb; have HC2 := Lib.hid (HS2.out w1 HB1.out); clear hcv0 hb)
            | ((with_reducible refine HC2.out.mono ?_); rintro e w2 ⟨rfl, hb⟩; have HB2 := Lib.hid (HB1.out.trans (hb.mono HB1.out.size)); have HC3 := Lib.hid (HT.out w2 HB2.out); clear hcv1 hb)
            | ((with_reducible refine HC3.out.mono ?_); rintro e w3 ⟨rfl, hb⟩; have HC4 := Lib.hid (HW.out w3 (HB2.out.trans (hb.mono HB2.out.size))); clear hb)
            | ((with_reducible refine HC4.out.mono ?_); rintro e w4 ⟨rfl, hb⟩; have HBZ4 := Lib.hid hb; clear hb))
          go_ret
          exact ⟨rfl, HBZ4.out⟩
end Go.Proofs.YtkbgkhkkmclfgaaDoor
