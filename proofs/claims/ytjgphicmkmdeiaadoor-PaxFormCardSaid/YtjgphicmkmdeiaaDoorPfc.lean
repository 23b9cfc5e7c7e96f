/-
  The document's own Size and Last.
-/
import Derived.Test.YtjgphicmkmdeiaaDoorPgb
import Derived.Test.YtjgphicmkmdeiaaDoorPyc
namespace Go.Proofs.YtjgphicmkmdeiaaDoor
open Go.RowKit Go.Maps

set_option maxRecDepth 100000 in
set_option maxHeartbeats 2000000 in
theorem rsize_walk (r : Px.Rec) (w : World) (hk : r.1.length ≤ 100000) (hv : r.2.length ≤ 100000) : Calls Tryd.prog 16 #[.agg #[.string ⟨r.1.toArray⟩, .string ⟨r.2.toArray⟩]] w fun e w' =>
    e = .returned (.int .i64 (Px.sz r : Int)) ∧ Below w.heap.size w w' := by
  obtain ⟨k, v⟩ := r
  simp only at hk hv ⊢
  obtain ⟨bk, hbk⟩ : ∃ x, (⟨k.toArray⟩ : ByteArray) = x := ⟨_, rfl⟩
  obtain ⟨bv, hbv⟩ : ∃ x, (⟨v.toArray⟩ : ByteArray) = x := ⟨_, rfl⟩
  have hkz : bk.size = k.length := by rw [← hbk]; simp [ByteArray.size]
  have hvz : bv.size = v.length := by rw [← hbv]; simp [ByteArray.size]
  have hbl : (bk.toList == []) = k.isEmpty := by
    rw [Lib.toList_data, ← hbk]
    cases k <;> rfl
  rw [hbk, hbv]
  have hA : Below w.heap.size w (w.alloc (.cells #[.string bk, .string bv] 39)) := (Below.refl _ _).alloc (Nat.le_refl _) _
  have HA := Lib.hid hA
  have HK := Lib.hid (letters_walk (w.alloc (.cells #[.string bk, .string bv] 39)) k bk (by rw [← hbk]) hk)
  have hE : Px.okK k = (!k.isEmpty && (k.all Px.okB && decide (k.length ≤ 255))) := by
    unfold Px.okK; rw [Bool.and_comm (decide _)]
  have hS : Px.sz (k, v) = if Px.okK k then Px.wd (k.length + v.length + 3) else 0 := rfl
  rw [hS, hE]
  cases he : k.isEmpty with
  | true =>
    rw [he] at hbl
    simp only [Bool.not_true, Bool.false_and, Bool.false_eq_true, if_false]
    clear hA hE hS hbk hbv hkz hvz hk hv HK he
    go_enter Tryd.func16, Tryd.ntmps16
    go_wp2_with fail
    go_ret
    exact ⟨rfl, HA.out⟩
  | false =>
    rw [he] at hbl
    simp only [Bool.not_false, Bool.true_and]
    cases hl : (k.all Px.okB && decide (k.length ≤ 255)) with
    | false =>
      rw [hl] at HK
      simp only [Bool.false_eq_true, if_false]
      clear hA hE hS hbk hbv hkz hvz hk hv he hl
      go_enter Tryd.func16, Tryd.ntmps16
      go_wp2_with ((with_reducible refine HK.out.mono ?_); rintro e w1 ⟨rfl, hb⟩; have HB1 := Lib.hid hb; clear hb)
      go_ret
      exact ⟨rfl, by rw [HB1.out]; exact HA.out⟩
    | true =>
      rw [hl] at HK
      simp only [if_true]
      obtain ⟨o, ho⟩ : ∃ o, k.length + v.length + 3 = o := ⟨_, rfl⟩
      rw [ho]
      have hoI : (bk.size : Int) + (bv.size : Int) + 3 = (o : Int) := by omega
      have h1 : (bk.size : Int) ≤ 100000 := by omega
      have h2 : (bv.size : Int) ≤ 100000 := by omega
      have hoM : (o : Int) ≤ 300000 := by omega
      obtain ⟨W, hW⟩ : ∃ W, Px.wd o = W := ⟨_, rfl⟩
      have hW2 : W ≤ 400000 := by
        have h3 : Lib.nDigits (o + Lib.nDigits o) ≤ 20 := Px.dg_lt (k := 19) (by have : Lib.nDigits o ≤ 20 := Px.dg_lt (k := 19) (by omega); omega)
        rw [← hW]; unfold Px.wd; omega
      have HFX : Hid (W = o + Lib.nDigits W) := Lib.hid (by rw [← hW]; exact Px.wd_fix o)
      have HLE : Hid (∀ n, n = o + Lib.nDigits n → W ≤ n) := Lib.hid (fun n hn => by rw [← hW]; exact Px.wd_least hn)
      rw [hW]
      clear hA hE hS hbk hbv hkz hvz hk hv he hl ho hW
      go_enter Tryd.func16, Tryd.ntmps16
      go_wp2_with ((with_reducible refine HK.out.mono ?_); rintro e w1 ⟨rfl, hb⟩; subst hb; have HH1 : Hid ((w.alloc (.cells #[.string bk, .string bv] 39)).heap[w.heap.size]? = some (.cells #[.string bk, .string bv] 39 (0, 0))) := Lib.hid (heap_alloc_new w _))
      go_loopw [4] (fun i wr => ∃ n : Nat, n ≤ W ∧ i = .int .i64 (n : Int) ∧ Below w.heap.size w wr) (fun i _ => W - (intOf i).toNat)
      case atStart => exact ⟨0, Nat.zero_le _, rfl, HA.out⟩
      case round =>
        obtain ⟨n, hn, rfl, hb⟩ := hrel
        have HB := Lib.hid hb
        have HD := Lib.hid (rdigits_walk wr n (by omega))
        obtain ⟨bd, hbd⟩ : ∃ x, (⟨(Lib.decDigits n).toArray⟩ : ByteArray) = x := ⟨_, rfl⟩
        obtain ⟨d, hd⟩ : ∃ d, Lib.nDigits n = d := ⟨_, rfl⟩
        have hdz : (bd.size : Int) = (d : Int) := by rw [← hbd, ← hd, ← Px.dec_len]; simp [ByteArray.size]
        have hd20 : (d : Int) ≤ 20 := by
          have : Lib.nDigits n ≤ 20 := Px.dg_lt (k := 19) (by omega)
          omega
        rw [hbd] at HD
        have hnI : (n : Int) ≤ 400000 := by omega
        have hu : IntKind.u64.wrap (n : Int) = (n : Int) := by rw [IntKind.wrap_u64]; omega
        have HN := Lib.hid hn
        have HD2 := Lib.hid hd
        clear hb hbd hn hd
        by_cases hfx : n = o + d
        · have hq : (n : Int) = (o : Int) + (d : Int) := by omega
          have hq2 : ((n : Int) == (o : Int) + (d : Int)) = true := by rw [beq_iff_eq]; exact hq
          have HW : Hid (n = W) := Lib.hid (Nat.le_antisymm HN.out (HLE.out n (by rw [HD2.out]; exact hfx)))
          have HQ := Lib.hid hq
          clear hfx hq
          go_wp2_with ((with_reducible refine HD.out.mono ?_); rintro e w1 ⟨rfl, hb⟩; have HB1 : Hid (Below w.heap.size w w1) := Lib.hid (HB.out.trans (hb.mono HB.out.size)); clear hb)
          go_ret
          exact ⟨by rw [HW.out]; rfl, HB1.out⟩
        · have hq2 : ((n : Int) == (o : Int) + (d : Int)) = false := by rw [beq_eq_false_iff_ne]; omega
          have HW : Hid (n < W) := Lib.hid (by
            rcases Nat.lt_or_ge n W with h | h
            · exact h
            · exfalso
              have h2 : n = W := Nat.le_antisymm HN.out h
              have h3 := HFX.out
              rw [← h2, HD2.out] at h3
              exact hfx h3)
          clear hfx
          go_wp2_with ((with_reducible refine HD.out.mono ?_); rintro e w1 ⟨rfl, hb⟩; have HB1 : Hid (Below w.heap.size w w1) := Lib.hid (HB.out.trans (hb.mono HB.out.size)); clear hb)
          refine ⟨⟨n + 1, HW.out, by go_num, HB1.out⟩, ?_⟩
          have := HW.out
          simp only [intOf]; omega
end Go.Proofs.YtjgphicmkmdeiaaDoor
