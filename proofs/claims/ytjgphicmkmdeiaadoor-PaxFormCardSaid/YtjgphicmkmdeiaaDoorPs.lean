/-
  Size, lay, Put.
-/
import Derived.Test.YtjgphicmkmdeiaaDoorPh
namespace Go.Proofs.YtjgphicmkmdeiaaDoor
open Go.RowKit Go.Maps

set_option maxRecDepth 100000 in
set_option maxHeartbeats 2000000 in
theorem size_walk (r : Px.Rec) (w : World) (hv : r.2.length ≤ 1099511000000) (hP : PxAt w) : Calls Tryd.prog 15 #[.agg #[.string ⟨r.1.toArray⟩, .string ⟨r.2.toArray⟩]] w fun e w' =>
    e = .returned (.int .i64 (Px.sz r : Int)) ∧ Below w.heap.size w w' := by
  obtain ⟨k, v⟩ := r
  simp only at hv ⊢
  obtain ⟨bk, hbk⟩ : ∃ x, (⟨k.toArray⟩ : ByteArray) = x := ⟨_, rfl⟩
  obtain ⟨bv, hbv⟩ : ∃ x, (⟨v.toArray⟩ : ByteArray) = x := ⟨_, rfl⟩
  have hkz : bk.size = k.length := by rw [← hbk]; simp [ByteArray.size]
  have hvz : bv.size = v.length := by rw [← hbv]; simp [ByteArray.size]
  rw [hbk, hbv]
  have hA : Below w.heap.size w (w.alloc (.cells #[.string bk, .string bv] 37)) := (Below.refl _ _).alloc (Nat.le_refl _) _
  have HA := Lib.hid hA
  have HP := Lib.hid hP
  have HK := Lib.hid (isKey_walk k bk (by rw [← hbk]) (w.alloc (.cells #[.string bk, .string bv] 37)))
  have hE : Px.sz (k, v) = if Px.okK k then Px.wd (k.length + v.length + 3) else 0 := rfl
  rw [hE]
  cases hk : Px.okK k
  · rw [if_neg (by simp)]
    rw [hk] at HK
    clear hA hP hE hk hbk hbv hkz hvz hv
    go_enter Tryd.func15, Tryd.ntmps15
    go_wp2_with ((with_reducible refine HK.out.mono ?_); rintro e w1 ⟨rfl, hb⟩; have HB1 : Hid (Below w.heap.size w w1) := Lib.hid (HA.out.trans (hb.mono HA.out.size)); clear hb)
    go_ret
    exact ⟨rfl, HB1.out⟩
  · rw [if_pos rfl]
    rw [hk] at HK
    have hk255 := (Px.okK_ne hk).2.1
    obtain ⟨o, ho⟩ : ∃ o, k.length + v.length + 3 = o := ⟨_, rfl⟩
    rw [ho]
    have hoI : (bk.size : Int) + (bv.size : Int) + 3 = (o : Int) := by omega
    have h1 : (bk.size : Int) ≤ 255 := by omega
    have h2 : (bv.size : Int) ≤ 1099511000000 := by omega
    have HW : Hid (∀ w1, Below w.heap.size w w1 → Calls Tryd.prog 29 #[.int .i64 (o : Int)] w1 fun e w' => e = .returned (.int .i64 (Px.wd o : Int)) ∧ Below w.heap.size w w') := Lib.hid (fun w1 hb =>
      (wd_walk w1 o (by omega) (HP.out.below hb (Nat.le_refl _))).mono fun _ _ ⟨h1, h2⟩ => ⟨h1, hb.trans (h2.mono hb.size)⟩)
    clear hA hP hE hk hbk hbv hkz hvz hv ho hk255
    go_enter Tryd.func15, Tryd.ntmps15
    go_wp2_with (first
      | ((with_reducible refine HK.out.mono ?_); rintro e w1 ⟨rfl, hb⟩; have HB1 : Hid (Below w.heap.size w w1) := Lib.hid (HA.out.trans (hb.mono HA.out.size)); have HC2 := Lib.hid (HW.out w1 HB1.out); have HH1 : Hid (w1.heap[w.heap.size]? = some (.cells #[.string bk, .string bv] 37 (0, 0))) := Lib.hid ((hb.block _ (by rw [World.size_alloc]; omega)).trans (heap_alloc_new w _)); obtain ⟨c0, c1, -, -⟩ := row2 HH1.out; clear hb)
      | ((with_reducible refine HC2.out.mono ?_); rintro e w2 ⟨rfl, hb⟩; have HB2 := Lib.hid hb; clear hb))
    go_ret
    exact ⟨rfl, HB2.out⟩
end Go.Proofs.YtjgphicmkmdeiaaDoor
