/-
  lay.
-/
import Derived.Test.YtjgphicmkmdeiaaDoorPs
namespace Go.Proofs.YtjgphicmkmdeiaaDoor
open Go.RowKit Go.Maps

theorem own_not {B : Nat} {w : World} {v : Value} {n : Nat} {xs : List Value} {h : Nat} {cs : Array Value} {fr : Nat × Nat} (ho : w.ownsRow B 5 1 v n xs) (hh : w.heap[h]? = some (.cells cs 37 fr)) : v.ownBlock ≠ some h := by
  intro he
  obtain ⟨_, ⟨h1, h2⟩ | ⟨g, cap, cur, rfl, h2, h3, _⟩⟩ := ho
  · subst h1; simp [Value.ownBlock] at he
  · simp [Value.ownBlock] at he
    subst he
    rw [h3] at hh
    injection hh with hh
    injection hh with _ h5 _
    exact absurd h5 (by decide)
theorem SlK_one (w : World) (c : Int) : SlK 1 (w.alloc (.cells #[.int .u8 c] 5)) (.slice (some ⟨w.heap.size, 0, none⟩) 1 1) 1 [.int .u8 c] := by
  refine ⟨rfl, .inl ⟨w.heap.size, 0, 1, rfl, Nat.le_refl _, fun i v hi => ?_⟩⟩
  rw [Nat.zero_add]
  exact (cell_of_row _ _ _ _ _ _ (heap_alloc_new w _)).trans (by simpa using hi)
/-- An own row of bytes. -/
def OwnBy (B : Nat) (w : World) (v : Value) (l : List UInt8) : Prop := w.ownsRow B 5 1 v l.length (bl l)
theorem strCells_bl (b : ByteArray) (l : List UInt8) (h : b.data.toList = l) : Lib.strCells b = bl l := by
  subst h; rfl
set_option maxRecDepth 100000 in
set_option maxHeartbeats 4000000 in
theorem lay_walk (B : Nat) (w : World) (v : Value) (l : List UInt8) (r : Px.Rec) (ho : OwnBy B w v l) (hB : B ≤ w.heap.size) (hl : l.length ≤ 1099511000) (hr1 : r.1.length ≤ 1000) (hr2 : r.2.length ≤ 1099511000) (hP : PxAt w) :
    Calls Tryd.prog 25 #[v, .agg #[.string ⟨r.1.toArray⟩, .string ⟨r.2.toArray⟩]] w fun e w' => ∃ u, e = .returned u ∧ OwnBy B w' u (l ++ Px.txt r) ∧ Below B w w' := by
  obtain ⟨p0, c0, rfl⟩ := own_shape ho
  obtain ⟨i0, hi, hz0, hz1, hz2⟩ := info_parts info5
  have HI0 := Lib.hid (And.intro hi (And.intro hz0 (And.intro hz1 hz2)))
  clear hi hz0 hz1 hz2
  have HSZ : Hid (∀ wb w1, PxAt wb → Below wb.heap.size wb w1 → Calls Tryd.prog 15 #[.agg #[.string ⟨r.1.toArray⟩, .string ⟨r.2.toArray⟩]] w1 fun e w' => e = .returned (.int .i64 (Px.sz r : Int)) ∧ Below wb.heap.size wb w') := Lib.hid (fun wb w1 hP hb =>
    (size_walk r w1 (by omega) (hP.below hb (Nat.le_refl _))).mono fun _ _ ⟨h1, h2⟩ => ⟨h1, hb.trans (h2.mono hb.size)⟩)
  have hsz : Px.sz r ≤ 2199022000000 := by
    by_cases hk : Px.okK r.1 = true
    · have h1 := Px.sz_fix hk
      have h2 : Lib.nDigits (Px.sz r) ≤ 20 := by
        rw [Px.sz_ok hk]; unfold Px.wd
        have a1 : Lib.nDigits (r.1.length + r.2.length + 3) ≤ 20 := Px.dg_lt (k := 19) (by omega)
        have a2 : Lib.nDigits (r.1.length + r.2.length + 3 + Lib.nDigits (r.1.length + r.2.length + 3)) ≤ 20 := Px.dg_lt (k := 19) (by omega)
        exact Px.dg_lt (k := 19) (by omega)
      omega
    · unfold Px.sz; rw [if_neg hk]; omega
  have HTX : Hid (∀ wb w1, PxAt wb → Below wb.heap.size wb w1 → Calls Tryd.prog 23 #[.int .i64 (Px.sz r : Int)] w1 fun e w' => e = .returned (.string ⟨(Lib.decDigits (Px.sz r)).toArray⟩) ∧ Below wb.heap.size wb w') := Lib.hid (fun wb w1 hP hb => by
    have := text_walk w1 (Px.sz r) (by omega) (by omega) (hP.below hb (Nat.le_refl _))
    rw [itoa_nat] at this
    exact this.mono fun _ _ ⟨h1, h2⟩ => ⟨h1, hb.trans (h2.mono hb.size)⟩)
  have hdl : (Lib.decDigits (Px.sz r)).length ≤ 20 := by rw [Px.dec_len]; exact Px.dg_lt (k := 19) (by omega)
  have htx : Px.txt r = Lib.decDigits (Px.sz r) ++ 32 :: (r.1 ++ 61 :: (r.2 ++ [10])) := rfl
  rw [htx]
  clear htx
  obtain ⟨k, z⟩ := r
  simp only at hr1 hr2 HSZ HTX ⊢
  generalize Px.sz (k, z) = q at *
  obtain ⟨bt, hbt⟩ : ∃ x, (⟨(Lib.decDigits q).toArray⟩ : ByteArray) = x := ⟨_, rfl⟩
  obtain ⟨bk, hbk⟩ : ∃ x, (⟨k.toArray⟩ : ByteArray) = x := ⟨_, rfl⟩
  obtain ⟨bv, hbv⟩ : ∃ x, (⟨z.toArray⟩ : ByteArray) = x := ⟨_, rfl⟩
  have ht1 : bt.size = (Lib.decDigits q).length := by rw [← hbt]; simp [ByteArray.size]
  have hk1 : bk.size = k.length := by rw [← hbk]; simp [ByteArray.size]
  have hv1 : bv.size = z.length := by rw [← hbv]; simp [ByteArray.size]
  rw [hbk, hbv] at HSZ ⊢
  rw [hbt] at HTX
  have HN : Hid (l.length ≤ 1099511000 ∧ bt.size ≤ 20 ∧ bk.size ≤ 1000 ∧ bv.size ≤ 1099511000) := Lib.hid ⟨hl, by omega, by omega, by omega⟩
  have HFIN : Hid (∀ (wz : World) (u : Value), wz.ownsRow B 5 1 u (l.length + bt.size + 1 + bk.size + 1 + bv.size + 1) ((((((bl l ++ Lib.strCells bt) ++ [.int .u8 32]) ++ Lib.strCells bk) ++ [.int .u8 61]) ++ Lib.strCells bv) ++ [.int .u8 10]) → OwnBy B wz u (l ++ (Lib.decDigits q ++ 32 :: (k ++ 61 :: (z ++ [10]))))) := Lib.hid (fun wz u h => by
    unfold OwnBy
    have e1 : (l ++ (Lib.decDigits q ++ 32 :: (k ++ 61 :: (z ++ [10])))).length = l.length + bt.size + 1 + bk.size + 1 + bv.size + 1 := by
      rw [ht1, hk1, hv1]; simp only [List.length_append, List.length_cons, List.length_nil]; omega
    have e2 : bl (l ++ (Lib.decDigits q ++ 32 :: (k ++ 61 :: (z ++ [10])))) = (((((bl l ++ Lib.strCells bt) ++ [.int .u8 32]) ++ Lib.strCells bk) ++ [.int .u8 61]) ++ Lib.strCells bv) ++ [.int .u8 10] := by
      rw [strCells_bl bt _ (by rw [← hbt]), strCells_bl bk k (by rw [← hbk]), strCells_bl bv z (by rw [← hbv])]
      simp [bl]
      exact ⟨rfl, rfl, rfl⟩
    rw [e1, e2]; exact h)
  have HO := Lib.hid ho
  have HBB := Lib.hid hB
  have HP := Lib.hid hP
  clear ho hP hsz hdl ht1 hk1 hv1 hbt hbk hbv hl hr1 hr2
  have HA : Hid (Below w.heap.size w (w.alloc (.cells #[.string bk, .string bv] 37))) := Lib.hid ((Below.refl _ _).alloc (Nat.le_refl _) _)
  have HH : Hid ((w.alloc (.cells #[.string bk, .string bv] 37)).heap[w.heap.size]? = some (.cells #[.string bk, .string bv] 37 (0, 0))) := Lib.hid (heap_alloc_new w _)
  have HP0 := Lib.hid (HP.out.below HA.out (Nat.le_refl _))
  have HC1 := Lib.hid (HSZ.out _ _ HP0.out (Below.refl _ _))
  go_enter Tryd.func25, Tryd.ntmps25
  go_wp2_with (first
    | ((with_reducible refine HC1.out.mono ?_); rintro e xa ⟨rfl, hb⟩; have HBA := Lib.hid hb; have HC2 := Lib.hid (HTX.out _ _ HP0.out hb); clear hb)
    | ((with_reducible refine HC2.out.mono ?_); rintro e x0 ⟨rfl, hb⟩; have HB0 : Hid (Below B w x0) := Lib.hid ((HA.out.mono hB).trans (hb.mono (Nat.le_trans hB HA.out.size))); have HBS0 : Hid (B ≤ x0.heap.size) := Lib.hid (Nat.le_trans hB HB0.out.size); have HO0 : Hid (x0.ownsRow B 5 1 (.slice p0 l.length c0) l.length (bl l)) := Lib.hid (own_staysK HO.out (fun j hj => by have h9 := (HO.out.lt j hj).2; rw [hb.block j (by rw [World.size_alloc]; omega)]; exact heap_alloc_old _ _ h9)); have HH0 : Hid (x0.heap[w.heap.size]? = some (.cells #[.string bk, .string bv] 37 (0, 0))) := Lib.hid ((hb.block _ (by rw [World.size_alloc]; omega)).trans HH.out); obtain ⟨a0, a1, -, -⟩ := row2 HH0.out; clear hb)
    | (refine Lib.wpList_append_own_string _ rfl _ _ 26 9 rfl B 5 i0 Tryd.underlying26 Tryd.underlying9 HI0.out.1 HI0.out.2.1 HI0.out.2.2.1 HI0.out.2.2.2 (.slice p0 (l.length) c0) (l.length) (bl l) rfl HO0.out bt rfl (by have := HN.out; unfold maxLen; omega) (by have := HN.out; omega) HBS0.out ?_; intro v1 x1 hown hgrow _; obtain ⟨p1, c1, hv⟩ := own_shape hown; subst hv; have HO1 := Lib.hid hown; have HB1 : Hid (Below B w x1) := Lib.hid (HB0.out.grown hgrow HBS0.out (fun j hj => (HO0.out.lt j hj).1)); have HBS1 : Hid (B ≤ x1.heap.size) := Lib.hid (Nat.le_trans hB HB1.out.size); have HH1 : Hid (x1.heap[w.heap.size]? = some (.cells #[.string bk, .string bv] 37 (0, 0))) := Lib.hid ((hgrow.block _ (Array.getElem?_eq_some_iff.1 HH0.out).1 (fun h => own_not HO0.out HH0.out h.symm)).trans HH0.out); clear a0 a1 hown hgrow; obtain ⟨a0, a1, -, -⟩ := row2 HH1.out)
    | (refine wpList_appK 26 5 i0 (.int .u8 0) 1 1 Tryd.underlying26 HI0.out.1 HI0.out.2.1 HI0.out.2.2.1 HI0.out.2.2.2 rfl (by decide) (by decide) rfl _ _ rfl B (.slice p1 (l.length + bt.size) c1) (.slice (some ⟨x1.heap.size, 0, none⟩) 1 1) (l.length + bt.size) 1 (bl l ++ Lib.strCells bt) [.int .u8 32] rfl rfl (by intro y hy; simp at hy; subst hy; rfl) (own_staysK HO1.out (fun j hj => heap_alloc_old _ _ (HO1.out.lt j hj).2)) (SlK_one x1 32) (by have := HBS1.out; rw [World.size_alloc]; omega) (by have := HN.out; omega) ?_; intro v2 x2 hown hgrow _; obtain ⟨p2, c2, hv⟩ := own_shape hown; subst hv; have HO2 := Lib.hid hown; have HB2 : Hid (Below B w x2) := Lib.hid ((HB1.out.alloc HBS1.out _).grown hgrow (by have := HBS1.out; rw [World.size_alloc]; omega) (fun j hj => (HO1.out.lt j hj).1)); have HBS2 : Hid (B ≤ x2.heap.size) := Lib.hid (Nat.le_trans hB HB2.out.size); have HH2 : Hid (x2.heap[w.heap.size]? = some (.cells #[.string bk, .string bv] 37 (0, 0))) := Lib.hid (by have h9 := (Array.getElem?_eq_some_iff.1 HH1.out).1; exact (hgrow.block _ (by rw [World.size_alloc]; omega) (fun h => own_not HO1.out HH1.out h.symm)).trans ((heap_alloc_old _ _ h9).trans HH1.out)); clear a0 a1 hown hgrow; obtain ⟨a0, a1, -, -⟩ := row2 HH2.out)
    | (refine Lib.wpList_append_own_string _ rfl _ _ 26 9 rfl B 5 i0 Tryd.underlying26 Tryd.underlying9 HI0.out.1 HI0.out.2.1 HI0.out.2.2.1 HI0.out.2.2.2 (.slice p2 (l.length + bt.size + 1) c2) (l.length + bt.size + 1) ((bl l ++ Lib.strCells bt) ++ [.int .u8 32]) rfl HO2.out bk rfl (by have := HN.out; unfold maxLen; omega) (by have := HN.out; omega) HBS2.out ?_; intro v3 x3 hown hgrow _; obtain ⟨p3, c3, hv⟩ := own_shape hown; subst hv; have HO3 := Lib.hid hown; have HB3 : Hid (Below B w x3) := Lib.hid (HB2.out.grown hgrow HBS2.out (fun j hj => (HO2.out.lt j hj).1)); have HBS3 : Hid (B ≤ x3.heap.size) := Lib.hid (Nat.le_trans hB HB3.out.size); have HH3 : Hid (x3.heap[w.heap.size]? = some (.cells #[.string bk, .string bv] 37 (0, 0))) := Lib.hid ((hgrow.block _ (Array.getElem?_eq_some_iff.1 HH2.out).1 (fun h => own_not HO2.out HH2.out h.symm)).trans HH2.out); clear a0 a1 hown hgrow; obtain ⟨a0, a1, -, -⟩ := row2 HH3.out)
    | (refine wpList_appK 26 5 i0 (.int .u8 0) 1 1 Tryd.underlying26 HI0.out.1 HI0.out.2.1 HI0.out.2.2.1 HI0.out.2.2.2 rfl (by decide) (by decide) rfl _ _ rfl B (.slice p3 (l.length + bt.size + 1 + bk.size) c3) (.slice (some ⟨x3.heap.size, 0, none⟩) 1 1) (l.length + bt.size + 1 + bk.size) 1 (((bl l ++ Lib.strCells bt) ++ [.int .u8 32]) ++ Lib.strCells bk) [.int .u8 61] rfl rfl (by intro y hy; simp at hy; subst hy; rfl) (own_staysK HO3.out (fun j hj => heap_alloc_old _ _ (HO3.out.lt j hj).2)) (SlK_one x3 61) (by have := HBS3.out; rw [World.size_alloc]; omega) (by have := HN.out; omega) ?_; intro v4 x4 hown hgrow _; obtain ⟨p4, c4, hv⟩ := own_shape hown; subst hv; have HO4 := Lib.hid hown; have HB4 : Hid (Below B w x4) := Lib.hid ((HB3.out.alloc HBS3.out _).grown hgrow (by have := HBS3.out; rw [World.size_alloc]; omega) (fun j hj => (HO3.out.lt j hj).1)); have HBS4 : Hid (B ≤ x4.heap.size) := Lib.hid (Nat.le_trans hB HB4.out.size); have HH4 : Hid (x4.heap[w.heap.size]? = some (.cells #[.string bk, .string bv] 37 (0, 0))) := Lib.hid (by have h9 := (Array.getElem?_eq_some_iff.1 HH3.out).1; exact (hgrow.block _ (by rw [World.size_alloc]; omega) (fun h => own_not HO3.out HH3.out h.symm)).trans ((heap_alloc_old _ _ h9).trans HH3.out)); clear a0 a1 hown hgrow; obtain ⟨a0, a1, -, -⟩ := row2 HH4.out)
    | (refine Lib.wpList_append_own_string _ rfl _ _ 26 9 rfl B 5 i0 Tryd.underlying26 Tryd.underlying9 HI0.out.1 HI0.out.2.1 HI0.out.2.2.1 HI0.out.2.2.2 (.slice p4 (l.length + bt.size + 1 + bk.size + 1) c4) (l.length + bt.size + 1 + bk.size + 1) ((((bl l ++ Lib.strCells bt) ++ [.int .u8 32]) ++ Lib.strCells bk) ++ [.int .u8 61]) rfl HO4.out bv rfl (by have := HN.out; unfold maxLen; omega) (by have := HN.out; omega) HBS4.out ?_; intro v5 x5 hown hgrow _; obtain ⟨p5, c5, hv⟩ := own_shape hown; subst hv; have HO5 := Lib.hid hown; have HB5 : Hid (Below B w x5) := Lib.hid (HB4.out.grown hgrow HBS4.out (fun j hj => (HO4.out.lt j hj).1)); have HBS5 : Hid (B ≤ x5.heap.size) := Lib.hid (Nat.le_trans hB HB5.out.size); have HH5 : Hid (x5.heap[w.heap.size]? = some (.cells #[.string bk, .string bv] 37 (0, 0))) := Lib.hid ((hgrow.block _ (Array.getElem?_eq_some_iff.1 HH4.out).1 (fun h => own_not HO4.out HH4.out h.symm)).trans HH4.out); clear a0 a1 hown hgrow; obtain ⟨a0, a1, -, -⟩ := row2 HH5.out)
    | (refine wpList_appK 26 5 i0 (.int .u8 0) 1 1 Tryd.underlying26 HI0.out.1 HI0.out.2.1 HI0.out.2.2.1 HI0.out.2.2.2 rfl (by decide) (by decide) rfl _ _ rfl B (.slice p5 (l.length + bt.size + 1 + bk.size + 1 + bv.size) c5) (.slice (some ⟨x5.heap.size, 0, none⟩) 1 1) (l.length + bt.size + 1 + bk.size + 1 + bv.size) 1 (((((bl l ++ Lib.strCells bt) ++ [.int .u8 32]) ++ Lib.strCells bk) ++ [.int .u8 61]) ++ Lib.strCells bv) [.int .u8 10] rfl rfl (by intro y hy; simp at hy; subst hy; rfl) (own_staysK HO5.out (fun j hj => heap_alloc_old _ _ (HO5.out.lt j hj).2)) (SlK_one x5 10) (by have := HBS5.out; rw [World.size_alloc]; omega) (by have := HN.out; omega) ?_; intro v6 x6 hown hgrow _; obtain ⟨p6, c6, hv⟩ := own_shape hown; subst hv; have HO6 := Lib.hid hown; have HB6 : Hid (Below B w x6) := Lib.hid ((HB5.out.alloc HBS5.out _).grown hgrow (by have := HBS5.out; rw [World.size_alloc]; omega) (fun j hj => (HO5.out.lt j hj).1)); have HBS6 : Hid (B ≤ x6.heap.size) := Lib.hid (Nat.le_trans hB HB6.out.size); have HH6 : Hid (x6.heap[w.heap.size]? = some (.cells #[.string bk, .string bv] 37 (0, 0))) := Lib.hid (by have h9 := (Array.getElem?_eq_some_iff.1 HH5.out).1; exact (hgrow.block _ (by rw [World.size_alloc]; omega) (fun h => own_not HO5.out HH5.out h.symm)).trans ((heap_alloc_old _ _ h9).trans HH5.out)); clear a0 a1 hown hgrow; obtain ⟨a0, a1, -, -⟩ := row2 HH6.out))
  go_ret
  exact ⟨_, rfl, HFIN.out _ _ HO6.out, HB6.out⟩
end Go.Proofs.YtjgphicmkmdeiaaDoor
