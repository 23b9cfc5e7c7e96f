/-
  The document's Cut.
-/
import Derived.Test.YtghphgpbgekoiaaRefBest
import Derived.Test.YtghphgpbgekoiaaClone
namespace Go.Proofs.Ytghphgpbgekoiaa
open Go.RowKit Go.Maps
theorem info35z : (Try.prog.info? 35).map (fun i => (i.zero, i.size, i.bytes)) = some (some (.agg #[.int .i64 0, .int .i64 0, .int .u8 0]), 3, 24) := by kernel_rfl
/-- What the document's Cut has under way. -/
structure Rc (w wr : World) (v : Value) (acc : List Mt.St) : Prop where
  below : Below w.heap.size w wr
  own : wr.ownsRow w.heap.size 35 3 v acc.length (ns acc)
theorem Rc.later {w wr wx : World} {v : Value} {acc : List Mt.St} (h : Rc w wr v acc) (hb : Below wr.heap.size wr wx) : Rc w wx v acc :=
  ⟨h.below.trans (hb.mono h.below.size), own_staysK h.own (fun k hk => hb.block k (h.own.lt k hk).2)⟩
theorem Rc.app {w wr wa w2 : World} {v v' : Value} {acc : List Mt.St} (h : Rc w wr v acc) (s : Mt.St) (hwa : Below wr.heap.size wr wa)
    (hown : w2.ownsRow w.heap.size 35 3 v' (acc.length + 1) (ns acc ++ ns [s])) (hgrow : wa.grownBy w2 v.ownBlock) : Rc w w2 v' (acc ++ [s]) := by
  refine ⟨(h.below.trans (hwa.mono h.below.size)).grown hgrow (Nat.le_trans h.below.size hwa.size) (fun k hk => (h.own.lt k hk).1), ?_⟩
  rw [ns_append, List.length_append]; exact hown
theorem SlK_step35 (w : World) (x y : Int) (z : UInt8) : SlK 3 (w.alloc (.cells #[.int .i64 x, .int .i64 y, .int .u8 (bi z)] 35)) (.slice (some ⟨w.heap.size, 0, none⟩) 1 1) 1 [.int .i64 x, .int .i64 y, .int .u8 (bi z)] := by
  refine ⟨rfl, .inl ⟨w.heap.size, 0, 1, rfl, Nat.le_refl _, fun i v hi => ?_⟩⟩
  rw [Nat.zero_add]
  exact (cell_of_row _ _ _ _ _ _ (heap_alloc_new w _)).trans (by simpa using hi)
set_option maxRecDepth 100000 in
set_option maxHeartbeats 4000000 in
theorem rCut_walk (w : World) (v : Value) (d : Int) (b : List UInt8) (hv : SlV w v (bl b)) (hb : b.length ≤ 32768) (hd0 : 1 ≤ d) (hd1 : d ≤ 32768) :
    Calls Try.prog 9 #[v, .int .i64 d] w fun e w' => ∃ u, e = .returned (.tuple #[u, .int .i64 0]) ∧ w'.ownsRow w.heap.size 35 3 u (Mt.cutAt b d.toNat 0).length (ns (Mt.cutAt b d.toNat 0)) ∧ Below w.heap.size w w' := by
  obtain ⟨i0, hi, hz0, hz1, hz2⟩ := info_parts info35z
  have HI0 := Lib.hid (And.intro hi (And.intro hz0 (And.intro hz1 hz2)))
  clear hi hz0 hz1 hz2
  obtain ⟨p, cap, rfl⟩ := hv.shape
  obtain ⟨n, hn⟩ : ∃ n, n = b.length := ⟨_, rfl⟩
  rw [bl_length, ← hn] at hv ⊢
  obtain ⟨D, hD⟩ : ∃ D, D = d.toNat := ⟨_, rfl⟩
  rw [← hD]
  have HL : Hid (∀ wx, Below w.heap.size w wx → ∀ k : Nat, k ≤ n → Calls Try.prog 11 #[.slice p n cap, .int .i64 (k : Int), .int .i64 d] wx fun e w' => e = .returned (.tuple #[stv (Mt.best b k D), .bool (decide (0 < (Mt.best b k D).1))]) ∧ Below wx.heap.size wx w') := Lib.hid (fun wx hx k hk => by
    rw [hD]
    exact rBest_walk wx _ b k d (hv.below hx (Nat.le_refl _)) (by rw [← hn]; exact hk) hb)
  rw [← hn] at hb
  have HV := Lib.hid hv
  have HN := Lib.hid hn
  have hd1' : decide (32768 < d) = false := decide_eq_false (by omega)
  have hd0' : decide (d < 1) = false := decide_eq_false (by omega)
  clear hv hn hD hd0 hd1
  go_enter Try.func9, Try.ntmps9
  go_wp2_with fail
  go_loopw [6, 7] (fun v6 v7 wr => ∃ (k : Nat) (acc : List Mt.St), k ≤ n ∧ v7 = .int .i64 k ∧ acc ++ Mt.cutAt b D k = Mt.cutAt b D 0 ∧ acc.length ≤ k ∧ Rc w wr v6 acc) (fun _ v7 _ => n - (intOf v7).toNat)
  case atStart => exact ⟨0, [], Nat.zero_le _, rfl, rfl, Nat.le_refl _, Below.refl _ _, World.ownsRow_nil _ _ _ _⟩
  case round =>
    obtain ⟨k, acc, hk, rfl, hac, hal, hR⟩ := hrel
    obtain ⟨p6, cap6, rfl⟩ := own_shape hR.own
    have HR := Lib.hid hR
    have HAC := Lib.hid hac
    clear hR hac
    by_cases hkn : k < n
    · have hkni : (k : Int) < (n : Int) := by omega
      have hlk := HL.out _ HR.out.below k hk
      obtain ⟨f1, f2, hf⟩ : ∃ f1 f2, Mt.best b k D = (f1, f2) := ⟨_, _, rfl⟩
      rw [hf] at hlk
      have HF := Lib.hid hf
      clear hf
      go_wp2_with fail
      refine hlk.mono ?_
      rintro e w1 ⟨rfl, hb1⟩
      clear hlk
      unfold stv stc
      have HR1 := Lib.hid (HR.out.later (hb1.trans (((Below.refl _ _).alloc (Nat.le_refl _) (.cells #[.int .i64 (f1 : Int), .int .i64 (f2 : Int), .int .u8 0] 35)).mono hb1.size)))
      have HS1 : Hid ((w1.alloc (.cells #[.int .i64 (f1 : Int), .int .i64 (f2 : Int), .int .u8 0] 35)).heap[w1.heap.size]? = some (.cells #[.int .i64 (f1 : Int), .int .i64 (f2 : Int), .int .u8 0] 35 (0, 0))) := Lib.hid (heap_alloc_new w1 _)
      have hlk := HL.out _ HR1.out.below (k + 1) (by omega)
      rw [show ((k + 1 : Nat) : Int) = (k : Int) + 1 by omega] at hlk
      obtain ⟨m1, m2, hm⟩ : ∃ m1 m2, Mt.best b (k + 1) D = (m1, m2) := ⟨_, _, rfl⟩
      rw [hm] at hlk
      have HM := Lib.hid hm
      clear hm
      go_wp2_with fail
      refine hlk.mono ?_
      rintro e w2 ⟨rfl, hb2⟩
      clear hlk
      unfold stv stc
      have HR2 := Lib.hid (HR1.out.later (hb2.trans (((Below.refl _ _).alloc (Nat.le_refl _) (.cells #[.int .i64 (m1 : Int), .int .i64 (m2 : Int), .int .u8 0] 35)).mono hb2.size)))
      have HS2 : Hid ((w2.alloc (.cells #[.int .i64 (m1 : Int), .int .i64 (m2 : Int), .int .u8 0] 35)).heap[w1.heap.size]? = some (.cells #[.int .i64 (f1 : Int), .int .i64 (f2 : Int), .int .u8 0] 35 (0, 0))) := Lib.hid (by
        have h1 := (Array.getElem?_eq_some_iff.1 HS1.out).1
        rw [heap_alloc_old _ _ (Nat.lt_of_lt_of_le h1 hb2.size), hb2.block _ h1]; exact HS1.out)
      have HN2 : Hid ((w2.alloc (.cells #[.int .i64 (m1 : Int), .int .i64 (m2 : Int), .int .u8 0] 35)).heap[w2.heap.size]? = some (.cells #[.int .i64 (m1 : Int), .int .i64 (m2 : Int), .int .u8 0] 35 (0, 0))) := Lib.hid (heap_alloc_new w2 _)
      have HNO : Hid (some w1.heap.size ≠ (Value.slice p6 acc.length cap6).ownBlock) := Lib.hid (fun e => by
        have h1 := (HR.out.own.lt _ e.symm).2
        have h2 := hb1.size
        omega)
      obtain ⟨c0, c1, c2, cf0, cf1, cf2⟩ := row3 HS2.out
      have c0 : _ = some (Value.int .i64 (f1 : Int)) := c0
      have c1 : _ = some (Value.int .i64 (f2 : Int)) := c1
      have d0 : (w2.alloc (.cells #[.int .i64 (m1 : Int), .int .i64 (m2 : Int), .int .u8 0] 35)).cell? ⟨w2.heap.size, 0, none⟩ = some (.int .i64 (m1 : Int)) := (row3 HN2.out).1
      have hle : f1 ≤ n - k := by
        have h1 := Mt.best_le b k D
        rw [HF.out] at h1
        unfold Mt.lim at h1
        rw [← HN.out] at h1
        simp only at h1; omega
      obtain ⟨gb, ob, rfl, hrow⟩ := (HV.out.below HR2.out.below (Nat.le_refl _)).some (by omega)
      have hcap := HV.out.le
      have hcb := hrow.bl k (by rw [← HN.out]; exact hkn)
      clear hrow
      have HSZ : Hid (w.heap.size ≤ (w2.alloc (.cells #[.int .i64 (m1 : Int), .int .i64 (m2 : Int), .int .u8 0] 35)).heap.size) := Lib.hid HR2.out.below.size
      clear hb2 hb1
      by_cases hf1 : 0 < f1
      · have hf1i : (0 : Int) < (f1 : Int) := by omega
        have hfd : decide (0 < f1) = true := decide_eq_true hf1
        by_cases hmf : m1 ≤ f1
        · have hmfi : (m1 : Int) ≤ (f1 : Int) := by omega
          by_cases hm1 : 0 < m1
          · have hmd : decide (0 < m1) = true := decide_eq_true hm1
            have HCT : Hid (Mt.cutAt b D k = (f1, f2, 0) :: Mt.cutAt b D (k + f1)) := Lib.hid (by
              have h := Mt.cutAt_copy (b := b) (d := D) (k := k) (by rw [← HN.out]; exact hkn) (by rw [HF.out, HM.out]; exact ⟨hf1, hmf⟩)
              rw [HF.out] at h; exact h)
            have HSK : Hid (SlK 3 _ (.slice (some ⟨w2.heap.size + 1, 0, none⟩) 1 1) 1 _) := Lib.hid (by have h := SlK_step35 (w2.alloc (.cells #[.int .i64 (m1 : Int), .int .i64 (m2 : Int), .int .u8 0] 35)) (f1 : Int) (f2 : Int) 0; rw [World.size_alloc] at h; exact h)
            go_wp2_with (refine wpList_appK 28 35 i0 (.agg #[.int .i64 0, .int .i64 0, .int .u8 0]) 3 24 Try.underlying28 HI0.out.1 HI0.out.2.1 HI0.out.2.2.1 HI0.out.2.2.2 rfl (by decide) (by decide) rfl _ _ rfl w.heap.size (.slice p6 acc.length cap6) (.slice (some ⟨w2.heap.size + 1, 0, none⟩) 1 1) acc.length 1 (ns acc) [.int .i64 (f1 : Int), .int .i64 (f2 : Int), .int .u8 0] rfl rfl (by intro y hy; simp at hy; rcases hy with rfl | rfl | rfl <;> rfl) (own_staysK HR2.out.own (fun j hj => heap_alloc_old _ _ (HR2.out.own.lt j hj).2)) HSK.out (by have := HSZ.out; simp at this ⊢; omega) (by omega) ?_; intro v' w5 hown hgrow _; have HR5 := Lib.hid (HR2.out.app (f1, f2, 0) ((Below.refl _ _).alloc (Nat.le_refl _) _) hown hgrow); obtain ⟨p7, cap7, hv'⟩ := own_shape hown; have HS5 : Hid (w5.heap[w1.heap.size]? = some (.cells #[.int .i64 (f1 : Int), .int .i64 (f2 : Int), .int .u8 0] 35 (0, 0))) := Lib.hid (by have h1 := HS2.out; have h2 := (Array.getElem?_eq_some_iff.1 h1).1; rw [hgrow.block _ (Nat.lt_of_lt_of_le h2 (by simp)) (HNO.out), heap_alloc_old _ _ h2]; exact h1); obtain ⟨y0, y1, y2, yf0, yf1, yf2⟩ := row3 HS5.out; have y0 : w5.cell? ⟨w1.heap.size, 0, none⟩ = some (.int .i64 (_ : Int)) := y0; clear hown hgrow; subst hv')
            refine ⟨⟨k + f1, acc ++ [(f1, f2, 0)], by omega, ?_, ?_, ?_, HR5.out⟩, ?_⟩
            · go_num
            · rw [List.append_assoc, List.singleton_append, ← HCT.out]; exact HAC.out
            · rw [List.length_append, List.length_singleton]; omega
            · simp only [intOf]; omega
          · have hmd : decide (0 < m1) = false := decide_eq_false hm1
            have HCT : Hid (Mt.cutAt b D k = (f1, f2, 0) :: Mt.cutAt b D (k + f1)) := Lib.hid (by
              have h := Mt.cutAt_copy (b := b) (d := D) (k := k) (by rw [← HN.out]; exact hkn) (by rw [HF.out, HM.out]; exact ⟨hf1, hmf⟩)
              rw [HF.out] at h; exact h)
            have HSK : Hid (SlK 3 _ (.slice (some ⟨w2.heap.size + 1, 0, none⟩) 1 1) 1 _) := Lib.hid (by have h := SlK_step35 (w2.alloc (.cells #[.int .i64 (m1 : Int), .int .i64 (m2 : Int), .int .u8 0] 35)) (f1 : Int) (f2 : Int) 0; rw [World.size_alloc] at h; exact h)
            go_wp2_with (refine wpList_appK 28 35 i0 (.agg #[.int .i64 0, .int .i64 0, .int .u8 0]) 3 24 Try.underlying28 HI0.out.1 HI0.out.2.1 HI0.out.2.2.1 HI0.out.2.2.2 rfl (by decide) (by decide) rfl _ _ rfl w.heap.size (.slice p6 acc.length cap6) (.slice (some ⟨w2.heap.size + 1, 0, none⟩) 1 1) acc.length 1 (ns acc) [.int .i64 (f1 : Int), .int .i64 (f2 : Int), .int .u8 0] rfl rfl (by intro y hy; simp at hy; rcases hy with rfl | rfl | rfl <;> rfl) (own_staysK HR2.out.own (fun j hj => heap_alloc_old _ _ (HR2.out.own.lt j hj).2)) HSK.out (by have := HSZ.out; simp at this ⊢; omega) (by omega) ?_; intro v' w5 hown hgrow _; have HR5 := Lib.hid (HR2.out.app (f1, f2, 0) ((Below.refl _ _).alloc (Nat.le_refl _) _) hown hgrow); obtain ⟨p7, cap7, hv'⟩ := own_shape hown; have HS5 : Hid (w5.heap[w1.heap.size]? = some (.cells #[.int .i64 (f1 : Int), .int .i64 (f2 : Int), .int .u8 0] 35 (0, 0))) := Lib.hid (by have h1 := HS2.out; have h2 := (Array.getElem?_eq_some_iff.1 h1).1; rw [hgrow.block _ (Nat.lt_of_lt_of_le h2 (by simp)) (HNO.out), heap_alloc_old _ _ h2]; exact h1); obtain ⟨y0, y1, y2, yf0, yf1, yf2⟩ := row3 HS5.out; have y0 : w5.cell? ⟨w1.heap.size, 0, none⟩ = some (.int .i64 (_ : Int)) := y0; clear hown hgrow; subst hv')
            refine ⟨⟨k + f1, acc ++ [(f1, f2, 0)], by omega, ?_, ?_, ?_, HR5.out⟩, ?_⟩
            · go_num
            · rw [List.append_assoc, List.singleton_append, ← HCT.out]; exact HAC.out
            · rw [List.length_append, List.length_singleton]; omega
            · simp only [intOf]; omega
        · have hmfi : (f1 : Int) < (m1 : Int) := by omega
          have hmd : decide (0 < m1) = true := decide_eq_true (by omega)
          have HCT : Hid (Mt.cutAt b D k = (0, 0, Mt.byt b k) :: Mt.cutAt b D (k + 1)) := Lib.hid (Mt.cutAt_lit (by rw [← HN.out]; exact hkn) (by rw [HF.out, HM.out]; intro h; have h1 := h.1; have h2 := h.2; simp only at h1 h2; omega))
          have HSK : Hid (SlK 3 _ (.slice (some ⟨w2.heap.size + 1, 0, none⟩) 1 1) 1 _) := Lib.hid (by have h := SlK_step35 (w2.alloc (.cells #[.int .i64 (m1 : Int), .int .i64 (m2 : Int), .int .u8 0] 35)) 0 0 (Mt.byt b k); rw [World.size_alloc] at h; exact h)
          go_wp2_with (refine wpList_appK 28 35 i0 (.agg #[.int .i64 0, .int .i64 0, .int .u8 0]) 3 24 Try.underlying28 HI0.out.1 HI0.out.2.1 HI0.out.2.2.1 HI0.out.2.2.2 rfl (by decide) (by decide) rfl _ _ rfl w.heap.size (.slice p6 acc.length cap6) (.slice (some ⟨w2.heap.size + 1, 0, none⟩) 1 1) acc.length 1 (ns acc) [.int .i64 0, .int .i64 0, .int .u8 (bi (Mt.byt b k))] rfl rfl (by intro y hy; simp at hy; rcases hy with rfl | rfl | rfl <;> rfl) (own_staysK HR2.out.own (fun j hj => heap_alloc_old _ _ (HR2.out.own.lt j hj).2)) HSK.out (by have := HSZ.out; simp at this ⊢; omega) (by omega) ?_; intro v' w5 hown hgrow _; have HR5 := Lib.hid (HR2.out.app (0, 0, Mt.byt b k) ((Below.refl _ _).alloc (Nat.le_refl _) _) hown hgrow); obtain ⟨p7, cap7, hv'⟩ := own_shape hown; have HS5 : Hid (w5.heap[w1.heap.size]? = some (.cells #[.int .i64 (f1 : Int), .int .i64 (f2 : Int), .int .u8 0] 35 (0, 0))) := Lib.hid (by have h1 := HS2.out; have h2 := (Array.getElem?_eq_some_iff.1 h1).1; rw [hgrow.block _ (Nat.lt_of_lt_of_le h2 (by simp)) (HNO.out), heap_alloc_old _ _ h2]; exact h1); obtain ⟨y0, y1, y2, yf0, yf1, yf2⟩ := row3 HS5.out; have y0 : w5.cell? ⟨w1.heap.size, 0, none⟩ = some (.int .i64 (_ : Int)) := y0; clear hown hgrow; subst hv')
          refine ⟨⟨k + 1, acc ++ [(0, 0, Mt.byt b k)], hkn, ?_, ?_, ?_, HR5.out⟩, ?_⟩
          · go_num
          · rw [List.append_assoc, List.singleton_append, ← HCT.out]; exact HAC.out
          · rw [List.length_append, List.length_singleton]; omega
          · simp only [intOf]; omega
      · have hfd : decide (0 < f1) = false := decide_eq_false hf1
        obtain rfl : f1 = 0 := by omega
        by_cases hm1 : 0 < m1
        · have hmd : decide (0 < m1) = true := decide_eq_true hm1
          have HCT : Hid (Mt.cutAt b D k = (0, 0, Mt.byt b k) :: Mt.cutAt b D (k + 1)) := Lib.hid (Mt.cutAt_lit (by rw [← HN.out]; exact hkn) (by rw [HF.out, HM.out]; intro h; have h1 := h.1; have h2 := h.2; simp only at h1 h2; omega))
          have HSK : Hid (SlK 3 _ (.slice (some ⟨w2.heap.size + 1, 0, none⟩) 1 1) 1 _) := Lib.hid (by have h := SlK_step35 (w2.alloc (.cells #[.int .i64 (m1 : Int), .int .i64 (m2 : Int), .int .u8 0] 35)) 0 0 (Mt.byt b k); rw [World.size_alloc] at h; exact h)
          go_wp2_with (refine wpList_appK 28 35 i0 (.agg #[.int .i64 0, .int .i64 0, .int .u8 0]) 3 24 Try.underlying28 HI0.out.1 HI0.out.2.1 HI0.out.2.2.1 HI0.out.2.2.2 rfl (by decide) (by decide) rfl _ _ rfl w.heap.size (.slice p6 acc.length cap6) (.slice (some ⟨w2.heap.size + 1, 0, none⟩) 1 1) acc.length 1 (ns acc) [.int .i64 0, .int .i64 0, .int .u8 (bi (Mt.byt b k))] rfl rfl (by intro y hy; simp at hy; rcases hy with rfl | rfl | rfl <;> rfl) (own_staysK HR2.out.own (fun j hj => heap_alloc_old _ _ (HR2.out.own.lt j hj).2)) HSK.out (by have := HSZ.out; simp at this ⊢; omega) (by omega) ?_; intro v' w5 hown hgrow _; have HR5 := Lib.hid (HR2.out.app (0, 0, Mt.byt b k) ((Below.refl _ _).alloc (Nat.le_refl _) _) hown hgrow); obtain ⟨p7, cap7, hv'⟩ := own_shape hown; clear hown hgrow; subst hv')
          refine ⟨⟨k + 1, acc ++ [(0, 0, Mt.byt b k)], hkn, ?_, ?_, ?_, HR5.out⟩, ?_⟩
          · go_num
          · rw [List.append_assoc, List.singleton_append, ← HCT.out]; exact HAC.out
          · rw [List.length_append, List.length_singleton]; omega
          · simp only [intOf]; omega
        · have hmd : decide (0 < m1) = false := decide_eq_false hm1
          have HCT : Hid (Mt.cutAt b D k = (0, 0, Mt.byt b k) :: Mt.cutAt b D (k + 1)) := Lib.hid (Mt.cutAt_lit (by rw [← HN.out]; exact hkn) (by rw [HF.out, HM.out]; intro h; have h1 := h.1; have h2 := h.2; simp only at h1 h2; omega))
          have HSK : Hid (SlK 3 _ (.slice (some ⟨w2.heap.size + 1, 0, none⟩) 1 1) 1 _) := Lib.hid (by have h := SlK_step35 (w2.alloc (.cells #[.int .i64 (m1 : Int), .int .i64 (m2 : Int), .int .u8 0] 35)) 0 0 (Mt.byt b k); rw [World.size_alloc] at h; exact h)
          go_wp2_with (refine wpList_appK 28 35 i0 (.agg #[.int .i64 0, .int .i64 0, .int .u8 0]) 3 24 Try.underlying28 HI0.out.1 HI0.out.2.1 HI0.out.2.2.1 HI0.out.2.2.2 rfl (by decide) (by decide) rfl _ _ rfl w.heap.size (.slice p6 acc.length cap6) (.slice (some ⟨w2.heap.size + 1, 0, none⟩) 1 1) acc.length 1 (ns acc) [.int .i64 0, .int .i64 0, .int .u8 (bi (Mt.byt b k))] rfl rfl (by intro y hy; simp at hy; rcases hy with rfl | rfl | rfl <;> rfl) (own_staysK HR2.out.own (fun j hj => heap_alloc_old _ _ (HR2.out.own.lt j hj).2)) HSK.out (by have := HSZ.out; simp at this ⊢; omega) (by omega) ?_; intro v' w5 hown hgrow _; have HR5 := Lib.hid (HR2.out.app (0, 0, Mt.byt b k) ((Below.refl _ _).alloc (Nat.le_refl _) _) hown hgrow); obtain ⟨p7, cap7, hv'⟩ := own_shape hown; clear hown hgrow; subst hv')
          refine ⟨⟨k + 1, acc ++ [(0, 0, Mt.byt b k)], hkn, ?_, ?_, ?_, HR5.out⟩, ?_⟩
          · go_num
          · rw [List.append_assoc, List.singleton_append, ← HCT.out]; exact HAC.out
          · rw [List.length_append, List.length_singleton]; omega
          · simp only [intOf]; omega
    · have hkni : (n : Int) ≤ (k : Int) := by omega
      obtain rfl : k = n := by omega
      have HE : Hid (acc = Mt.cutAt b D 0) := Lib.hid (by rw [← HAC.out, Mt.cutAt_end (by rw [← HN.out]; exact Nat.le_refl _), List.append_nil])
      go_wp2_with fail
      go_ret2
      refine ⟨_, rfl, ?_, HR.out.below⟩
      rw [← HE.out]
      exact HR.out.own
end Go.Proofs.Ytghphgpbgekoiaa
