/-
  Merged, in the order in which they build: Steps Cut Stp.
-/
import Derived.Lib.SlBytesConst
import Derived.Test.YtphdcgioeokfbaaDoorMg32
/-
  steps, Cut.
-/
namespace Go.Proofs.YtphdcgioeokfbaaDoor
open Go.RowKit Go.Maps
/-- Steps, as cells. -/
def ns (l : List Mt.St) : List Value := l.flatMap fun s => [.int .i64 (s.1 : Int), .int .i64 (s.2.1 : Int), .int .u8 (bi s.2.2)]
theorem ns_append (a b : List Mt.St) : ns (a ++ b) = ns a ++ ns b := by simp [ns]
theorem ns_length (l : List Mt.St) : (ns l).length = l.length * 3 := by
  induction l with
  | nil => rfl
  | cons s t ih => show (_ :: _ :: _ :: ns t).length = _; simp only [List.length_cons]; rw [ih]; omega
theorem ns_one (l : List Mt.St) : ∀ v ∈ ns l, v.oneCell' = true := by
  intro v hv
  simp only [ns, List.mem_flatMap] at hv
  obtain ⟨s, _, h⟩ := hv
  simp only [List.mem_cons, List.not_mem_nil, or_false] at h
  rcases h with rfl | rfl | rfl <;> rfl
theorem own_leK {base B k : Nat} {e : TypeId} {w : World} {v : Value} {n : Nat} {l : List Value} (h : w.ownsRow base e k v n l) (hB : B ≤ base) : w.ownsRow B e k v n l := by
  obtain ⟨h0, ⟨h1, h2⟩ | ⟨g, cap, cur, h1, h2, h3⟩⟩ := h
  · exact ⟨h0, .inl ⟨h1, h2⟩⟩
  · exact ⟨h0, .inr ⟨g, cap, cur, h1, Nat.le_trans hB h2, h3⟩⟩
theorem own_staysK {base k : Nat} {e : TypeId} {w w' : World} {v : Value} {n : Nat} {l : List Value} (h : w.ownsRow base e k v n l) (hb : ∀ j, v.ownBlock = some j → w'.heap[j]? = w.heap[j]?) : w'.ownsRow base e k v n l := by
  obtain ⟨h0, ⟨h1, h2⟩ | ⟨g, cap, cur, h1, h2, h3, h4⟩⟩ := h
  · exact ⟨h0, .inl ⟨h1, h2⟩⟩
  · exact ⟨h0, .inr ⟨g, cap, cur, h1, h2, (hb g (by rw [h1]; rfl)).trans h3, h4⟩⟩
theorem own_shape {base k : Nat} {e : TypeId} {w : World} {v : Value} {n : Nat} {l : List Value} (h : w.ownsRow base e k v n l) : ∃ p cap, v = .slice p n cap := by
  obtain ⟨_, ⟨h1, h2⟩ | ⟨g, cap, cur, h1, _⟩⟩ := h
  · exact ⟨_, _, by rw [h2]; exact h1⟩
  · exact ⟨_, _, h1⟩
/-- What steps has under way. -/
structure Sp (w wr : World) (gh : Nat) (f : Nat × Nat) (v : Value) (acc : List Mt.St) : Prop where
  below : Below w.heap.size w wr
  here : wr.heap[gh]? = some (.cells (stc f) 63 (0, 0))
  own : wr.ownsRow (gh + 1) 63 3 v acc.length (ns acc)
  ge : w.heap.size ≤ gh
theorem Sp.later {w wr wx : World} {gh : Nat} {f : Nat × Nat} {v : Value} {acc : List Mt.St} (h : Sp w wr gh f v acc) (hb : Below wr.heap.size wr wx) : Sp w wx gh f v acc :=
  ⟨h.below.trans (hb.mono h.below.size), (hb.block _ (Array.getElem?_eq_some_iff.1 h.here).1).trans h.here, own_staysK h.own (fun k hk => hb.block k (h.own.lt k hk).2), h.ge⟩
theorem Sp.put {w wr : World} {gh : Nat} {f : Nat × Nat} {v : Value} {acc : List Mt.St} (h : Sp w wr gh f v acc) (f2 : Nat × Nat) :
    Sp w (((wr.setCell ⟨gh, 0, none⟩ (.int .i64 (f2.1 : Int))).setCell ⟨gh, 1, none⟩ (.int .i64 (f2.2 : Int))).setCell ⟨gh, 2, none⟩ (.int .u8 0)) gh f2 v acc :=
  ⟨below3 h.below h.ge _ _ _, set3 h.here, own_staysK h.own (fun k hk => other3 (by have := (h.own.lt k hk).1; omega) _ _ _), h.ge⟩
theorem Sp.app {w wr wa w2 : World} {gh : Nat} {f : Nat × Nat} {v v' : Value} {acc : List Mt.St} (h : Sp w wr gh f v acc) (s : Mt.St) (hwa : Below wr.heap.size wr wa)
    (hown : w2.ownsRow (gh + 1) 63 3 v' (acc.length + 1) (ns acc ++ ns [s])) (hgrow : wa.grownBy w2 v.ownBlock) : Sp w w2 gh f v' (acc ++ [s]) := by
  have hgl := (Array.getElem?_eq_some_iff.1 h.here).1
  refine ⟨(h.below.trans (hwa.mono h.below.size)).grown hgrow (Nat.le_trans h.below.size hwa.size) (fun k hk => by have := (h.own.lt k hk).1; have := h.ge; omega), ?_, ?_, h.ge⟩
  · rw [hgrow.block gh (Nat.lt_of_lt_of_le hgl hwa.size) (fun e => by have := (h.own.lt gh e.symm).1; omega), hwa.block gh hgl]; exact h.here
  · rw [ns_append, List.length_append]; exact hown
theorem SlK_step (w : World) (x y : Int) (z : UInt8) : SlK 3 (w.alloc (.cells #[.int .i64 x, .int .i64 y, .int .u8 (bi z)] 63)) (.slice (some ⟨w.heap.size, 0, none⟩) 1 1) 1 [.int .i64 x, .int .i64 y, .int .u8 (bi z)] := by
  refine ⟨rfl, .inl ⟨w.heap.size, 0, 1, rfl, Nat.le_refl _, fun i v hi => ?_⟩⟩
  rw [Nat.zero_add]
  exact (cell_of_row _ _ _ _ _ _ (heap_alloc_new w _)).trans (by simpa using hi)
set_option maxRecDepth 100000 in
set_option maxHeartbeats 4000000 in
theorem steps_walk (w : World) (v : Value) (gc : Nat) (vb vf : Value) (d : Int) (b : List UInt8) (hv : SlV w v (bl b)) (hc : ChAt w gc vb vf d b) (hb : b.length ≤ 32768) (hd1 : d ≤ 9223372036854775807) :
    Calls Tryd.prog 14 #[v, .func (.func 16) #[.pointer (some ⟨gc, 0, none⟩)] #[]] w fun e w' => ∃ u, e = .returned u ∧ w'.ownsRow w.heap.size 63 3 u (Mt.cutAt b d.toNat 0).length (ns (Mt.cutAt b d.toNat 0)) ∧ Below w.heap.size w w' := by
  obtain ⟨i0, hi, hz0, hz1, hz2⟩ := info_parts info63
  have HI0 := Lib.hid (And.intro hi (And.intro hz0 (And.intro hz1 hz2)))
  clear hi hz0 hz1 hz2
  obtain ⟨p, cap, rfl⟩ := hv.shape
  obtain ⟨n, hn⟩ : ∃ n, n = b.length := ⟨_, rfl⟩
  rw [bl_length, ← hn] at hv ⊢
  obtain ⟨D, hD⟩ : ∃ D, D = d.toNat := ⟨_, rfl⟩
  rw [← hD]
  have HL : Hid (∀ wx, Below w.heap.size w wx → ∀ k : Nat, k ≤ n → Calls Tryd.prog 16 #[.pointer (some ⟨gc, 0, none⟩), .int .i64 (k : Int)] wx fun e w' => e = .returned (stv (Mt.best b k D)) ∧ Below wx.heap.size wx w') := Lib.hid (fun wx hx k hk => by
    rw [hD]
    exact look_walk wx gc vb vf d b (hc.below hx (Nat.le_refl _)) k (by rw [← hn]; exact hk) hb hd1)
  rw [← hn] at hb
  have HV := Lib.hid hv
  have HN := Lib.hid hn
  clear hv hn hc hD hd1
  go_enter Tryd.func14, Tryd.ntmps14
  have h0 := HL.out w (Below.refl _ _) 0 (Nat.zero_le _)
  obtain ⟨a1, a2, ha⟩ : ∃ a1 a2, Mt.best b 0 D = (a1, a2) := ⟨_, _, rfl⟩
  rw [ha] at h0
  have HA := Lib.hid ha
  clear ha
  go_wp2_with fail
  refine h0.mono ?_
  rintro e w1 ⟨rfl, hb1⟩
  clear h0
  unfold stv stc
  have HS0 : Hid (Sp w (w1.alloc (.cells #[.int .i64 (a1 : Int), .int .i64 (a2 : Int), .int .u8 0] 63)) w1.heap.size (a1, a2) (.slice none 0 0) []) := Lib.hid ⟨hb1.trans (((Below.refl _ _).alloc (Nat.le_refl _) _).mono hb1.size), heap_alloc_new w1 _, World.ownsRow_nil _ _ _ _, hb1.size⟩
  go_wp2_with fail
  generalize (w1.alloc (.cells #[.int .i64 (a1 : Int), .int .i64 (a2 : Int), .int .u8 0] 63)) = w0 at *
  generalize w1.heap.size = gh at *
  go_loopw [5, 7] (fun v5 v7 wr => ∃ (k f1 f2 : Nat) (acc : List Mt.St), k ≤ n ∧ v7 = .int .i64 k ∧ acc ++ Mt.cutAt b D k = Mt.cutAt b D 0 ∧ acc.length ≤ k ∧ Mt.best b k D = (f1, f2) ∧ Sp w wr gh (f1, f2) v5 acc) (fun _ v7 _ => n - (intOf v7).toNat)
  case atStart => exact ⟨0, a1, a2, [], Nat.zero_le _, rfl, rfl, Nat.le_refl _, HA.out, HS0.out⟩
  case round =>
    obtain ⟨k, f1, f2, acc, hk, rfl, hac, hal, hf, hS⟩ := hrel
    obtain ⟨p5, cap5, rfl⟩ := own_shape hS.own
    have HS := Lib.hid hS
    have HAC := Lib.hid hac
    have HF := Lib.hid hf
    clear hS hac hf HS0 HA
    by_cases hkn : k < n
    · have hkni : (k : Int) < (n : Int) := by omega
      have hlk := HL.out _ HS.out.below (k + 1) (by omega)
      rw [show ((k + 1 : Nat) : Int) = (k : Int) + 1 by omega] at hlk
      obtain ⟨m1, m2, hm⟩ : ∃ m1 m2, Mt.best b (k + 1) D = (m1, m2) := ⟨_, _, rfl⟩
      rw [hm] at hlk
      have HM := Lib.hid hm
      clear hm
      go_wp2_with fail
      refine hlk.mono ?_
      rintro e w2 ⟨rfl, hb2⟩
      clear hlk
      unfold stv stc
      have HS3 := Lib.hid (HS.out.later (hb2.trans (((Below.refl _ _).alloc (Nat.le_refl _) (.cells #[.int .i64 (m1 : Int), .int .i64 (m2 : Int), .int .u8 0] 63)).mono hb2.size)))
      have HNX : Hid ((w2.alloc (.cells #[.int .i64 (m1 : Int), .int .i64 (m2 : Int), .int .u8 0] 63)).heap[w2.heap.size]? = some (.cells #[.int .i64 (m1 : Int), .int .i64 (m2 : Int), .int .u8 0] 63 (0, 0))) := Lib.hid (heap_alloc_new w2 _)
      have HNO : Hid (some w2.heap.size ≠ (Value.slice p5 acc.length cap5).ownBlock) := Lib.hid (fun e => by
        have h1 := (HS.out.own.lt _ e.symm).2
        have h2 := hb2.size
        omega)
      obtain ⟨c0, c1, c2, cf0, cf1, cf2⟩ := row3 HS3.out.here
      have c0 : _ = some (Value.int .i64 (f1 : Int)) := c0
      have c1 : _ = some (Value.int .i64 (f2 : Int)) := c1
      have hle : f1 ≤ n - k := by
        have h1 := Mt.best_le b k D
        rw [HF.out] at h1
        unfold Mt.lim at h1
        rw [← HN.out] at h1
        simp only at h1; omega
      clear HS hb2
      obtain ⟨gb, ob, rfl, hrow⟩ := (HV.out.below HS3.out.below (Nat.le_refl _)).some (by omega)
      have hcap := HV.out.le
      have hcb := hrow.blm k (by rw [← HN.out]; exact hkn)
      clear hrow
      have d0 : (w2.alloc (.cells #[.int .i64 (m1 : Int), .int .i64 (m2 : Int), .int .u8 0] 63)).cell? ⟨w2.heap.size, 0, none⟩ = some (.int .i64 (m1 : Int)) := (row3 HNX.out).1
      have HSZ : Hid (gh + 1 ≤ (w2.alloc (.cells #[.int .i64 (m1 : Int), .int .i64 (m2 : Int), .int .u8 0] 63)).heap.size) := Lib.hid (Array.getElem?_eq_some_iff.1 HS3.out.here).1
      by_cases hf1 : 0 < f1
      · have hf1i : (0 : Int) < (f1 : Int) := by omega
        by_cases hmf : m1 ≤ f1
        · have hmfi : (m1 : Int) ≤ (f1 : Int) := by omega
          have HSK : Hid (SlK 3 _ (.slice (some ⟨w2.heap.size + 1, 0, none⟩) 1 1) 1 _) := Lib.hid (by have h := SlK_step (w2.alloc (.cells #[.int .i64 (m1 : Int), .int .i64 (m2 : Int), .int .u8 0] 63)) (f1 : Int) (f2 : Int) 0; rw [World.size_alloc] at h; exact h)
          have HCT : Hid (Mt.cutAt b D k = (f1, f2, 0) :: Mt.cutAt b D (k + f1)) := Lib.hid (by
            have h := Mt.cutAt_copy (b := b) (d := D) (k := k) (by rw [← HN.out]; exact hkn) (by rw [HF.out, HM.out]; exact ⟨hf1, hmf⟩)
            rw [HF.out] at h; exact h)
          go_wp2_with (refine wpList_appK 40 63 i0 (.agg #[.int .i64 0, .int .i64 0, .int .u8 0]) 3 24 Tryd.underlying40 HI0.out.1 HI0.out.2.1 HI0.out.2.2.1 HI0.out.2.2.2 rfl (by decide) (by decide) rfl _ _ rfl (gh + 1) (.slice p5 acc.length cap5) (.slice (some ⟨w2.heap.size + 1, 0, none⟩) 1 1) acc.length 1 (ns acc) [.int .i64 (f1 : Int), .int .i64 (f2 : Int), .int .u8 0] rfl rfl (by intro y hy; simp at hy; rcases hy with rfl | rfl | rfl <;> rfl) (own_staysK HS3.out.own (fun j hj => heap_alloc_old _ _ (HS3.out.own.lt j hj).2)) HSK.out (by have := HSZ.out; simp at this ⊢; omega) (by omega) ?_; intro v' w5 hown hgrow _; have HS5 := Lib.hid (HS3.out.app (f1, f2, 0) ((Below.refl _ _).alloc (Nat.le_refl _) _) hown hgrow); obtain ⟨p6, cap6, hv'⟩ := own_shape hown; have HNX5 : Hid (w5.heap[w2.heap.size]? = some (.cells #[.int .i64 (m1 : Int), .int .i64 (m2 : Int), .int .u8 0] 63 (0, 0))) := Lib.hid (by have h1 := HNX.out; have h2 := (Array.getElem?_eq_some_iff.1 h1).1; rw [hgrow.block _ (Nat.lt_of_lt_of_le h2 (by simp)) (HNO.out), heap_alloc_old _ _ h2]; exact h1); obtain ⟨y0, y1, y2, yf0, yf1, yf2⟩ := row3 HS5.out.here; have y0 : w5.cell? ⟨gh, 0, none⟩ = some (.int .i64 (_ : Int)) := y0; obtain ⟨z0, z1, z2, -⟩ := row3 HNX5.out; clear hown hgrow; subst hv')
          have hlk2 := HL.out _ HS5.out.below (k + f1) (by omega)
          rw [show ((k + f1 : Nat) : Int) = (k : Int) + (f1 : Int) by omega] at hlk2
          obtain ⟨q1, q2, hq⟩ : ∃ q1 q2, Mt.best b (k + f1) D = (q1, q2) := ⟨_, _, rfl⟩
          rw [hq] at hlk2
          have HQ := Lib.hid hq
          clear hq
          refine hlk2.mono ?_
          rintro e w6 ⟨rfl, hb6⟩
          have HS6 := Lib.hid (HS5.out.later hb6)
          clear hlk2 HS5 HSK HNX5 HS3 c0 c1 c2 cf0 cf1 cf2 y0 y1 y2 yf0 yf1 yf2 z0 z1 z2 hb6
          unfold stv stc
          obtain ⟨y0, y1, y2, yf0, yf1, yf2⟩ := row3 HS6.out.here
          have HS7 := Lib.hid (HS6.out.put (q1, q2))
          go_wp2_with fail
          refine ⟨⟨k + f1, q1, q2, acc ++ [(f1, f2, 0)], by omega, ?_, ?_, ?_, HQ.out, HS7.out⟩, ?_⟩
          · go_num
          · rw [List.append_assoc, List.singleton_append, ← HCT.out]; exact HAC.out
          · rw [List.length_append, List.length_singleton]; omega
          · simp only [intOf]; omega
        · have hmfi : (f1 : Int) < (m1 : Int) := by omega
          have HSK : Hid (SlK 3 _ (.slice (some ⟨w2.heap.size + 1, 0, none⟩) 1 1) 1 _) := Lib.hid (by have h := SlK_step (w2.alloc (.cells #[.int .i64 (m1 : Int), .int .i64 (m2 : Int), .int .u8 0] 63)) 0 0 (Mt.byt b k); rw [World.size_alloc] at h; exact h)
          have HCT : Hid (Mt.cutAt b D k = (0, 0, Mt.byt b k) :: Mt.cutAt b D (k + 1)) := Lib.hid (Mt.cutAt_lit (by rw [← HN.out]; exact hkn) (by rw [HF.out, HM.out]; intro h; have h1 := h.1; have h2 := h.2; simp only at h1 h2; omega))
          go_wp2_with (refine wpList_appK 40 63 i0 (.agg #[.int .i64 0, .int .i64 0, .int .u8 0]) 3 24 Tryd.underlying40 HI0.out.1 HI0.out.2.1 HI0.out.2.2.1 HI0.out.2.2.2 rfl (by decide) (by decide) rfl _ _ rfl (gh + 1) (.slice p5 acc.length cap5) (.slice (some ⟨w2.heap.size + 1, 0, none⟩) 1 1) acc.length 1 (ns acc) [.int .i64 0, .int .i64 0, .int .u8 (bi (Mt.byt b k))] rfl rfl (by intro y hy; simp at hy; rcases hy with rfl | rfl | rfl <;> rfl) (own_staysK HS3.out.own (fun j hj => heap_alloc_old _ _ (HS3.out.own.lt j hj).2)) HSK.out (by have := HSZ.out; simp at this ⊢; omega) (by omega) ?_; intro v' w5 hown hgrow _; have HS5 := Lib.hid (HS3.out.app (0, 0, Mt.byt b k) ((Below.refl _ _).alloc (Nat.le_refl _) _) hown hgrow); obtain ⟨p6, cap6, hv'⟩ := own_shape hown; have HNX5 : Hid (w5.heap[w2.heap.size]? = some (.cells #[.int .i64 (m1 : Int), .int .i64 (m2 : Int), .int .u8 0] 63 (0, 0))) := Lib.hid (by have h1 := HNX.out; have h2 := (Array.getElem?_eq_some_iff.1 h1).1; rw [hgrow.block _ (Nat.lt_of_lt_of_le h2 (by simp)) (HNO.out), heap_alloc_old _ _ h2]; exact h1); obtain ⟨y0, y1, y2, yf0, yf1, yf2⟩ := row3 HS5.out.here; have y0 : w5.cell? ⟨gh, 0, none⟩ = some (.int .i64 (_ : Int)) := y0; obtain ⟨z0, z1, z2, -⟩ := row3 HNX5.out; clear hown hgrow; subst hv')
          have HS6 := Lib.hid (HS5.out.put (m1, m2))
          refine ⟨⟨k + 1, m1, m2, acc ++ [(0, 0, Mt.byt b k)], hkn, ?_, ?_, ?_, HM.out, HS6.out⟩, ?_⟩
          · go_num
          · rw [List.append_assoc, List.singleton_append, ← HCT.out]; exact HAC.out
          · rw [List.length_append, List.length_singleton]; omega
          · simp only [intOf]; omega
      · have hf1i : ¬ (0 : Int) < (f1 : Int) := by omega
        obtain rfl : f1 = 0 := by omega
        have HSK : Hid (SlK 3 _ (.slice (some ⟨w2.heap.size + 1, 0, none⟩) 1 1) 1 _) := Lib.hid (by have h := SlK_step (w2.alloc (.cells #[.int .i64 (m1 : Int), .int .i64 (m2 : Int), .int .u8 0] 63)) 0 0 (Mt.byt b k); rw [World.size_alloc] at h; exact h)
        have HCT : Hid (Mt.cutAt b D k = (0, 0, Mt.byt b k) :: Mt.cutAt b D (k + 1)) := Lib.hid (Mt.cutAt_lit (by rw [← HN.out]; exact hkn) (by rw [HF.out, HM.out]; intro h; have h1 := h.1; have h2 := h.2; simp only at h1 h2; omega))
        go_wp2_with (refine wpList_appK 40 63 i0 (.agg #[.int .i64 0, .int .i64 0, .int .u8 0]) 3 24 Tryd.underlying40 HI0.out.1 HI0.out.2.1 HI0.out.2.2.1 HI0.out.2.2.2 rfl (by decide) (by decide) rfl _ _ rfl (gh + 1) (.slice p5 acc.length cap5) (.slice (some ⟨w2.heap.size + 1, 0, none⟩) 1 1) acc.length 1 (ns acc) [.int .i64 0, .int .i64 0, .int .u8 (bi (Mt.byt b k))] rfl rfl (by intro y hy; simp at hy; rcases hy with rfl | rfl | rfl <;> rfl) (own_staysK HS3.out.own (fun j hj => heap_alloc_old _ _ (HS3.out.own.lt j hj).2)) HSK.out (by have := HSZ.out; simp at this ⊢; omega) (by omega) ?_; intro v' w5 hown hgrow _; have HS5 := Lib.hid (HS3.out.app (0, 0, Mt.byt b k) ((Below.refl _ _).alloc (Nat.le_refl _) _) hown hgrow); obtain ⟨p6, cap6, hv'⟩ := own_shape hown; have HNX5 : Hid (w5.heap[w2.heap.size]? = some (.cells #[.int .i64 (m1 : Int), .int .i64 (m2 : Int), .int .u8 0] 63 (0, 0))) := Lib.hid (by have h1 := HNX.out; have h2 := (Array.getElem?_eq_some_iff.1 h1).1; rw [hgrow.block _ (Nat.lt_of_lt_of_le h2 (by simp)) (HNO.out), heap_alloc_old _ _ h2]; exact h1); obtain ⟨y0, y1, y2, yf0, yf1, yf2⟩ := row3 HS5.out.here; have y0 : w5.cell? ⟨gh, 0, none⟩ = some (.int .i64 (_ : Int)) := y0; obtain ⟨z0, z1, z2, -⟩ := row3 HNX5.out; clear hown hgrow; subst hv')
        have HS6 := Lib.hid (HS5.out.put (m1, m2))
        refine ⟨⟨k + 1, m1, m2, acc ++ [(0, 0, Mt.byt b k)], hkn, ?_, ?_, ?_, HM.out, HS6.out⟩, ?_⟩
        · go_num
        · rw [List.append_assoc, List.singleton_append, ← HCT.out]; exact HAC.out
        · rw [List.length_append, List.length_singleton]; omega
        · simp only [intOf]; omega
    · have hkni : (n : Int) ≤ (k : Int) := by omega
      obtain rfl : k = n := by omega
      have HE : Hid (acc = Mt.cutAt b D 0) := Lib.hid (by rw [← HAC.out, Mt.cutAt_end (by rw [← HN.out]; exact Nat.le_refl _), List.append_nil])
      go_wp2_with fail
      go_ret
      refine ⟨_, rfl, ?_, HS.out.below⟩
      rw [← HE.out]
      exact own_leK HS.out.own (Nat.le_succ_of_le HS.out.ge)
end Go.Proofs.YtphdcgioeokfbaaDoor
/-
  Cut.
-/
namespace Go.Proofs.YtphdcgioeokfbaaDoor
open Go.RowKit Go.Maps
def CutPost (b : List UInt8) (d : Int) (w : World) (e : Ending) (w' : World) : Prop :=
  ∃ u, e = .returned (.tuple #[u, .int .i64 (if 1 ≤ d ∧ d ≤ 32768 then 0 else 1)]) ∧ Below w.heap.size w w' ∧ (1 ≤ d ∧ d ≤ 32768 → w'.ownsRow w.heap.size 63 3 u (Mt.cutAt b d.toNat 0).length (ns (Mt.cutAt b d.toNat 0))) ∧ (¬ (1 ≤ d ∧ d ≤ 32768) → u = .slice none 0 0)
set_option maxRecDepth 100000 in
set_option maxHeartbeats 4000000 in
theorem Cut_walk (w : World) (v : Value) (b : List UInt8) (d : Int) (hv : SlV w v (bl b)) (hb : b.length ≤ 32768) : Calls Tryd.prog 12 #[v, .int .i64 d] w (CutPost b d w) := by
  have hmf : ∀ (fn : Fn) (first cap : Array Value) (w : World), (Instr.makeFunc fn first cap).run Tryd.prog w = .ok (.func fn first cap) w := fun _ _ _ _ => rfl
  have HV := Lib.hid hv
  have HB := Lib.hid hb
  clear hv
  go_enter Tryd.func12, Tryd.ntmps12
  by_cases h1 : 1 ≤ d
  · have d1 : decide (d < 1) = false := decide_eq_false (by omega)
    by_cases h2 : d ≤ 32768
    · have d2 : decide (32768 < d) = false := decide_eq_false (by omega)
      have HE : Hid ((if 1 ≤ d ∧ d ≤ 32768 then (0 : Int) else 1) = 0) := Lib.hid (if_pos ⟨h1, h2⟩)
      go_wp2_with fail
      refine (chained_walk w v b d HV.out HB.out).mono ?_
      rintro e w1 ⟨gc, vf, rfl, hc, hb1⟩
      have HC := Lib.hid hc
      have HB1 := Lib.hid hb1
      clear hc hb1
      go_wp2_with fail
      refine (steps_walk w1 v gc v vf d b (HV.out.below HB1.out (Nat.le_refl _)) HC.out HB.out (by omega)).mono ?_
      rintro e w2 ⟨u, rfl, ho, hb2⟩
      have HO := Lib.hid ho
      have HB2 := Lib.hid (bt HB1.out hb2)
      clear ho hb2
      go_wp2_with fail
      go_ret2
      exact ⟨u, by rw [HE.out]; rfl, HB2.out, fun _ => own_leK HO.out HB1.out.size, fun h => absurd ⟨h1, h2⟩ h⟩
    · have HE : Hid ((if 1 ≤ d ∧ d ≤ 32768 then (0 : Int) else 1) = 1) := Lib.hid (if_neg (fun h => h2 h.2))
      have d2 : decide (32768 < d) = true := decide_eq_true (by omega)
      go_wp2_with fail
      go_ret2
      exact ⟨.slice none 0 0, by rw [HE.out]; rfl, Below.refl _ _, fun h => by omega, fun _ => rfl⟩
  · have HE : Hid ((if 1 ≤ d ∧ d ≤ 32768 then (0 : Int) else 1) = 1) := Lib.hid (if_neg (fun h => h1 h.1))
    have d1 : decide (d < 1) = true := decide_eq_true (by omega)
    go_wp2_with fail
    go_ret2
    exact ⟨.slice none 0 0, by rw [HE.out]; rfl, Below.refl _ _, fun h => by omega, fun _ => rfl⟩
end Go.Proofs.YtphdcgioeokfbaaDoor
/-
  The chapter's examples: wakes.
-/
namespace Go.Proofs.YtphdcgioeokfbaaDoor
open Go.RowKit Go.Maps
theorem own_toK {base k : Nat} {e : TypeId} {w : World} {v : Value} {n : Nat} {l : List Value} (h : w.ownsRow base e k v n l) (hl : l.length = n * k) : SlK k w v n l := by
  obtain ⟨h0, ⟨h1, h2⟩ | ⟨g, cap, cur, h1, h2, h3, h4, h5, h6, h7⟩⟩ := h
  · exact ⟨hl, .inr ⟨none, h1, by omega⟩⟩
  · refine ⟨hl, .inl ⟨g, 0, cap, h1, by omega, fun i u hi => ?_⟩⟩
    rw [Nat.zero_add, cell_of_row _ _ _ _ _ _ h3]
    have hi' := (List.getElem?_eq_some_iff.1 hi).1
    have e : cur.toList[i]? = l[i]? := by
      rw [← h7, List.getElem?_take, if_pos (by omega)]
    rw [← Array.getElem?_toList, e, hi]
theorem SlK.below {k m : Nat} {w w' : World} {v : Value} {vs : List Value} (h : SlK k w v m vs) {B : Nat} (hb : Below B w w') (hB : w.heap.size ≤ B) : SlK k w' v m vs := by
  obtain ⟨h0, ⟨g, o, cap, h1, h2, h3⟩ | h⟩ := h
  · refine ⟨h0, .inl ⟨g, o, cap, h1, h2, fun i u hi => ?_⟩⟩
    have h4 := h3 i u hi
    have h5 := block_lt_of_cell h4
    exact (hb.cell (p := ⟨g, o + i, none⟩) (Nat.lt_of_lt_of_le h5 hB)).trans h4
  · exact ⟨h0, .inr h⟩
theorem SlK.shape {k m : Nat} {w : World} {v : Value} {vs : List Value} (h : SlK k w v m vs) : ∃ p cap, v = .slice p m cap := by
  obtain ⟨_, ⟨g, o, cap, h, _⟩ | ⟨p, h, rfl⟩⟩ := h
  · exact ⟨_, _, h⟩
  · exact ⟨_, _, h⟩
/-- Steps in memory. -/
def SlS (w : World) (v : Value) (ss : List Mt.St) : Prop := SlK 3 w v ss.length (ns ss)
theorem ns_get (ss : List Mt.St) : ∀ (i : Nat) (s : Mt.St), ss[i]? = some s → (ns ss)[i * 3]? = some (.int .i64 (s.1 : Int)) ∧ (ns ss)[i * 3 + 1]? = some (.int .i64 (s.2.1 : Int)) ∧ (ns ss)[i * 3 + 2]? = some (.int .u8 (bi s.2.2)) := by
  induction ss with
  | nil => intro i s h; simp at h
  | cons a t ih =>
    intro i s h
    cases i with
    | zero => simp at h; subst h; exact ⟨rfl, rfl, rfl⟩
    | succ i =>
      simp at h
      obtain ⟨h1, h2, h3⟩ := ih i s h
      have e : ns (a :: t) = .int .i64 (a.1 : Int) :: .int .i64 (a.2.1 : Int) :: .int .u8 (bi a.2.2) :: ns t := rfl
      rw [e, show (i + 1) * 3 = i * 3 + 1 + 1 + 1 by omega]
      simp only [List.getElem?_cons_succ]
      exact ⟨h1, h2, h3⟩
theorem SlS.at {w : World} {p : Option Addr} {n cap : Nat} {ss : List Mt.St} (h : SlS w (.slice p n cap) ss) (h0 : 0 < n) : ∃ g o, p = some ⟨g, o, none⟩ ∧ n ≤ cap ∧ ∀ i s, ss[i]? = some s →
    w.cell? ⟨g, o + i * 3, none⟩ = some (.int .i64 (s.1 : Int)) ∧ w.cell? ⟨g, o + i * 3 + 1, none⟩ = some (.int .i64 (s.2.1 : Int)) ∧ w.cell? ⟨g, o + i * 3 + 2, none⟩ = some (.int .u8 (bi s.2.2)) := by
  obtain ⟨_, ⟨g, o, cap', h, h2, hB⟩ | ⟨p', h, h3⟩⟩ := h
  · cases h
    refine ⟨g, o, rfl, h2, fun i s hi => ?_⟩
    obtain ⟨h1, h3, h4⟩ := ns_get ss i s hi
    exact ⟨hB _ _ h1, by rw [Nat.add_assoc]; exact hB _ _ h3, by rw [Nat.add_assoc]; exact hB _ _ h4⟩
  · cases h; omega
theorem own_toS {B : Nat} {w : World} {v : Value} {ss : List Mt.St} (h : w.ownsRow B 63 3 v ss.length (ns ss)) : SlS w v ss := own_toK h (ns_length ss)
end Go.Proofs.YtphdcgioeokfbaaDoor
