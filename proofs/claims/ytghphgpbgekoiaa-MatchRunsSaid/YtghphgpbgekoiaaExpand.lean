/-
  expanded, Expand.
-/
import Derived.Test.YtghphgpbgekoiaaSizes
namespace Go.Proofs.Ytghphgpbgekoiaa
open Go.RowKit
theorem own_neT {base k g : Nat} {ty ty' : TypeId} {w : World} {v : Value} {n : Nat} {l : List Value} {cs : Array Value} (h : w.ownsRow base ty k v n l) (hg : w.heap[g]? = some (.cells cs ty' (0, 0))) (hne : ty ≠ ty') : v.ownBlock ≠ some g := by
  obtain ⟨h0, ⟨h1, h2⟩ | ⟨g', cap, cur, h1, h2, h3, h4⟩⟩ := h
  · rw [h1]; intro e; cases e
  · rw [h1]
    intro e
    simp [Value.ownBlock] at e
    subst e
    rw [hg] at h3
    simp at h3
    exact hne h3.2.symm
/-- Bytes of the call's own, from base on. -/
abbrev OwnB (base : Nat) (w : World) (v : Value) (l : List UInt8) : Prop := w.ownsRow base 5 1 v l.length (bl l)
theorem SlK_byte (w : World) (z : UInt8) : SlK 1 (w.alloc (.cells #[.int .u8 (bi z)] 5)) (.slice (some ⟨w.heap.size, 0, none⟩) 1 1) 1 (bl [z]) := by
  refine ⟨rfl, .inl ⟨w.heap.size, 0, 1, rfl, Nat.le_refl _, fun i v hi => ?_⟩⟩
  rw [Nat.zero_add]
  exact (cell_of_row _ _ _ _ _ _ (heap_alloc_new w _)).trans (by simpa [bl] using hi)
/-- The step's block and the bytes under way. -/
structure Ex (base : Nat) (w wr : World) (gs : Nat) (s : Mt.St) (v : Value) (l : List UInt8) : Prop where
  below : Below base w wr
  step : wr.heap[gs]? = some (.cells #[.int .i64 (s.1 : Int), .int .i64 (s.2.1 : Int), .int .u8 (bi s.2.2)] 32 (0, 0))
  own : OwnB base wr v l
  le : base ≤ gs
theorem Ex.app {base : Nat} {w wr wa w2 : World} {gs : Nat} {s : Mt.St} {v v' : Value} {l : List UInt8} (h : Ex base w wr gs s v l) (z : UInt8) (hwa : Below wr.heap.size wr wa)
    (hown : w2.ownsRow base 5 1 v' (l.length + 1) (bl l ++ bl [z])) (hgrow : wa.grownBy w2 v.ownBlock) : Ex base w w2 gs s v' (l ++ [z]) := by
  have hgl := (Array.getElem?_eq_some_iff.1 h.step).1
  have hbs : base ≤ wr.heap.size := Nat.le_trans h.le (Nat.le_of_lt hgl)
  refine ⟨(h.below.trans (hwa.mono hbs)).grown hgrow (Nat.le_trans hbs hwa.size) (fun k hk => (h.own.lt k hk).1), ?_, ?_, h.le⟩
  · rw [hgrow.block gs (Nat.lt_of_lt_of_le hgl hwa.size) (fun e => own_neT h.own h.step (by decide) e.symm), hwa.block gs hgl]; exact h.step
  · unfold OwnB; rw [bl_append, List.length_append]; exact hown
set_option maxRecDepth 100000 in
set_option maxHeartbeats 4000000 in
theorem expanded_walk (base : Nat) (w : World) (s : Mt.St) (v : Value) (l : List UInt8) (hB : base ≤ w.heap.size) (ho : OwnB base w v l) (hok : Mt.okS s l.length) (hl : l.length ≤ 1099511) :
    Calls Try.prog 25 #[stp3 s, v] w fun e w' => ∃ v', e = .returned v' ∧ OwnB base w' v' (Mt.outS l s) ∧ Below base w w' := by
  obtain ⟨i0, hi, hz0, hz1, hz2⟩ := info_parts info5
  have HI0 := Lib.hid (And.intro hi (And.intro hz0 (And.intro hz1 hz2)))
  clear hi hz0 hz1 hz2
  obtain ⟨p, cap, rfl⟩ := own_shape ho
  obtain ⟨x, y, z⟩ := s
  have hE0 : Ex base w (w.alloc (.cells #[.int .i64 (x : Int), .int .i64 (y : Int), .int .u8 (bi z)] 32)) w.heap.size (x, y, z) (.slice p l.length cap) l :=
    ⟨(Below.refl _ _).alloc hB _, heap_alloc_new w _, own_staysK ho (fun k hk => heap_alloc_old _ _ (ho.lt k hk).2), hB⟩
  have HE0 := Lib.hid hE0
  have HLI := Lib.hid (fun wx => literal_walk wx (x, y, z))
  have HOK := Lib.hid hok
  have HBS := Lib.hid hB
  clear hE0 ho hok
  unfold stp3 at HLI ⊢
  go_enter Try.func25, Try.ntmps25
  go_wp2_with fail
  refine (HLI.out _).mono ?_
  rintro e w2 ⟨rfl, hb2⟩
  have hE2 : Ex base w w2 w.heap.size (x, y, z) (.slice p l.length cap) l :=
    ⟨HE0.out.below.trans (hb2.mono (Nat.le_trans HBS.out (by simp))), (hb2.block _ (Array.getElem?_eq_some_iff.1 HE0.out.step).1).trans HE0.out.step, own_staysK HE0.out.own (fun k hk => hb2.block k (HE0.out.own.lt k hk).2), HBS.out⟩
  have HE2 := Lib.hid hE2
  have HSZ2 : Hid (base ≤ w2.heap.size) := Lib.hid (Nat.le_trans HBS.out (Nat.le_of_lt (Array.getElem?_eq_some_iff.1 hE2.step).1))
  obtain ⟨c0, c1, c2, -⟩ := row3 hE2.step
  simp only at c0 c1 c2
  clear hE2 hb2 HE0 HLI
  by_cases hx0 : x = 0
  · subst hx0
    have HSK := Lib.hid (SlK_byte w2 z)
    go_wp2_with (refine wpList_appK 22 5 i0 (.int .u8 0) 1 1 Try.underlying22 HI0.out.1 HI0.out.2.1 HI0.out.2.2.1 HI0.out.2.2.2 rfl (by decide) (by decide) rfl _ _ rfl base (.slice p l.length cap) (.slice (some ⟨w2.heap.size, 0, none⟩) 1 1) l.length 1 (bl l) (bl [z]) rfl rfl (bl_one _) (own_staysK HE2.out.own (fun j hj => heap_alloc_old _ _ (HE2.out.own.lt j hj).2)) HSK.out (by have := HSZ2.out; simp; omega) (by omega) ?_; intro v' w5 hown hgrow _; have HE5 := Lib.hid (HE2.out.app z ((Below.refl _ _).alloc (Nat.le_refl _) _) hown hgrow); obtain ⟨p6, cap6, hv'⟩ := own_shape hown; clear hown hgrow; subst hv')
    go_ret
    exact ⟨_, rfl, HE5.out.own, HE5.out.below⟩
  · have hxd : decide (x = 0) = false := decide_eq_false hx0
    rcases HOK.out with h | ⟨h1, h2, h3, h4, h5, h6⟩
    · exact absurd h hx0
    · simp only at h1 h2 h3 h4 h5 h6
      subst h6
      go_wp2_with fail
      go_loopw [1, 14] (fun v1 v14 wr => ∃ (i : Nat) (m : List UInt8), i ≤ x ∧ v14 = .int .i64 i ∧ Mt.cpy (x - i) y m = Mt.cpy x y l ∧ m.length = l.length + i ∧ Ex base w wr w.heap.size (x, y, 0) v1 m) (fun _ v14 _ => x - (intOf v14).toNat)
      case atStart => exact ⟨0, l, Nat.zero_le _, rfl, rfl, rfl, HE2.out⟩
      case round =>
        obtain ⟨i, m, hi, rfl, hcp, hml, hE⟩ := hrel
        obtain ⟨p5, cap5, rfl⟩ := own_shape hE.own
        have HE := Lib.hid hE
        have HCP := Lib.hid hcp
        have HML := Lib.hid hml
        have hmle : m.length ≤ 1100000 := by omega
        have hym : y ≤ m.length := by omega
        clear hml
        obtain ⟨d0, d1, d2, -⟩ := row3 hE.step
        simp only at d0 d1 d2
        clear hE hcp HE2 c0 c1 c2
        by_cases hix : i < x
        · have hixi : (i : Int) < (x : Int) := by omega
          obtain ⟨g, o, rfl, hrow⟩ := (own_toV HE.out.own).some (by omega)
          have hcap := (own_toV HE.out.own).le
          have hcb := hrow.bl (m.length - y) (by omega)
          have hr1 : 0 ≤ (m.length : Int) - (y : Int) := by omega
          have hr2 : (m.length : Int) - (y : Int) < (m.length : Int) := by omega
          have hr3 : ((m.length : Int) - (y : Int)).toNat = m.length - y := by omega
          have HST : Hid (Mt.cpy (x - (i + 1)) y (m ++ [Mt.byt m (m.length - y)]) = Mt.cpy x y l) := Lib.hid (by
            rw [← HCP.out, show x - i = (x - (i + 1)) + 1 by omega]
            rfl)
          generalize Mt.byt m (m.length - y) = q at *
          have HSK := Lib.hid (SlK_byte wr q)
          have hwsz : base ≤ wr.heap.size := Nat.le_trans HE.out.le (Nat.le_of_lt (Array.getElem?_eq_some_iff.1 HE.out.step).1)
          have HWZ := Lib.hid hwsz
          clear hrow hwsz
          go_wp2_with (refine wpList_appK 22 5 i0 (.int .u8 0) 1 1 Try.underlying22 HI0.out.1 HI0.out.2.1 HI0.out.2.2.1 HI0.out.2.2.2 rfl (by decide) (by decide) rfl _ _ rfl base (.slice (some ⟨g, o, none⟩) m.length cap5) (.slice (some ⟨wr.heap.size, 0, none⟩) 1 1) m.length 1 (bl m) (bl [q]) rfl rfl (bl_one _) (own_staysK HE.out.own (fun j hj => heap_alloc_old _ _ (HE.out.own.lt j hj).2)) HSK.out (by have := HWZ.out; simp; omega) (by omega) ?_; intro v' w5 hown hgrow _; have HE5 := Lib.hid (HE.out.app q ((Below.refl _ _).alloc (Nat.le_refl _) _) hown hgrow); obtain ⟨p6, cap6, hv'⟩ := own_shape hown; clear hown hgrow; subst hv')
          refine ⟨⟨i + 1, m ++ [q], hix, ?_, HST.out, ?_, HE5.out⟩, ?_⟩
          · go_num
          · rw [List.length_append, List.length_singleton, HML.out]; omega
          · simp only [intOf]; omega
        · have hixi : (x : Int) ≤ (i : Int) := by omega
          obtain rfl : i = x := by omega
          have HFN : Hid (Mt.outS l (i, y, 0) = m) := Lib.hid (by
            have h9 := HCP.out
            rw [Nat.sub_self] at h9
            have h8 : m = Mt.cpy i y l := h9
            unfold Mt.outS
            rw [if_neg (by show ¬ i = 0; omega)]
            exact h8.symm)
          go_wp2_with fail
          go_ret
          exact ⟨_, rfl, by rw [HFN.out]; exact HE.out.own, HE.out.below⟩
theorem outS_length (l : List UInt8) (s : Mt.St) : (Mt.outS l s).length = l.length + Mt.mk s := by
  unfold Mt.outS Mt.mk
  by_cases h : s.1 = 0
  · rw [if_pos h, h]; simp
  · rw [if_neg h, Mt.cpy_length]; omega
theorem outL_take (ss : List Mt.St) (i : Nat) (h : i < ss.length) : Mt.outL [] (ss.take (i + 1)) = Mt.outS (Mt.outL [] (ss.take i)) ss[i] := by
  unfold Mt.outL
  rw [List.take_add_one, List.getElem?_eq_getElem h, Option.toList_some, List.foldl_append]
  rfl
theorem outL_length (ss : List Mt.St) : ∀ i, i ≤ ss.length → (Mt.outL [] (ss.take i)).length = Mt.sizeL (ss.take i)
  | 0, _ => rfl
  | i + 1, h => by rw [outL_take ss i (by omega), outS_length, outL_length ss i (by omega), sizeL_take ss i (by omega)]
def expE (ss : List Mt.St) (c : Int) : Int := if c < 0 then 1 else if c < (Mt.sizeL ss : Nat) then 22 else 0
def ExpPost (ss : List Mt.St) (c : Int) (w : World) (e : Ending) (w' : World) : Prop :=
  ∃ v, e = .returned (.tuple #[v, .int .i64 (expE ss c)]) ∧ Below w.heap.size w w' ∧ (expE ss c = 0 → OwnB w.heap.size w' v (Mt.outL [] ss)) ∧ (expE ss c ≠ 0 → v = .slice none 0 0)
set_option maxRecDepth 100000 in
set_option maxHeartbeats 4000000 in
theorem expand_walk (w : World) (v : Value) (ss : List Mt.St) (c : Int) (hs : SlS w v ss) (hl : ss.length ≤ 1000000) (hz : Mt.sizeL ss ≤ 1000000) (hok : Mt.okL ss 0) :
    Calls Try.prog 15 #[v, .int .i64 c] w (ExpPost ss c w) := by
  obtain ⟨i0, hi, hz0, hz1, hz2⟩ := info_parts info5
  have HI0 := Lib.hid (And.intro hi (And.intro hz0 (And.intro hz1 hz2)))
  clear hi hz0 hz1 hz2
  obtain ⟨p, cap, rfl⟩ := SlK.shape hs
  obtain ⟨n, hn⟩ : ∃ n, n = ss.length := ⟨_, rfl⟩
  have HS : Hid (SlS w (.slice p n cap) ss) := Lib.hid (by rw [hn]; exact hs)
  rw [← hn] at hl ⊢
  have HN := Lib.hid hn
  have HZ := Lib.hid hz
  have HOK := Lib.hid hok
  have HBAD : Hid (∀ E : Int, E ≠ 0 → expE ss c = E → ∀ w9, Below w.heap.size w w9 → ExpPost ss c w (.returned (.tuple #[.slice none 0 0, .int .i64 E])) w9) := Lib.hid (fun E h0 h1 w9 hb => ⟨.slice none 0 0, by rw [h1], hb, fun h => absurd (h1.symm.trans h) h0, fun _ => rfl⟩)
  have hmay := may_walk w _ ss HS.out (by rw [← HN.out]; omega) (by omega) hok
  have HSW : Hid (∀ wx, Below w.heap.size w wx → Calls Try.prog 17 #[.slice p n cap] wx fun e w' => e = .returned (.int .i64 (Mt.sizeL ss : Nat)) ∧ Below wx.heap.size wx w') := Lib.hid (fun wx hx => size_walk wx _ ss (SlK.below HS.out hx (Nat.le_refl _)) (by rw [← HN.out]; omega) (by have := HZ.out; omega))
  clear hs hn hz hok
  go_enter Try.func15, Try.ntmps15
  go_wp2_with fail
  refine hmay.mono ?_
  rintro e w1 ⟨rfl, hb1⟩
  have HB1 := Lib.hid hb1
  clear hmay hb1
  by_cases hc0 : c < 0
  · have HE : Hid (expE ss c = 1) := Lib.hid (by unfold expE; rw [if_pos hc0])
    go_wp2_with fail
    go_ret2
    exact HBAD.out 1 (by decide) HE.out _ HB1.out
  · have hc0' : decide (c < 0) = false := decide_eq_false hc0
    go_wp2_with fail
    refine (HSW.out _ HB1.out).mono ?_
    rintro e w2 ⟨rfl, hb2⟩
    have HB2 := Lib.hid (bt HB1.out hb2)
    clear hb2
    obtain ⟨Z, hZ⟩ : ∃ Z, Z = Mt.sizeL ss := ⟨_, rfl⟩
    rw [← hZ]
    have HZZ := Lib.hid hZ
    have hz9 := HZ.out
    rw [← hZ] at hz9
    clear hZ
    by_cases hcz : c < (Z : Int)
    · have HE : Hid (expE ss c = 22) := Lib.hid (by unfold expE; rw [if_neg (by omega), if_pos (by rw [← HZZ.out]; exact hcz)])
      go_wp2_with fail
      go_ret2
      exact HBAD.out 22 (by decide) HE.out _ HB2.out
    · have HE : Hid (expE ss c = 0) := Lib.hid (by unfold expE; rw [if_neg (by omega), if_neg (by rw [← HZZ.out]; omega)])
      have hcz' : decide (c < (Z : Int)) = false := decide_eq_false hcz
      go_wp2_with (at_make; refine wpList_make_own w2 rfl _ _ 22 rfl w.heap.size 5 i0 (.int .u8 0) 1 Try.underlying22 HI0.out.1 HI0.out.2.1 HI0.out.2.2.1 .i64 .i64 Z Z rfl rfl rfl (by rw [HI0.out.2.2.2]; omega) (by unfold maxLen; omega) HB2.out.size ?_; intro w3 hown hgrow; have HO3 := Lib.hid hown; have HB3 := Lib.hid (HB2.out.grown hgrow HB2.out.size (fun k e => by cases e)); clear hown hgrow)
      go_loopw [7, 26] (fun v7 v26 wr => ∃ i : Nat, i ≤ n ∧ v26 = .int .i64 i ∧ OwnB w.heap.size wr v7 (Mt.outL [] (ss.take i)) ∧ Below w.heap.size w wr) (fun _ v26 _ => n - (intOf v26).toNat)
      case atStart => exact ⟨0, Nat.zero_le _, rfl, HO3.out, HB3.out⟩
      case round =>
        obtain ⟨i, hi, rfl, hO, hB⟩ := hrel
        have HO := Lib.hid hO
        have HB := Lib.hid hB
        clear hO hB HO3 HB3
        by_cases hin : i < n
        · have hini : (i : Int) < (n : Int) := by omega
          have hil : i < ss.length := by rw [← HN.out]; exact hin
          obtain ⟨g, o, rfl, hcap, hcl⟩ := SlS.at (SlK.below HS.out HB.out (Nat.le_refl _)) (by omega)
          obtain ⟨c0, c1, c2⟩ := hcl i ss[i] (List.getElem?_eq_getElem hil)
          have hoki := okL_at ss 0 i hil HOK.out
          rw [Nat.zero_add, ← outL_length ss i (by omega)] at hoki
          have hlen : (Mt.outL [] (ss.take i)).length ≤ 1000000 := by
            rw [outL_length ss i (by omega)]
            have := sizeL_le ss i
            have := HZ.out
            omega
          have HXT := Lib.hid (outL_take ss i hil)
          have HXP : Hid (∀ wx vx, w.heap.size ≤ wx.heap.size → OwnB w.heap.size wx vx (Mt.outL [] (ss.take i)) → Calls Try.prog 25 #[stp3 ss[i], vx] wx fun e w' => ∃ v', e = .returned v' ∧ OwnB w.heap.size w' v' (Mt.outL [] (ss.take (i + 1))) ∧ Below w.heap.size wx w') := Lib.hid (fun wx vx hwx hox => by
            rw [HXT.out]
            exact expanded_walk w.heap.size wx ss[i] vx _ hwx hox hoki (by omega))
          clear hcl hoki hlen
          unfold stp3 at HXP
          obtain ⟨x, hx⟩ : ∃ x, x = (ss[i]).1 := ⟨_, rfl⟩
          obtain ⟨y, hy⟩ : ∃ y, y = (ss[i]).2.1 := ⟨_, rfl⟩
          obtain ⟨z, hz3⟩ : ∃ z, z = (ss[i]).2.2 := ⟨_, rfl⟩
          rw [← hx] at c0 HXP
          rw [← hy] at c1 HXP
          rw [← hz3] at c2 HXP
          clear hx hy hz3
          have hO2 : OwnB w.heap.size (wr.alloc (.cells #[.int .i64 (x : Int), .int .i64 (y : Int), .int .u8 (bi z)] 32)) _ _ := own_staysK HO.out (fun j hj => heap_alloc_old _ _ (HO.out.lt j hj).2)
          have hcall := HXP.out _ _ (Nat.le_trans HB.out.size (by simp)) hO2
          clear hO2
          go_wp2_with fail
          refine hcall.mono ?_
          rintro e w5 ⟨v5, rfl, hO5, hb5⟩
          have HO5 := Lib.hid hO5
          have HB5 := Lib.hid ((HB.out.alloc HB.out.size (.cells #[.int .i64 (x : Int), .int .i64 (y : Int), .int .u8 (bi z)] 32)).trans hb5)
          clear hcall hO5 hb5
          go_wp2_with fail
          refine ⟨⟨i + 1, hin, ?_, HO5.out, HB5.out⟩, ?_⟩
          · go_num
          · simp only [intOf]; omega
        · have hini : (n : Int) ≤ (i : Int) := by omega
          obtain rfl : i = n := by omega
          have HT : Hid (ss.take i = ss) := Lib.hid (by rw [HN.out, List.take_length])
          go_wp2_with fail
          go_ret2
          exact ⟨_, by rw [HE.out]; rfl, HB.out, fun _ => by rw [← HT.out]; exact HO.out, fun h => absurd HE.out h⟩
end Go.Proofs.Ytghphgpbgekoiaa
