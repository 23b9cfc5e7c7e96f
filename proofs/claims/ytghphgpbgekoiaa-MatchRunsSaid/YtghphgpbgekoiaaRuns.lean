/-
  MatchRuns: the law's walk.
-/
import Derived.Test.YtghphgpbgekoiaaExpand
import Derived.Test.YtghphgpbgekoiaaWakes
import Derived.Test.YtghphgpbgekoiaaClone
import Derived.Test.YtghphgpbgekoiaaSame
import Derived.Test.YtghphgpbgekoiaaRepeat
import Derived.Test.YtghphgpbgekoiaaBytes
namespace Go.Proofs.Ytghphgpbgekoiaa
open Go.RowKit
theorem neq32 (w : World) (x y z x' y' z' : Int) : (binOp .neq 32 (.agg #[.int .i64 x, .int .i64 y, .int .u8 z]) (.agg #[.int .i64 x', .int .i64 y', .int .u8 z'])).run Try.prog w = .ok (.bool (!(x == x' && (y == y' && z == z')))) w := by
  rw [run_neq_struct, equal_step w 32 rfl (by kernel_rfl)]; rfl
/-- A row of steps without the first one. -/
theorem from24 {w : World} {p : Option Addr} {n cap : Nat} {s : Mt.St} {ss : List Mt.St} (h : SlS w (.slice p n cap) (s :: ss)) :
    ∃ p', (∀ w', (Instr.sliceAt 24 (.slice p n cap) (some (.int .i64 1)) none none).run Try.prog w' = .ok (.slice p' (n - 1) (cap - 1)) w') ∧ SlS w (.slice p' (n - 1) (cap - 1)) ss := by
  obtain ⟨hl, ⟨g, o, cap', h1, h2, hB⟩ | ⟨p', h1, h3⟩⟩ := h
  · cases h1
    rw [List.length_cons] at h2 ⊢
    have h1 : (1 : Int) ≤ (ss.length : Int) + 1 := by omega
    have h4 : (ss.length : Int) + 1 ≤ (cap : Int) := by omega
    rw [Nat.add_sub_cancel]
    by_cases hck : cap = 1
    · have hz : ss.length = 0 := by omega
      obtain rfl : ss = [] := List.eq_nil_of_length_eq_zero hz
      subst hck
      refine ⟨some ⟨g, o, none⟩, fun w' => ?_, ⟨rfl, .inr ⟨_, rfl, rfl⟩⟩⟩
      simp only [List.length_nil]
      go_simp
    · have hB3 : RowAt w g (o + 3) (ns ss) := by
        have h := hB.drop 3
        have e : (ns (s :: ss)).drop 3 = ns ss := rfl
        rw [e] at h; exact h
      refine ⟨some ⟨g, o + 3, none⟩, fun w' => ?_, ⟨ns_length ss, .inl ⟨g, o + 3, cap - 1, rfl, by omega, hB3⟩⟩⟩
      have h5 : ¬ cap = 1 := hck
      go_simp
  · cases h1
    rw [List.length_cons] at h3; omega
theorem wpList_appKG (t e : TypeId) (i0 : TypeInfo) (z : Value) (k by0 : Nat) (hu : Try.prog.underlying t = some (.slice e)) (hi : Try.prog.info? e = some i0) (hz0 : i0.zero = some z) (hz1 : i0.size = k) (hz2 : i0.bytes = by0) (hzc : z.cells.size = k) (hk : 0 < k) (hby : by0 ≤ 64)
    {w : World} {ops : Array Oper} {rest : List Oper} {o : Oper} {a : Act} {Q : Exit → Act → World → Prop} (hgd : Region.wanted o (yielded ops a.tmps) = true) (d x : Operand)
    (ho : o.op = .call { callee := .builtin .append, args := #[d, x], argTypes := #[t, t] }) (base : Nat) (v src : Value) (n m : Nat) (l ys : List Value) (hd : a.eval d = v) (hx : a.eval x = src)
    (h1 : ∀ y ∈ ys, y.oneCell' = true) (hown : w.ownsRow base e k v n l) (hsrc : SlK k w src m ys) (hbase : base ≤ w.heap.size) (hsz : n + m ≤ 1099511627776)
    (h : ∀ v' w', w'.ownsRow base e k v' (n + m) (l ++ ys) → w.grownBy w' v.ownBlock → (v'.ownBlock = v.ownBlock ∨ v'.ownBlock = some w.heap.size) → wpList Try.prog ops Q rest (a.put o.dst v') w') : wpList Try.prog ops Q (o :: rest) a w := by
  refine wpList_step fun K hK => ?_
  rw [hgd]
  simp only [if_true]
  obtain ⟨v', w', hrun, h1, h2, h3⟩ := run_appK t e i0 z k by0 hu hi hz0 hz1 hz2 hzc hk hby o.type h1 hown hsrc hbase hsz
  unfold Oper.wp
  simp only [execOp, ho, resolve, invoke, builtin, hd, hx, hrun, Result.andThen, List.map_toArray, List.map_cons, List.map_nil, Sem.run_bind, Sem.run_pure]
  exact hK _ _ (h v' w' h1 h2 h3)
theorem rep_end (c : UInt8) (m k : Nat) (hk : 1 ≤ k) (h : Mt.cutAt (List.replicate m c) 1 k = []) : m ≤ k := by
  rcases Nat.lt_or_ge k m with h1 | h1
  · rw [Mt.cut_rep c m k hk h1] at h
    split at h <;> cases h
  · exact h1
theorem cut_far (w : World) (v : Value) (b : List UInt8) (hv : SlV w v (bl b)) (hb : b.length ≤ 32768) :
    Calls Try.prog 8 #[v, .int .i64 32768] w fun e w' => ∃ u, e = .returned (.tuple #[u, .int .i64 0]) ∧ Below w.heap.size w w' ∧ SlS w' u (Mt.cutAt b 32768 0) := by
  refine (Cut_walk w v b 32768 hv hb).mono ?_
  rintro e w' ⟨u, rfl, hb1, ho, _⟩
  have ho := own_toS (ho (by decide))
  exact ⟨u, rfl, hb1, ho⟩
theorem back_far (w : World) (v : Value) (b : List UInt8) (hv : SlS w v (Mt.cutAt b 32768 0)) (hb : b.length ≤ 32768) :
    Calls Try.prog 15 #[v, .int .i64 (b.length : Int)] w fun e w' => ∃ u, e = .returned (.tuple #[u, .int .i64 0]) ∧ Below w.heap.size w w' ∧ SlV w' u (bl b) := by
  have htl := Mt.cut_tells b 32768 b.length 0 (Nat.zero_le _) (by omega)
  have hsz := Mt.tells_size b 32768 _ 0 htl
  have hln := Mt.tells_length b 32768 _ 0 htl
  have hout : Mt.outL [] (Mt.cutAt b 32768 0) = b := by simpa using Mt.tells_out b 32768 _ 0 htl
  refine (expand_walk w v _ (b.length : Int) hv (by omega) (by omega) (Mt.tells_ok b 32768 hb _ 0 htl)).mono ?_
  rintro e w' ⟨u, rfl, hb1, ho, -⟩
  have h0 : expE (Mt.cutAt b 32768 0) (b.length : Int) = 0 := by unfold expE; rw [if_neg (by omega), if_neg (by omega)]
  rw [h0]
  have h := own_toV (ho h0)
  rw [hout] at h
  exact ⟨u, rfl, hb1, h⟩
theorem size_far (w : World) (v : Value) (b : List UInt8) (hv : SlS w v (Mt.cutAt b 32768 0)) (hb : b.length ≤ 32768) :
    Calls Try.prog 17 #[v] w fun e w' => e = .returned (.int .i64 (b.length : Int)) ∧ Below w.heap.size w w' := by
  have htl := Mt.cut_tells b 32768 b.length 0 (Nat.zero_le _) (by omega)
  have hsz := Mt.tells_size b 32768 _ 0 htl
  have hln := Mt.tells_length b 32768 _ 0 htl
  have h := size_walk w v _ hv (by omega) (by omega)
  rw [show Mt.sizeL (Mt.cutAt b 32768 0) = b.length by omega] at h
  exact h
set_option maxRecDepth 100000 in
set_option maxHeartbeats 4000000 in
theorem runs_walk (w : World) (v : Value) (b0 : List UInt8) (c : UInt8) (x : Nat) (hv : SlV w v (bl b0)) (hx : x < 65536) :
    Calls Try.prog 6 #[.int .u8 (bi c), .int .u16 (x : Int), v] w fun e w' => e = .returned (.bool true) ∧ Below w.heap.size w w' := by
  obtain ⟨p, cap, rfl⟩ := hv.shape
  rw [bl_length] at *
  obtain ⟨n, hn⟩ : ∃ n, n = min b0.length 300 := ⟨_, rfl⟩
  have hmin : min (b0.length : Int) 300 = (n : Int) := by omega
  have hsl := to22 hv n (by omega)
  have hv2 := hv.take n (by omega)
  rw [bl_take] at hv2
  obtain ⟨b, hbb⟩ : ∃ b, b = b0.take n := ⟨_, rfl⟩
  have hbn : n = b.length := by rw [hbb, List.length_take]; omega
  rw [← hbb] at hv2
  have hn2 : n ≤ 300 := by omega
  have HN := Lib.hid hbn
  have HV := Lib.hid hv2
  clear hv hv2 hbb hbn hn
  generalize b0.length = n0 at *
  obtain ⟨m, hm⟩ : ∃ m, m = 1 + x % 2000 := ⟨_, rfl⟩
  have hm1 : 1 ≤ m ∧ m ≤ 2000 := by omega
  have hmi : (1 : Int) + (x : Int) % 2000 = (m : Int) := by omega
  have HREP : Hid (∀ wx g, wx.heap[g]? = some (.cells #[.int .u8 (bi c)] 5 (0, 0)) → Calls Try.prog 18 #[.slice (some ⟨g, 0, none⟩) 1 1, .int .i64 (m : Int)] wx fun e w' => ∃ v', e = .returned v' ∧ SlV w' v' (bl (List.replicate m c)) ∧ Below wx.heap.size wx w') := Lib.hid (fun wx g hg =>
    repeat_walk wx _ c m (.inl ⟨g, 0, 1, rfl, Nat.le_refl _, fun i v hi => by
      rw [cell_of_row _ _ _ _ _ _ hg, Nat.zero_add]
      simpa [bl] using hi⟩) hm1.1 (by omega))
  have HCUT1 : Hid (∀ wx v, SlV wx v (bl (List.replicate m c)) → Calls Try.prog 8 #[v, .int .i64 1] wx fun e w' => ∃ u, e = .returned (.tuple #[u, .int .i64 0]) ∧ Below wx.heap.size wx w' ∧ SlS w' u ((0, 0, c) :: Mt.cutAt (List.replicate m c) 1 1)) := Lib.hid (fun wx v h => by
    refine (Cut_walk wx v (List.replicate m c) 1 h (by simp; omega)).mono ?_
    rintro e w' ⟨u, rfl, hb1, ho, _⟩
    have ho := own_toS (ho (by decide))
    rw [show Int.toNat 1 = 1 from rfl, Mt.cut_rep0 c m 1 hm1.1] at ho
    exact ⟨u, rfl, hb1, ho⟩)
  have HTL : Hid (Mt.tells (List.replicate m c) 1 (Mt.cutAt (List.replicate m c) 1 1) 1) := Lib.hid (Mt.cut_tells _ 1 m 1 (by simp; omega) (by simp))
  have HTN : Hid ((Mt.cutAt (List.replicate m c) 1 1).length ≤ 2000) := Lib.hid (by
    have := Mt.tells_length _ 1 _ 1 HTL.out
    simp at this; omega)
  clear HTL hm
  obtain ⟨ts, hts⟩ : ∃ ts, ts = Mt.cutAt (List.replicate m c) 1 1 := ⟨_, rfl⟩
  rw [← hts] at HCUT1 HTN
  have HTS := Lib.hid hts
  clear hts
  have hdm : IntKind.u16.wrap ((x : Int) % 2000) = (x : Int) % 2000 := by rw [IntKind.wrap_u16]; omega
  obtain ⟨i0, hi0, hz0, hz1, hz2⟩ := info_parts info5
  have HI0 := Lib.hid (And.intro hi0 (And.intro hz0 (And.intro hz1 hz2)))
  clear hi0 hz0 hz1 hz2
  have HNL : Hid (b.length ≤ 300) := Lib.hid (by rw [← HN.out]; exact hn2)
  obtain ⟨bb, hbb⟩ : ∃ bb, bb = b ++ b := ⟨_, rfl⟩
  have HBB := Lib.hid hbb
  have HBL : Hid (bb.length = n + n) := Lib.hid (by rw [hbb, List.length_append, ← HN.out])
  clear hbb
  go_enter Try.func6, Try.ntmps6
  go_wp2_with fail
  have hb0 : Below w.heap.size w (w.alloc (.cells #[.int .u8 (bi c)] 5)) := (Below.refl _ _).alloc (Nat.le_refl _) _
  refine (HREP.out _ _ (heap_alloc_new w _)).mono ?_
  rintro e w1 ⟨v1, rfl, hs1, hb1⟩
  have hb1 := bt hb0 hb1
  have HB1 := Lib.hid hb1
  have HS1 := Lib.hid hs1
  clear hb0 hb1 hs1 HREP
  go_wp2_with fail
  refine (HCUT1.out _ _ HS1.out).mono ?_
  rintro e w2 ⟨u, rfl, hb2, hs2⟩
  have HB2 := Lib.hid (bt HB1.out hb2)
  obtain ⟨pu, cu, rfl⟩ := SlK.shape hs2
  obtain ⟨pt, hst, ht⟩ := from24 hs2
  obtain ⟨gu, ou, rfl, hcu, hat⟩ := SlS.at hs2 (by simp)
  obtain ⟨c0, c1, c2⟩ := hat 0 _ rfl
  simp only [List.length_cons, Nat.add_sub_cancel] at hst ht hcu c0 c1 c2 ⊢
  have c0 : w2.cell? ⟨gu, ou, none⟩ = some (.int .i64 0) := c0
  have c1 : w2.cell? ⟨gu, ou + 1, none⟩ = some (.int .i64 0) := c1
  have c2 : w2.cell? ⟨gu, ou + 2, none⟩ = some (.int .u8 (bi c)) := c2
  have HT := Lib.hid ht
  obtain ⟨N, hN⟩ : ∃ N, N = ts.length := ⟨_, rfl⟩
  rw [← hN] at hst HT HTN hcu ⊢
  have hN2 : N ≤ 2000 := HTN.out
  have HNN := Lib.hid hN
  clear hb2 hs2 ht hat hN HCUT1 HS1 HB1
  have hne : ∀ w, (binOp .neq 32 (.agg #[.int .i64 0, .int .i64 0, .int .u8 (bi c)]) (.agg #[.int .i64 0, .int .i64 0, .int .u8 (bi c)])).run Try.prog w = .ok (.bool false) w := fun w => by rw [neq32]; simp
  have hcui : (0 : Int) < (N : Int) + 1 := by omega
  have hN0 : ((N : Int) + 1 == 0) = false := beq_eq_false_iff_ne.2 (by omega)
  have hwm : IntKind.i64.wrap ((m : Int) - 1) = (m : Int) - 1 := IntWalk.i64_in _ (by omega)
  go_wp2_with fail
  go_loopw [10, 51] (fun v10 v51 wr => ∃ i L : Nat, i ≤ N ∧ v51 = .int .i64 (i : Int) ∧ L + 1 ≤ m ∧ v10 = .int .i64 (L : Int) ∧ ts.drop i = Mt.cutAt (List.replicate m c) 1 (m - L) ∧ Below w2.heap.size w2 wr) (fun _ v51 _ => N - (intOf v51).toNat)
  case atStart => exact ⟨0, m - 1, Nat.zero_le _, rfl, by omega, by go_num, by rw [show m - (m - 1) = 1 by omega]; exact HTS.out, Below.refl _ _⟩
  case round =>
    obtain ⟨i, L, hi, rfl, hL, rfl, hdr, hB⟩ := hrel
    have HDR := Lib.hid hdr
    have HB := Lib.hid hB
    clear hdr hB c0 c1 c2
    by_cases hin : i < N
    · have hini : (i : Int) < (N : Int) := by omega
      have hilt : i < ts.length := by rw [← HNN.out]; exact hin
      obtain ⟨g, o, rfl, hcu2, hcl⟩ := SlS.at (by have h := SlK.below HT.out HB.out (Nat.le_refl _); rw [HNN.out] at h ⊢; exact h) (by omega : 0 < N)
      have hL0 : 0 < L := by
        rcases Nat.eq_zero_or_pos L with h0 | h0
        · subst h0
          have h := HDR.out
          rw [Mt.cutAt_end (by simp)] at h
          have := congrArg List.length h
          simp at this; omega
        · exact h0
      have hcr := Mt.cut_rep c m (m - L) (by omega) (by omega)
      rw [show m - (m - L) = L by omega, ← HDR.out, List.drop_eq_getElem_cons hilt] at hcr
      obtain ⟨d0, d1, d2⟩ := hcl i ts[i] (List.getElem?_eq_getElem hilt)
      clear hcl
      by_cases hL3 : 3 ≤ L
      · have hL3i : (3 : Int) ≤ (L : Int) := by omega
        have hl3f : decide ((L : Int) < 3) = false := decide_eq_false (by omega)
        rw [if_pos hL3] at hcr
        injection hcr with he ht
        obtain ⟨q, hq⟩ : ∃ q, q = min 258 L := ⟨_, rfl⟩
        rw [he, ← hq] at d0 d1 d2
        rw [← hq] at ht
        have hqL : 3 ≤ q ∧ q ≤ L := by omega
        have hminq : min (L : Int) 258 = (q : Int) := by omega
        have hmax : max (q : Int) 1 = (q : Int) := by omega
        have HTL2 := Lib.hid ht
        clear ht he hq
        simp only at d0 d1 d2
        have d1 : wr.cell? ⟨g, o + i * 3 + 1, none⟩ = some (.int .i64 1) := d1
        have hwq : IntKind.i64.wrap ((L : Int) - (q : Int)) = (L : Int) - (q : Int) := IntWalk.i64_in _ (by omega)
        have HBX := Lib.hid (HB.out.alloc HB.out.size (.cells #[.int .i64 (q : Int), .int .i64 1, .int .u8 (bi 0)] 32))
        go_wp2_with fail
        refine ⟨⟨i + 1, L - q, hin, ?_, by omega, ?_, ?_, HBX.out⟩, ?_⟩
        · go_num
        · go_num
        · rw [HTL2.out]; congr 1; omega
        · simp only [intOf]; go_num
      · have hL3i : decide ((3 : Int) ≤ (L : Int)) = false := decide_eq_false (by omega)
        have hl3f : (L : Int) < 3 := by omega
        rw [if_neg hL3] at hcr
        injection hcr with he ht
        rw [he] at d0 d1 d2
        have HTL2 := Lib.hid ht
        clear ht he
        simp only at d0 d1 d2
        have d0 : wr.cell? ⟨g, o + i * 3, none⟩ = some (.int .i64 0) := d0
        have d1 : wr.cell? ⟨g, o + i * 3 + 1, none⟩ = some (.int .i64 0) := d1
        have hmax : max (0 : Int) 1 = 1 := by decide
        have hwq : IntKind.i64.wrap ((L : Int) - 1) = (L : Int) - 1 := IntWalk.i64_in _ (by omega)
        have HBX := Lib.hid (HB.out.alloc HB.out.size (.cells #[.int .i64 0, .int .i64 0, .int .u8 (bi c)] 32))
        go_wp2_with fail
        refine ⟨⟨i + 1, L - 1, hin, ?_, by omega, ?_, ?_, HBX.out⟩, ?_⟩
        · go_num
        · go_num
        · rw [HTL2.out]; congr 1; omega
        · simp only [intOf]; go_num
    · have hini : (N : Int) ≤ (i : Int) := by omega
      obtain rfl : i = N := by omega
      obtain rfl : L = 0 := by
        have h := HDR.out
        rw [List.drop_of_length_le (by rw [← HNN.out]; exact Nat.le_refl _)] at h
        have := rep_end c m (m - L) (by omega) h.symm
        omega
      clear HDR HTS HTN HNN HT hst hcu hwm hN0
      go_wp2_with fail
      have HVR := Lib.hid (HV.out.below (bt HB2.out HB.out) (Nat.le_refl _))
      refine (cut_far _ _ b HVR.out (Nat.le_trans HNL.out (by decide))).mono ?_
      rintro e w3 ⟨u1, rfl, hb3, hs3⟩
      have HB3 := Lib.hid (bt (bt HB2.out HB.out) hb3)
      have HV3 := Lib.hid (HVR.out.below hb3 (Nat.le_refl _))
      have HS3 := Lib.hid hs3
      clear hb3 hs3 HVR HB HB2
      go_wp2_with fail
      refine (clone_walk w3 _ b HV3.out (Nat.le_trans HNL.out (by decide))).mono ?_
      rintro e w4 ⟨vo, rfl, ho, hb4⟩
      have HO4 : Hid (w4.ownsRow w3.heap.size 5 1 vo n (bl b)) := Lib.hid (by rw [HN.out]; exact ho)
      have HB4 := Lib.hid hb4
      have HK4 : Hid (SlK 1 w4 (.slice p n cap) n (bl b)) := Lib.hid (by have h := (HV3.out.below hb4 (Nat.le_refl _)).toK; rw [bl_length, ← HN.out] at h; exact h)
      obtain ⟨po, co, rfl⟩ := own_shape HO4.out
      clear ho hb4
      go_wp2_with (refine wpList_appK 22 5 i0 (.int .u8 0) 1 1 Try.underlying22 HI0.out.1 HI0.out.2.1 HI0.out.2.2.1 HI0.out.2.2.2 rfl (by decide) (by decide) rfl (.tmp 96) (.tmp 97) rfl w3.heap.size (.slice po n co) (.slice p n cap) n n (bl b) (bl b) rfl rfl (bl_one b) HO4.out HK4.out HB4.out.size (by omega) ?_; intro v5 w5 hown hgrow _)
      have hb5 : Below w3.heap.size w3 w5 := HB4.out.grown hgrow HB4.out.size (fun k hk => (HO4.out.lt k hk).1)
      have HV5 : Hid (SlV w5 v5 (bl bb)) := Lib.hid (by have h := own_toV hown; rw [← bl_append, ← HBB.out] at h; exact h)
      have HB5 := Lib.hid (bt HB3.out hb5)
      have HS5 : Hid (SlS w5 u1 _) := Lib.hid (SlK.below HS3.out hb5 (Nat.le_refl _))
      have HX5 := Lib.hid (HV3.out.below hb5 (Nat.le_refl _))
      clear hb5 hown hgrow HO4 HK4 HB4 HB3 HS3 HV3
      refine (cut_far _ _ bb HV5.out (by rw [HBL.out]; omega)).mono ?_
      rintro e w6 ⟨u2, rfl, hb6, hs6⟩
      have HB6 := Lib.hid (bt HB5.out hb6)
      have HS6 : Hid (SlS w6 u1 _) := Lib.hid (SlK.below HS5.out hb6 (Nat.le_refl _))
      have HX6 := Lib.hid (HX5.out.below hb6 (Nat.le_refl _))
      have HT6 := Lib.hid hs6
      clear hb6 hs6 HV5 HB5 HS5 HX5
      have hbk := back_far w6 u2 bb HT6.out (by rw [HBL.out]; omega)
      rw [HBL.out, Int.natCast_add] at hbk
      have hnn : (2 : Int) * (n : Int) = (n : Int) + (n : Int) := by omega
      have hwn : IntKind.i64.wrap ((n : Int) + (n : Int)) = (n : Int) + (n : Int) := IntWalk.i64_in _ (by omega)
      go_wp2_with fail
      refine hbk.mono ?_
      rintro e w7 ⟨u3, rfl, hb7, hv7⟩
      clear hbk
      have HB7 := Lib.hid (bt HB6.out hb7)
      have HS7 : Hid (SlS w7 u1 _) := Lib.hid (SlK.below HS6.out hb7 (Nat.le_refl _))
      have HX7 := Lib.hid (HX6.out.below hb7 (Nat.le_refl _))
      have HV7 := Lib.hid hv7
      clear hb7 hv7 HB6 HS6 HX6 HT6
      go_wp2_with fail
      refine (clone_walk w7 _ b HX7.out (Nat.le_trans HNL.out (by decide))).mono ?_
      rintro e w8 ⟨vo2, rfl, ho, hb8⟩
      have HO8 : Hid (w8.ownsRow w7.heap.size 5 1 vo2 n (bl b)) := Lib.hid (by rw [HN.out]; exact ho)
      have HB8 := Lib.hid hb8
      have HK8 : Hid (SlK 1 w8 (.slice p n cap) n (bl b)) := Lib.hid (by have h := (HX7.out.below hb8 (Nat.le_refl _)).toK; rw [bl_length, ← HN.out] at h; exact h)
      obtain ⟨po2, co2, rfl⟩ := own_shape HO8.out
      clear ho hb8
      go_wp2_with (refine wpList_appKG 22 5 i0 (.int .u8 0) 1 1 Try.underlying22 HI0.out.1 HI0.out.2.1 HI0.out.2.2.1 HI0.out.2.2.2 rfl (by decide) (by decide) rfl (.tmp 127) (.tmp 128) rfl w7.heap.size (.slice po2 n co2) (.slice p n cap) n n (bl b) (bl b) rfl rfl (bl_one b) HO8.out HK8.out HB8.out.size (by omega) ?_; intro v9 w9 hown hgrow _)
      have hb9 : Below w7.heap.size w7 w9 := HB8.out.grown hgrow HB8.out.size (fun k hk => (HO8.out.lt k hk).1)
      have hv9 : SlV w9 v9 (bl bb) := by have h := own_toV hown; rw [← bl_append, ← HBB.out] at h; exact h
      have HB9 := Lib.hid (bt HB7.out hb9)
      have HS9 : Hid (SlS w9 u1 _) := Lib.hid (SlK.below HS7.out hb9 (Nat.le_refl _))
      have heq := equal_walk w9 u3 v9 bb bb (HV7.out.below hb9 (Nat.le_refl _)) hv9
      rw [show (bb == bb) = true from beq_self_eq_true bb] at heq
      clear hb9 hown hgrow HO8 HK8 HB8 HB7 HS7 HV7 hv9
      refine heq.mono ?_
      rintro e w10 ⟨rfl, rfl⟩
      clear heq
      have hsz := size_far w10 u1 b HS9.out (Nat.le_trans HNL.out (by decide))
      rw [← HN.out] at hsz
      go_wp2_with fail
      refine hsz.mono ?_
      rintro e w11 ⟨rfl, hb11⟩
      have HB11 := Lib.hid (bt HB9.out hb11)
      clear hsz hb11
      go_wp2_with fail
      refine (wakes_walk _).mono ?_
      rintro e w12 ⟨rfl, hb12⟩
      have HB12 := Lib.hid (bt HB11.out hb12)
      clear hb12
      go_wp2_with fail
      go_ret
      exact ⟨rfl, HB12.out⟩
end Go.Proofs.Ytghphgpbgekoiaa
