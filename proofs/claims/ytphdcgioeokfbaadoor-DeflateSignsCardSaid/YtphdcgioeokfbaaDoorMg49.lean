/-
  Merged, in the order in which they build: Wsn Wal Wwk.
-/
import Derived.Lib.ConvBytes
import Derived.Test.YtphdcgioeokfbaaDoorMg33
import Derived.Test.YtphdcgioeokfbaaDoorMg48
/-
  A stream, walked.
-/
namespace Go.Proofs.YtphdcgioeokfbaaDoor
open Go.RowKit Hf

theorem sls_lt {w : World} {p : Addr} {n c : Nat} {ss : List Mt.St} (h : SlS w (.slice (some p) n c) ss) (hn : 0 < n) : p.block < w.heap.size := by
  have hl := h.lenS
  obtain ⟨g, o, hp, _, hrow⟩ := h.at hn
  cases hp
  obtain ⟨s, t, rfl⟩ : ∃ s t, ss = s :: t := by
    cases ss with
    | nil => simp at hl; omega
    | cons s t => exact ⟨s, t, rfl⟩
  exact block_lt_of_cell (hrow 0 s rfl).1
theorem slb_lt {w : World} {p : Addr} {n c : Nat} {bs : List UInt8} (h : SlV w (.slice (some p) n c) (bl bs)) (hn : 0 < n) : p.block < w.heap.size := by
  obtain ⟨g, o, hp, hrow⟩ := h.some hn
  cases hp
  have hl := h.len
  rw [bl_length] at hl
  exact block_lt_of_cell (hrow.bl 0 (by omega))
/-- The stream, a block further. -/
def stmTo (L : List Bool) (l : List Mt.St) (bs : List UInt8) : List Bool := L ++ Df.blk L.length (decide (min l.length 512 = l.length)) (((l.take (min l.length 512)).map zOf).map Df.tok) (bs.take (Mt.sizeL (l.take (min l.length 512))))
theorem stm_last (f : Nat) (L : List Bool) (l : List Mt.St) (bs : List UInt8) (h : min l.length 512 = l.length) : Df.stm (f + 1) L (l.map zOf) bs = stmTo L l bs := by
  unfold stmTo
  rw [Df.stm, if_pos (by rw [List.length_map]; omega), size_z, h, List.take_length, decide_eq_true rfl]
theorem stm_more (f : Nat) (L : List Bool) (l : List Mt.St) (bs : List UInt8) (h : ¬ min l.length 512 = l.length) : Df.stm (f + 1) L (l.map zOf) bs = Df.stm f (stmTo L l bs) ((l.drop (min l.length 512)).map zOf) (bs.drop (Mt.sizeL (l.take (min l.length 512)))) := by
  have h5 : min l.length 512 = 512 := by omega
  unfold stmTo
  rw [Df.stm, if_neg (by rw [List.length_map]; omega), decide_eq_false h, h5, ← List.map_take, ← List.map_drop, size_z]
theorem stmTo_len (L : List Bool) (l : List Mt.St) (bs : List UInt8) (hz : ∀ s ∈ l.map zOf, Df.okZ s) : (stmTo L l bs).length ≤ L.length + 565000 := by
  unfold stmTo
  rw [List.length_append]
  have h := Df.blk_len L.length (decide (min l.length 512 = l.length)) (((l.take (min l.length 512)).map zOf).map Df.tok) (bs.take (Mt.sizeL (l.take (min l.length 512)))) (fun t ht => by
    obtain ⟨s, hs, rfl⟩ := List.mem_map.1 ht
    rw [List.map_take] at hs
    exact Df.tok_low (hz s (List.mem_of_mem_take hs)))
  simp only [List.length_map, List.length_take] at h
  omega
theorem sizeL_app (l t : List Mt.St) : Mt.sizeL (l ++ t) = Mt.sizeL l + Mt.sizeL t := by
  unfold Mt.sizeL
  rw [List.map_append, List.sum_append]
def StrRel (w : World) (g : Nat) (R : List Bool) (v0 v1 v6 : Value) (wr : World) : Prop := ∃ (lst : Bool) (sv : Value) (L : List Bool) (i : Nat), v6 = .bool lst ∧ WrAt wr w.heap.size g sv L ∧ OnlyS (fun _ => False) w wr ∧ L.length ≤ 565000 * i ∧ i ≤ 1000 ∧ (lst = true → L = R) ∧
  (lst = false → ∃ f l bs, Df.stm (f + 1) L (l.map zOf) bs = R ∧ l.length ≤ 512 * (f + 1) ∧ i + f + 1 ≤ 1000 ∧ SlS w v0 l ∧ SlV w v1 (bl bs) ∧ Mt.sizeL l = bs.length ∧ (∀ s ∈ l.map zOf, Df.okZ s) ∧ bs.length ≤ 100000000)
def strM (v0 v6 : Value) : Nat := match v6 with | .bool true => 0 | _ => 1 + sliceLen v0
set_option maxRecDepth 100000 in
set_option maxHeartbeats 2000000 in
theorem stream_walk (w : World) (v u : Value) (ss : List Mt.St) (b : List UInt8) (hs : SlS w v ss) (hu : SlV w u (bl b)) (hz : Mt.sizeL ss = b.length) (hok : ∀ s ∈ ss.map zOf, Df.okZ s) (hl : ss.length ≤ 400000) (hb : b.length ≤ 100000000) (hG : Glb w w.heap.size) :
    Calls Tryd.prog 13 #[v, u] w fun e w' => ∃ v', e = .returned v' ∧ w'.ownsRow w.heap.size 5 1 v' (pack (Df.stm (ss.length / 512 + 1) [] (ss.map zOf) b)).length (bl (pack (Df.stm (ss.length / 512 + 1) [] (ss.map zOf) b))) ∧ OnlyS (fun _ => False) w w' := by
  have HN : Hid (∀ wx, Calls Tryd.prog 17 #[] wx fun e w' => e = .returned (.pointer (some ⟨wx.heap.size, 0, none⟩)) ∧ w' = wx.alloc (.cells #[.bool true, .slice none 0 0, .int .i64 0] 75)) := Lib.hid newwriter_walk
  have HG := Lib.hid hG
  obtain ⟨R, hR⟩ : ∃ R, R = Df.stm (ss.length / 512 + 1) [] (ss.map zOf) b := ⟨_, rfl⟩
  rw [← hR]
  have HST : Hid (StrRel w w.heap.size R v u (.bool false) (w.alloc (.cells #[.bool true, .slice none 0 0, .int .i64 0] 75))) := Lib.hid
    ⟨false, .slice none 0 0, [], 0, rfl, made_wr w, OnlyS.alloc w _, by simp, by omega, (fun h => by cases h), fun _ => ⟨ss.length / 512, ss, b, hR.symm, by omega, by omega, hs, hu, hz, hok, hb⟩⟩
  clear hR hs hu hz hok hl hb hG
  go_enter Tryd.func13, Tryd.ntmps13
  go_wp2_with (first | (with_reducible refine (HN.out _).mono ?_; rintro e w1 ⟨rfl, rfl⟩))
  go_loopw [0, 1, 6, 7, 8, 9] (fun v0 v1 v6 _ _ _ wr => StrRel w w.heap.size R v0 v1 v6 wr) (fun v0 _ v6 _ _ _ _ => strM v0 v6)
  case atStart => exact HST.out
  case round =>
    obtain ⟨lst, sv, L, i, rfl, hW, ho, hL, hi, hT, hF⟩ := hrel
    cases lst with
    | true =>
      have hLR := hT rfl
      subst hLR
      have HD := Lib.hid (wdone_walk wr w.heap.size w.heap.size sv L hW (by omega))
      have HO := Lib.hid ho
      clear hW ho hL hi hT hF HST HG HN
      go_wp2_with (first | ((with_reducible refine HD.out.mono ?_); rintro e w5 ⟨v', rfl, hown, hb⟩; have HX := Lib.hid (And.intro hown hb); clear hown hb))
      go_ret
      obtain ⟨h1, h2⟩ := HX.out
      exact ⟨_, rfl, own_le h1 (fun k hk => Nat.le_trans HO.out.size (own_lt h1 k hk).1), HO.out.trans (OnlyS.of_below h2)⟩
    | false =>
      obtain ⟨f, l, bs, hR, hf, hif, hS, hV, hz, hok, hbl⟩ := hF rfl
      obtain ⟨p, c, rfl⟩ := SlK.shape hS
      obtain ⟨q, d, rfl⟩ := hV.shape
      obtain ⟨n, hn⟩ : ∃ n, l.length = n := ⟨_, rfl⟩
      obtain ⟨m, hm⟩ : ∃ m, bs.length = m := ⟨_, rfl⟩
      rw [bl_length] at hV ⊢
      rw [hn] at hS ⊢
      rw [hm] at hV ⊢
      obtain ⟨M, hM⟩ : ∃ M, min n 512 = M := ⟨_, rfl⟩
      obtain ⟨S, hSz⟩ : ∃ S, Mt.sizeL (l.take M) = S := ⟨_, rfl⟩
      have hMn : M ≤ n := by omega
      have hSm : S ≤ m := by rw [← hSz, ← hm, ← hz]; exact sizeL_le l M
      have hmin : min (n : Int) (512 : Int) = (M : Int) := by omega
      have hSt := hS.takeS M hMn
      have hVt : SlV w (.slice q S d) (bl (bs.take S)) := by
        have h := hV.take S hSm
        rw [show (bl bs).take S = bl (bs.take S) from List.map_take.symm] at h
        exact h
      have ht1 := toS hS M hMn
      have ht2 := to22 hV S hSm
      obtain ⟨p', hf1, hSd, hp'⟩ := fromS hS M hMn
      obtain ⟨q', hf2, hVd⟩ := from22 hV S hSm
      have HSZ : Hid (∀ wx, OnlyS (fun _ => False) w wx → Calls Tryd.prog 18 #[.slice p M c] wx fun e w' => e = .returned (.int .i64 (S : Int)) ∧ Below wx.heap.size wx w') := Lib.hid (fun wx hx => by
        have h := size_walk wx (.slice p M c) (l.take M) (SlK.only hSt hx (fun _ _ _ _ _ h => h)) (by rw [List.length_take]; omega) (by rw [hSz]; omega)
        rw [hSz] at h
        exact h)
      have hokt : ∀ s ∈ (l.take M).map zOf, Df.okZ s := fun s hs => by
        rw [List.map_take] at hs
        exact hok s (List.mem_of_mem_take hs)
      have hltM : ((l.take M).map zOf).length = M := by rw [List.length_map, List.length_take]; omega
      have HCT : Hid (∀ wx, OnlyS (fun _ => False) w wx → Calls Tryd.prog 19 #[.slice p M c, .int .i64 (S : Int)] wx (CntPost wx (.slice p M c) S ((l.take M).map zOf))) := Lib.hid (fun wx hx => by
        have hg := HG.out.go (hx.mono (fun _ _ h => h.elim))
        exact counted_walk wx (.slice p M c) S ((l.take M).map zOf) (slz_of (SlK.only hSt hx (fun _ _ _ _ _ h => h))) hokt (by omega) hg.lo hg.ord ⟨Nat.lt_of_lt_of_le hg.lt.1 hx.size, Nat.lt_of_lt_of_le hg.lt.2.1 hx.size⟩ (fun p1 m1 c1 e hm1 => by cases e; exact Nat.lt_of_lt_of_le (sls_lt hSt hm1) hx.size))
      have hMle : (M : Int) ≤ 512 := by omega
      have H1 := Lib.hid (And.intro hW (And.intro ho (And.intro hL (And.intro hi (And.intro hif (And.intro hf (And.intro hok (And.intro hbl hz))))))))
      have H3 : Hid ((bs.take S).length = S ∧ M ≤ 1000000 ∧ S ≤ 100000000) := Lib.hid ⟨by rw [List.length_take]; omega, by omega, by omega⟩
      obtain ⟨e0, he0⟩ : ∃ e0, ((M : Int) == (n : Int)) = e0 := ⟨_, rfl⟩
      have HE0 : Hid (decide (M = n) = e0) := Lib.hid (by rw [← he0]; by_cases h : M = n <;> simp [h] <;> omega)
      have H2 := Lib.hid (And.intro hSt (And.intro hVt (And.intro hokt (And.intro hltM (And.intro hSd (And.intro hVd (And.intro hp' (And.intro hn (And.intro hm (And.intro hM (And.intro hSz (And.intro hMn (And.intro hSm hR)))))))))))))
      clear hW ho hL hi hif hf hok hbl hz hSt hVt hokt hltM hSd hVd hp' hn hm hM hSz hR hT hF HST HN hS hV
      go_wp2_with (first
        | (go_at_call 18; with_reducible refine (HSZ.out _ H1.out.2.1).mono ?_; rintro e w1 ⟨rfl, hb1⟩; have HO1 := Lib.hid (H1.out.2.1.trans (OnlyS.of_below hb1)); have HW1 := Lib.hid (H1.out.1.stay (OnlyS.of_below (S := fun _ => False) hb1) (fun _ h => h.elim)); clear hb1))
      refine (HCT.out _ HO1.out).mono ?_
      rintro e w2 ⟨gb, G, va, vb, vr, vt, rfl, ho2, hgb, hG, hct, hrow, ha, hb, hr, ht, hf⟩
      have hc2 := hct.h_cells.2.2.1
      have hfz := hct.frozen 2
      have HBR := Lib.hid (blk_ready (bs := bs.take S) (bv := .slice q S d) HW1.out HO1.out.size ho2 hgb hG (by rw [H3.out.1]; exact hct) hrow ha hb hr ht hf (slz_of (SlK.only H2.out.1 HO1.out (fun _ _ _ _ _ h => h))) (fun p1 m1 c1 e hm1 => by cases e; exact sls_lt H2.out.1 hm1) (H2.out.2.1.only HO1.out (fun _ _ _ _ _ h => h)) (fun p1 m1 c1 e hm1 => by cases e; exact slb_lt H2.out.2.1 hm1) (HG.out.go (HO1.out.mono (fun _ _ h => h.elim))) H2.out.2.2.1 (by rw [H2.out.2.2.2.1]; exact H3.out.2.1) (by rw [H3.out.1]; exact H3.out.2.2))
      clear ho2 hgb hG hct hrow ha hb hr ht hf
      go_wp2_with fail
      go_quiet (fail)
      have hdr : OnlyS (fun _ => False) (w2.setCell ⟨gb, 2, none⟩ (.slice q S d)) ((w2.setCell ⟨gb, 2, none⟩ (.slice q S d)).drewN nq) := OnlyS.of_below (below_drewN (Below.refl _ _) nq)
      have HOX := Lib.hid ((HO1.out.trans HBR.out.2.2).trans hdr)
      have HWX := Lib.hid (HBR.out.2.1.stay hdr (fun _ h => h.elim))
      have HBX := Lib.hid (HBR.out.1.quiet hdr)
      clear hdr HBR hc2 hfz
      generalize (w2.setCell ⟨gb, 2, none⟩ (.slice q S d)).drewN nq = wx at HOX HWX HBX ⊢
      have HWR := Lib.hid (blockwrite_walk wx w.heap.size w.heap.size gb G sv L (.slice p M c) (.slice q S d) va vb vr vt ((l.take M).map zOf) (bs.take S) e0 HWX.out HOX.out.size (by have h1 := H1.out.2.2.1; have h2 := H1.out.2.2.2.1; omega) HBX.out (by have h1 := HG.out.lt; have h2 := HOX.out.size; exact ⟨by omega, by omega, by omega⟩))
      go_wp2_with (first
        | ((with_reducible refine HWR.out.mono ?_); rintro e w5 ⟨rfl, ho5, s5, hw5, hg5⟩; have HX := Lib.hid (And.intro ho5 (And.intro hw5 hg5)); clear ho5 hw5 hg5))
      obtain ⟨ho5, hw5, hg5⟩ := HX.out
      obtain ⟨-, ho, hL, hi, hif, hf, hok, hbl, hz⟩ := H1.out
      obtain ⟨-, -, hokt, hltM, hSd, hVd, -, hn, hm, hM, hSz, hMn, hSm, hR⟩ := H2.out
      have hto : stmTo L l bs = L ++ Df.blk L.length e0 (((l.take M).map zOf).map Df.tok) (bs.take S) := by
        unfold stmTo
        rw [hn, hM, hSz, HE0.out]
      rw [← hto] at hw5
      have hwl := stmTo_len L l bs hok
      have hog : OnlyS (fun _ => False) w w5 := HOX.out.trans' ho5 (fun i hi => .inr (HWX.out.x_lt i hi).1)
      have hne0 : e0 = false → ¬ M = n := fun he h => by have := HE0.out; rw [he, h, decide_eq_true rfl] at this; cases this
      have hspl : Mt.sizeL l = S + Mt.sizeL (l.drop M) := by
        rw [← hSz, ← sizeL_app, List.take_append_drop]
      refine ⟨⟨e0, s5, stmTo L l bs, i + 1, rfl, hw5, hog, by omega, by omega, fun he => ?_, fun he => ⟨f - 1, l.drop M, bs.drop S, ?_, ?_, ?_, hSd, ?_, ?_, fun s hs => ?_, ?_⟩⟩, ?_⟩
      · rw [← hR]; exact (stm_last f L l bs (by rw [hn, hM]; exact of_decide_eq_true (HE0.out.trans he))).symm
      · have h := hne0 he
        rw [← hR, stm_more f L l bs (by rw [hn, hM]; exact h), hn, hM, hSz, Nat.sub_add_cancel (by omega)]
      · have h := hne0 he
        rw [List.length_drop]; omega
      · have h := hne0 he
        omega
      · rw [show bl (bs.drop S) = (bl bs).drop S from List.map_drop]; exact hVd
      · rw [List.length_drop]; omega
      · rw [List.map_drop] at hs; exact hok s (List.mem_of_mem_drop hs)
      · rw [List.length_drop]; omega
      · cases e0 with
        | true => show 0 < 1 + n; omega
        | false =>
          have h := hne0 rfl
          show 1 + (n - M) < 1 + n
          omega
end Go.Proofs.YtphdcgioeokfbaaDoor
/-
  All.
-/
namespace Go.Proofs.YtphdcgioeokfbaaDoor
open Go.RowKit Hf

theorem run_toString {w : World} {v : Value} {l : List UInt8} (h : SlV w v (bl l)) : (convert 34 9 v).run Tryd.prog w = .ok (.string ⟨l.toArray⟩) w := by
  rcases h with ⟨g, o, cap, rfl, h2, h3⟩ | ⟨p, rfl, h0⟩
  · have hl := run_loadCells_list (P := Tryd.prog) w ⟨g, o, none⟩ (bl l) h3.src
    have e : bl l = (l.map bi).map (Value.int .u8) := by simp [bl]
    rw [show (bl l).length = l.length by simp [bl], e] at hl
    rw [bl_length]
    rw [run_convert_bytes_string w 34 9 5 _ _ _ Tryd.underlying34 Tryd.underlying5 Tryd.underlying9, run_bytesToString w _ _ _ _ hl]
    congr 2
    have key : ∀ (l : List UInt8) (s : ByteArray), (l.map bi).foldl (fun r n => r.push (UInt8.ofNat n.toNat)) s = ⟨(s.data.toList ++ l).toArray⟩ := by
      intro l
      induction l with
      | nil => intro s; simp
      | cons x t ih =>
        intro s
        simp only [List.map_cons, List.foldl_cons]
        rw [ih]
        congr 1
        have : UInt8.ofNat (bi x).toNat = x := by simp [bi]
        rw [this]
        simp [ByteArray.push]
    rw [key]
    simp
  · obtain rfl : l = [] := by simpa [bl] using h0
    cases p with
    | none => kernel_rfl
    | some a => kernel_rfl
set_option maxHeartbeats 400000 in
theorem equal_walk (w : World) (v u : Value) (a b : List UInt8) (h : SlV w v (bl a)) (k : SlV w u (bl b)) :
    Calls Tryd.prog 11 #[v, u] w fun e w' => e = .returned (.bool (a == b)) ∧ w' = w := by
  have c1 := run_toString h
  have c2 := run_toString k
  go_enter Tryd.func11, Tryd.ntmps11
  go_wp2_with fail
  go_ret
  exact ⟨rfl, rfl⟩
theorem okL_okZ : ∀ (ss : List Mt.St) (k : Nat), Mt.okL ss k → ∀ s ∈ ss.map zOf, Df.okZ s
  | [], _, _, s, h => by simp at h
  | x :: t, k, h, s, hs => by
    rw [List.map_cons, List.mem_cons] at hs
    rcases hs with rfl | hs
    · rcases h.1 with h0 | h0
      · left; show (x.1 : Int) = 0; omega
      · right; show 3 ≤ (x.1 : Int) ∧ (x.1 : Int) ≤ 258 ∧ 1 ≤ (x.2.1 : Int) ∧ (x.2.1 : Int) ≤ 32768; omega
    · exact okL_okZ t _ h.2 s hs
/-- What All tells. -/
def allB (b : List UInt8) : List UInt8 := pack (Df.stm ((Mt.cutAt b 64 0).length / 512 + 1) [] ((Mt.cutAt b 64 0).map zOf) b)
def AllPost (b : List UInt8) (w : World) (e : Ending) (w' : World) : Prop := ∃ v', e = .returned (.tuple #[v', .int .i64 0]) ∧ w'.ownsRow w.heap.size 5 1 v' (allB b).length (bl (allB b)) ∧ OnlyS (fun _ => False) w w'
set_option maxRecDepth 100000 in
set_option maxHeartbeats 1000000 in
theorem All_walk (w : World) (v : Value) (b : List UInt8) (hv : SlV w v (bl b)) (hb : b.length ≤ 32768) (hG : Glb w w.heap.size) : Calls Tryd.prog 10 #[v] w (AllPost b w) := by
  have ht := Mt.cut_tells b 64 b.length 0 (Nat.zero_le _) (by omega)
  have hz := Mt.tells_size b 64 _ 0 ht
  have hle := Mt.tells_length b 64 _ 0 ht
  have hok := okL_okZ _ 0 (Mt.tells_ok b 64 hb _ 0 ht)
  have HC : Hid (Calls Tryd.prog 12 #[v, .int .i64 64] w fun e w' => ∃ u, e = .returned (.tuple #[u, .int .i64 0]) ∧ OnlyS (fun _ => False) w w' ∧ SlS w' u (Mt.cutAt b 64 0)) := Lib.hid ((Cut_walk w v b 64 hv hb).mono fun e w' ⟨u, he, hb1, hu, _⟩ => ⟨u, he.trans (by rw [if_pos ⟨by decide, by decide⟩]), OnlyS.of_below hb1, own_toK (hu ⟨by decide, by decide⟩) (ns_length _)⟩)
  have HS : Hid (∀ wx u, OnlyS (fun _ => False) w wx → SlS wx u (Mt.cutAt b 64 0) → Calls Tryd.prog 13 #[u, v] wx fun e w' => ∃ v', e = .returned v' ∧ w'.ownsRow wx.heap.size 5 1 v' (allB b).length (bl (allB b)) ∧ OnlyS (fun _ => False) wx w') := Lib.hid (fun wx u ho hu => by
    have hg := hG.go (ho.mono (fun _ _ h => h.elim))
    have hsz := ho.size
    exact stream_walk wx u v _ b hu (hv.only ho (fun _ _ _ _ _ h => h)) (by omega) hok (by omega) (by omega) ⟨hg.lo, hg.ord, ⟨Nat.lt_of_lt_of_le hg.lt.1 hsz, Nat.lt_of_lt_of_le hg.lt.2.1 hsz, Nat.lt_of_lt_of_le hg.lt.2.2 hsz⟩⟩)
  obtain ⟨p, c, rfl⟩ := hv.shape
  rw [bl_length] at HC HS ⊢
  have hn2 : ¬ ((16777216 : Int) < (b.length : Int)) := by omega
  obtain ⟨n, hn⟩ : ∃ n, b.length = n := ⟨_, rfl⟩
  rw [hn] at HC HS hn2 ⊢
  clear ht hz hle hok hv hG hn hb
  go_enter Tryd.func10, Tryd.ntmps10
  go_wp2_with (first
    | ((with_reducible refine HC.out.mono ?_); rintro e w1 ⟨u, rfl, ho1, hu⟩; have HO1 := Lib.hid ho1; have HS2 := Lib.hid (HS.out w1 u HO1.out hu); clear ho1 hu)
    | ((with_reducible refine HS2.out.mono ?_); rintro e w2 ⟨v', rfl, hw, ho2⟩; have HX := Lib.hid (And.intro hw ho2); clear hw ho2))
  go_ret2
  obtain ⟨h1, h2⟩ := HX.out
  exact ⟨v', rfl, own_le h1 (fun k hk => Nat.le_trans HO1.out.size (own_lt h1 k hk).1), HO1.out.trans h2⟩
end Go.Proofs.YtphdcgioeokfbaaDoor
/-
  wakes.
-/
namespace Go.Proofs.YtphdcgioeokfbaaDoor
open Go.RowKit Hf

set_option maxRecDepth 1000000 in
theorem all_nil : allB [] = [3, 0] := by decide +kernel
set_option maxRecDepth 1000000 in
theorem all_a : allB [97] = [75, 4, 0] := by decide +kernel
theorem slv_new (w : World) (vs : List Value) (e : TypeId) : SlV (w.alloc (.cells vs.toArray e)) (.slice (some ⟨w.heap.size, 0, none⟩) vs.length vs.length) vs := slv_lit w vs e
theorem eq30 (w : World) (v : Value) (h : SlV w v (bl [3, 0])) : Calls Tryd.prog 11 #[v, .slice (some ⟨w.heap.size, 0, none⟩) 2 2] (w.alloc (.cells #[.int .u8 3, .int .u8 0] 5)) fun e w' => e = .returned (.bool true) ∧ w' = w.alloc (.cells #[.int .u8 3, .int .u8 0] 5) :=
  equal_walk (w.alloc (.cells #[.int .u8 3, .int .u8 0] 5)) v (.slice (some ⟨w.heap.size, 0, none⟩) 2 2) [3, 0] [3, 0] (h.only (OnlyS.alloc (S := fun _ => False) w _) (fun _ _ _ _ _ h => h)) (slv_lit w (bl [3, 0]) 5)
theorem eq75 (w : World) (b : Nat) (v : Value) (h : SlV w v (bl [75, 4, 0])) (hb : w.heap.size = b) : Calls Tryd.prog 11 #[v, .slice (some ⟨b, 0, none⟩) 3 3] (w.alloc (.cells #[.int .u8 75, .int .u8 4, .int .u8 0] 5)) fun e w' => e = .returned (.bool true) ∧ w' = w.alloc (.cells #[.int .u8 75, .int .u8 4, .int .u8 0] 5) := by
  subst hb
  exact equal_walk (w.alloc (.cells #[.int .u8 75, .int .u8 4, .int .u8 0] 5)) v (.slice (some ⟨w.heap.size, 0, none⟩) 3 3) [75, 4, 0] [75, 4, 0] (h.only (OnlyS.alloc (S := fun _ => False) w _) (fun _ _ _ _ _ h => h)) (slv_lit w (bl [75, 4, 0]) 5)
theorem lsg258 : Df.lsg 258 = ⟨285, 0, 0⟩ := by kernel_rfl
theorem Glb.self {w w' : World} (h : Glb w w.heap.size) (ho : OnlyS (fun _ => False) w w') : Glb w' w'.heap.size := by
  have hg := h.go (ho.mono (fun _ _ h => h.elim))
  have hsz := ho.size
  exact ⟨hg.lo, hg.ord, ⟨Nat.lt_of_lt_of_le hg.lt.1 hsz, Nat.lt_of_lt_of_le hg.lt.2.1 hsz, Nat.lt_of_lt_of_le hg.lt.2.2 hsz⟩⟩
theorem all_nilW (w : World) (hG : Glb w w.heap.size) : Calls Tryd.prog 10 #[.slice none 0 0] w fun e w' => ∃ v', e = .returned (.tuple #[v', .int .i64 0]) ∧ SlV w' v' (bl [3, 0]) ∧ OnlyS (fun _ => False) w w' :=
  (All_walk w (.slice none 0 0) [] (SlV.nil _ _) (by decide) hG).mono fun e w' ⟨v', he, hw, ho⟩ => ⟨v', he, by rw [all_nil] at hw; exact own_toV hw, ho⟩
theorem slv_marked (w : World) (vs : List Value) (e : TypeId) (fr : Nat × Nat) : SlV (w.alloc (.cells vs.toArray e fr)) (.slice (some ⟨w.heap.size, 0, none⟩) vs.length vs.length) vs :=
  .inl ⟨w.heap.size, 0, _, rfl, Nat.le_refl _, fun i v hi => by
    rw [Nat.zero_add]
    exact (cell_of_row _ _ _ _ _ _ (heap_alloc_new _ _)).trans (by simpa using hi)⟩
theorem all_aW (w : World) (hG : Glb w w.heap.size) : Calls Tryd.prog 10 #[.slice (some ⟨w.heap.size, 0, none⟩) 1 1] (w.alloc (.cells #[.int .u8 97] 5 (1, 2))) fun e w' => ∃ v', e = .returned (.tuple #[v', .int .i64 0]) ∧ SlV w' v' (bl [75, 4, 0]) ∧ OnlyS (fun _ => False) (w.alloc (.cells #[.int .u8 97] 5 (1, 2))) w' :=
  (All_walk (w.alloc (.cells #[.int .u8 97] 5 (1, 2))) _ [97] (slv_marked w (bl [97]) 5 (1, 2)) (by decide) (hG.self (OnlyS.alloc (S := fun _ => False) w _))).mono fun e w' ⟨v', he, hw, ho⟩ => ⟨v', he, by rw [all_a] at hw; exact own_toV hw, ho⟩
theorem long258 (w : World) (hG : Glb w w.heap.size) : Calls Tryd.prog 4 #[.int .i64 258] w fun e w' => e = .returned (.tuple #[.int .i64 285, .int .i64 0, .int .i64 0]) ∧ OnlyS (fun _ => False) w w' := by
  have h := Long_walk w 258 hG.lo.1 (by decide) (by decide)
  rw [lsg258] at h
  exact h
theorem conv_const (w : World) (b : Nat) (C : Array Value) (n c : Nat) (hb : w.heap.size = b) : (convert 34 34 (.slice (some ⟨b, 0, none⟩) n c)).run Tryd.prog (w.alloc (.cells C 5)) = .ok (.slice (some ⟨b, 0, none⟩) n c) (w.alloc (.cells C 5 (C.size, C.size + 1))) := by
  subst hb
  exact Lib.run_convert_bytes_const w 34 5 C n c Tryd.underlying34 Tryd.underlying5
set_option maxRecDepth 100000 in
set_option maxHeartbeats 1000000 in
theorem wakes_walk (w : World) (hG : Glb w w.heap.size) : Calls Tryd.prog 6 #[] w fun e w' => e = .returned (.bool true) ∧ OnlyS (fun _ => False) w w' := by
  have HG := Lib.hid hG
  have H1 := Lib.hid (all_nilW w hG)
  clear hG
  go_enter Tryd.func6, Tryd.ntmps6
  go_wp2_with (first
    | ((with_reducible refine H1.out.mono ?_); rintro e w1 ⟨v1, rfl, hs1, ho1⟩; have HS1 := Lib.hid hs1; have HO1 := Lib.hid ho1; have HG1 := Lib.hid (HG.out.self ho1); have H2 := Lib.hid (all_aW w1 HG1.out); have hconv := conv_const w1 w1.heap.size #[.int .u8 97] 1 1 rfl; clear hs1 ho1)
    | ((with_reducible refine H2.out.mono ?_); rintro e w2 ⟨v2, rfl, hs2, ho2⟩; have HS2 := Lib.hid hs2; have HO2 := Lib.hid ((OnlyS.alloc (S := fun _ => False) w1 _).trans ho2); have HG2 := Lib.hid (HG1.out.self HO2.out); have H3 := Lib.hid (long258 w2 HG2.out); clear hs2 ho2)
    | ((with_reducible refine H3.out.mono ?_); rintro e w3 ⟨rfl, ho3⟩; have HO3 := Lib.hid ho3; have H4 := Lib.hid (eq30 w3 v1 ((HS1.out.only HO2.out (fun _ _ _ _ _ h => h)).only ho3 (fun _ _ _ _ _ h => h))); clear ho3)
    | ((with_reducible refine H4.out.mono ?_); rintro e w4 ⟨rfl, rfl⟩; have HO4 := Lib.hid (OnlyS.alloc (S := fun _ => False) w3 (.cells #[.int .u8 3, .int .u8 0] 5)); have H5 := Lib.hid (eq75 (w3.alloc (.cells #[.int .u8 3, .int .u8 0] 5)) (w3.heap.size + 1) v2 ((HS2.out.only HO3.out (fun _ _ _ _ _ h => h)).only HO4.out (fun _ _ _ _ _ h => h)) (by simp)))
    | ((with_reducible refine H5.out.mono ?_); rintro e w5 ⟨rfl, rfl⟩))
  go_ret
  exact ⟨rfl, ((HO1.out.trans HO2.out).trans (HO3.out.trans HO4.out)).trans (OnlyS.alloc _ _)⟩
end Go.Proofs.YtphdcgioeokfbaaDoor
