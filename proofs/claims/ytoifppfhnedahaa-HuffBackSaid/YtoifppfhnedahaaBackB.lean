/-
  HuffBack: the law's walk.
-/
import Derived.Test.YtoifppfhnedahaaBackA
import Derived.Test.YtoifppfhnedahaaBackKit
import Derived.Test.YtoifppfhnedahaaReadsKit
namespace Go.Proofs.Ytoifppfhnedahaa
open Go.RowKit Hf
theorem apart_beq {zs : List Int} (hg : good zs) (i k : Nat) (hi : 0 < zs.getD i 0) (hk : 0 < zs.getD k 0) (hne : i ≠ k) :
    (((code zs i : Nat) : Int) / 2 ^ (zs.getD i 0 - min (zs.getD i 0) (zs.getD k 0)).toNat == ((code zs k : Nat) : Int) / 2 ^ (zs.getD k 0 - min (zs.getD i 0) (zs.getD k 0)).toNat) = false := by
  have h := code_apart hg i k hi hk hne
  rw [beq_eq_false_iff_ne]
  intro e
  refine h ?_
  have e1 : ∀ (c n : Nat), (c : Int) / 2 ^ n = ((c / 2 ^ n : Nat) : Int) := fun c n => by simp
  rw [e1, e1] at e
  exact Int.ofNat_inj.1 e
theorem none_true {C Z : List Int} {L : Nat} (h : Lens C L Z) (h0 : (syms C).length = 0) : rd Z (deep Z) 0 0 [true] = (0, 20, 1) := by
  rw [(lone_deep (h.lone (by omega))).1]
  have hno : sym Z (0 + 1) (2 * 0 + true.toNat) = none := by
    cases hs : sym Z (0 + 1) (2 * 0 + true.toNat) with
    | none => rfl
    | some t =>
      have := (sym_some Z 1 _ t (by decide)).1 hs
      have h2 := (syms_iff C t).2 ((h.pos t).1 (by omega))
      rw [List.eq_nil_of_length_eq_zero h0] at h2; cases h2
  rw [rd, hno]
  rfl
theorem SlV_true (w : World) (o : Obj) : SlV ((w.alloc (.cells #[.bool true] 4)).alloc o) (.slice (some ⟨w.heap.size, 0, none⟩) 1 1) (nb [true]) := by
  have h1 : SlV (w.alloc (.cells #[.bool true] 4)) (.slice (some ⟨w.heap.size, 0, none⟩) 1 1) (nb [true]) :=
    .inl ⟨w.heap.size, 0, 1, rfl, Nat.le_refl _, fun i v hi => by rw [Nat.zero_add]; exact (cell_of_row _ _ _ _ _ _ (heap_alloc_new w _)).trans (by simpa [nb] using hi)⟩
  exact h1.below ((Below.refl _ _).alloc (Nat.le_refl _) _) (Nat.le_refl _)
/-- The symbols that the law wants. -/
def wtd (sy : List Int) (ths : List Nat) (i : Nat) : List Nat := (sy.take i).map fun z => ths.getD (z % (ths.length : Int)).toNat 0
theorem wtd_length (sy : List Int) (ths : List Nat) (i : Nat) (h : i ≤ sy.length) : (wtd sy ths i).length = i := by simp [wtd, h]
theorem wtd_succ (sy : List Int) (ths : List Nat) (i : Nat) (h : i < sy.length) : wtd sy ths (i + 1) = wtd sy ths i ++ [ths.getD (sy.getD i 0 % (ths.length : Int)).toNat 0] := by
  unfold wtd
  rw [List.take_add_one, List.getElem?_eq_getElem h, List.map_append]
  simp [h]
theorem wtd_mem (sy : List Int) (ths : List Nat) (i : Nat) (h : 0 < ths.length) : ∀ s ∈ wtd sy ths i, s ∈ ths := by
  intro s hs
  obtain ⟨z, _, rfl⟩ := List.mem_map.1 hs
  have h1 := Int.emod_nonneg z (show (ths.length : Int) ≠ 0 by omega)
  have h2 := Int.emod_lt_of_pos z (show (0 : Int) < (ths.length : Int) by omega)
  exact getD_mem0 (by omega)
theorem getD_memI {l : List Int} {i : Nat} (h : i < l.length) : l.getD i 0 ∈ l := by
  rw [List.getD_eq_getElem?_getD, List.getElem?_eq_getElem h]; exact List.getElem_mem h
theorem own_neT {base k g : Nat} {ty ty' : TypeId} {w : World} {v : Value} {n : Nat} {l : List Value} {cs : Array Value} (h : w.ownsRow base ty k v n l) (hg : w.heap[g]? = some (.cells cs ty' (0, 0))) (hne : ty ≠ ty') : v.ownBlock ≠ some g := by
  obtain ⟨h0, ⟨h1, h2⟩ | ⟨g', cap, cur, h1, h2, h3, h4⟩⟩ := h
  · rw [h1]; intro e; cases e
  · rw [h1]
    intro e
    simp [Value.ownBlock] at e
    subst e
    rw [hg] at h3
    simp at h3
    exact hne h3.2.symm
/-- The feed that is filled, and the symbols that are wanted. -/
structure FW (w wr : World) (gf : Nat) (vf vw : Value) (l : List Bool) (W : List Nat) : Prop where
  fb : FB w wr gf vf l
  want : wr.ownsRow w.heap.size 3 1 vw W.length (nl W)
theorem FW.start (w : World) : FW w (w.alloc (.cells #[.slice none 0 0, .int .i64 0] 50)) w.heap.size (.slice none 0 0) (.slice none 0 0) [] [] :=
  ⟨FB.start w, World.ownsRow_nil _ _ _ _⟩
theorem fb_feed {w wr : World} {gf : Nat} {v : Value} {l : List Bool} (h : FB w wr gf v l) (hl : l.length ≤ 3000) : FeedAt wr gf v l 0 :=
  ⟨h.row, own_toV h.own, Nat.zero_le _, by omega, fun p n cap e _ h2 => own_ne50 h.own h.row (by rw [e]; simp [Value.ownBlock, h2])⟩
theorem FW.wantNe {w wr : World} {gf : Nat} {vf vw : Value} {l : List Bool} {W : List Nat} (h : FW w wr gf vf vw l W) : ∀ p n cap, vw = .slice (some p) n cap → 0 < n → p.block ≠ gf := by
  intro p n cap e _ e2
  exact own_neT h.want h.fb.row (by decide) (by rw [e]; simp [Value.ownBlock, e2])
theorem bitsAll_append (zs : List Int) (a b : List Nat) : bitsAll zs (a ++ b) = bitsAll zs a ++ bitsAll zs b := by simp [bitsAll]
theorem bitsAll_drop (zs : List Int) (W : List Nat) (j : Nat) : (bitsAll zs W).drop (bitsAll zs (W.take j)).length = bitsAll zs (W.drop j) := by
  conv => lhs; arg 2; rw [← List.take_append_drop j W, bitsAll_append]
  rw [List.drop_left]
theorem bitsAll_read {zs : List Int} (hg : good zs) (hk : kr zs ≤ 32768) (W : List Nat) (j : Nat) (hj : j < W.length) (h0 : 0 < zs.getD (W.getD j 0) 0) :
    rd zs (deep zs) 0 0 ((bitsAll zs W).drop (bitsAll zs (W.take j)).length) = (W.getD j 0, 0, (zs.getD (W.getD j 0) 0).toNat) := by
  rw [bitsAll_drop, List.drop_eq_getElem_cons hj, bitsAll_cons]
  have e : W.getD j 0 = W[j] := by simp [hj]
  rw [e] at h0 ⊢
  exact rd_code hg hk _ h0 _
theorem bitsAll_next (zs : List Int) (W : List Nat) (j : Nat) (hj : j < W.length) : (bitsAll zs (W.take (j + 1))).length = (bitsAll zs (W.take j)).length + (zs.getD (W.getD j 0) 0).toNat := by
  rw [List.take_add_one, List.getElem?_eq_getElem hj, bitsAll_append, List.length_append]
  simp [bitsAll, bitsN_length, hj]
theorem exits100 {k l : Nat} (h : ¬ (k < l ∧ k < 100)) : ((k : Int) < (l : Int) ∧ (100 : Int) ≤ (k : Int)) ∨ (l : Int) ≤ (k : Int) := by omega
theorem FW.start0 (w : World) (Z sy : List Int) (ths : List Nat) : FW w (w.alloc (.cells #[.slice none 0 0, .int .i64 0] 50)) w.heap.size (.slice none 0 0) (.slice none 0 0) (bitsAll Z (wtd sy ths 0)) (wtd sy ths 0) := by
  have e1 : wtd sy ths 0 = [] := by simp [wtd]
  have e2 : bitsAll Z [] = [] := by simp [bitsAll]
  rw [e1, e2]; exact FW.start w
theorem FW.drewN {w wr : World} {gf : Nat} {vf vw : Value} {l : List Bool} {W : List Nat} (h : FW w wr gf vf vw l W) (n : Nat) : FW w (wr.drewN n) gf vf vw l W :=
  ⟨⟨h.fb.row, own_stays h.fb.own fun _ _ => rfl, (below_drewN h.fb.below n), h.fb.le⟩, own_stays h.want fun _ _ => rfl⟩
theorem FW.more {w wr wa w2 : World} {gf : Nat} {vf vw v' : Value} {l : List Bool} {W : List Nat} (h : FW w wr gf vf vw l W) (s : Nat) (hwa : Below wr.heap.size wr wa)
    (hown : w2.ownsRow w.heap.size 3 1 v' (W.length + 1) (nl W ++ [.int .i64 (s : Int)])) (hgrow : wa.grownBy w2 vw.ownBlock) : FW w w2 gf vf v' l (W ++ [s]) := by
  have hgl : gf < wr.heap.size := (Array.getElem?_eq_some_iff.1 h.fb.row).1
  have hbl : Below w.heap.size w w2 := (h.fb.below.trans (hwa.mono h.fb.below.size)).grown hgrow (Nat.le_trans h.fb.below.size hwa.size) (fun k hk => (h.want.lt k hk).1)
  refine ⟨⟨?_, ?_, hbl, h.fb.le⟩, ?_⟩
  · rw [hgrow.block gf (Nat.lt_of_lt_of_le hgl hwa.size) (fun e => own_neT h.want h.fb.row (by decide) e.symm), hwa.block gf hgl]; exact h.fb.row
  · exact own_stays h.fb.own fun j hj => by
      have hj2 := (h.fb.own.lt j hj).2
      rw [hgrow.block j (Nat.lt_of_lt_of_le hj2 hwa.size) (fun e => own_apart h.fb.own h.want (by decide) j hj e.symm), hwa.block j hj2]
  · rw [nl_append, List.length_append]; exact hown
theorem FW.app {w wr wa w2 : World} {gf : Nat} {vf vw v' : Value} {l : List Bool} {W : List Nat} (h : FW w wr gf vf vw l W) (b : Bool) (hwa : Below wr.heap.size wr wa)
    (hown : w2.ownsRow w.heap.size 4 1 v' (l.length + 1) (nb l ++ [.bool b])) (hgrow : wa.grownBy w2 vf.ownBlock) :
    w2.cell? ⟨gf, 0, none⟩ = some vf ∧ w2.frozen? ⟨gf, 0, none⟩ = false ∧ FW w (w2.setCell ⟨gf, 0, none⟩ v') gf v' vw (l ++ [b]) W := by
  obtain ⟨h1, h2, h3⟩ := h.fb.app b hwa hown hgrow
  refine ⟨h1, h2, h3, own_stays h.want fun j hj => ?_⟩
  have hj2 := (h.want.lt j hj).2
  rw [heap_setCell_other _ _ _ _ (fun e => own_neT h.want h.fb.row (by decide) (by rw [hj, e])), hgrow.block j (Nat.lt_of_lt_of_le hj2 hwa.size) (fun e => own_apart h.want h.fb.own (by decide) j hj e.symm), hwa.block j hj2]
theorem turned_back (w : World) (c : Nat) (z : Int) (hc : c < 2 ^ z.toNat) (hz : 0 < z ∧ z ≤ 15) (m : Nat) :
    Calls Try.prog 21 #[.int .u32 ((trn c z.toNat : Nat) : Int), .int .i64 z] (w.drewN m) fun e w' => e = .returned (.int .u32 (c : Int)) ∧ w' = w.drewN m := by
  have h1 := trn_lt c z.toNat
  have h2 : 2 ^ z.toNat ≤ 2 ^ 15 := Nat.pow_le_pow_right (by decide) (by omega)
  have h3 : (2 : Nat) ^ 15 = 32768 := by decide
  exact (Turned_walk (w.drewN m) _ z (by omega)).mono fun e w' h => ⟨by rw [h.1, show min z.toNat 32 = z.toNat by omega, trn_twice _ _ hc], h.2.symm⟩
theorem bitsN_step (c n k : Nat) (hn : n ≤ 15) (hk : k < n) : (bitsN c n).take (k + 1) = (bitsN c n).take k ++ [bits .and .u32 ((trn c n : Int) / 2 ^ k) 1 == 1] := by
  have hl : k < (bitsN c n).length := by rw [bitsN_length]; exact hk
  rw [List.take_add_one, List.getElem?_eq_getElem hl]
  congr 1
  have h1 := trn_lt c n
  have h2 : 2 ^ n ≤ 2 ^ 15 := Nat.pow_le_pow_right (by decide) hn
  have h3 : (2 : Nat) ^ 15 = 32768 := by decide
  have e2 : (trn c n : Int) / 2 ^ k = ((trn c n / 2 ^ k : Nat) : Int) := by simp
  have e3 : trn c n / 2 ^ k < 4294967296 := Nat.lt_of_le_of_lt (Nat.div_le_self _ _) (by omega)
  rw [e2, show (1 : Int) = ((1 : Nat) : Int) from rfl, u32_and_nat _ _ e3 (by decide), Nat.and_one_is_mod]
  simp only [bitsN, List.getElem_map, List.getElem_range, Option.toList_some]
  congr 1
  generalize trn c n / 2 ^ k = y
  rcases Nat.mod_two_eq_zero_or_one y with h | h <;> rw [h] <;> rfl
theorem turned_quiet (w : World) (t : Nat) (z : Int) (ht : t < 4294967296) (hz : 0 < z ∧ z ≤ 15) (m : Nat) :
    Calls Try.prog 21 #[.int .u32 (t : Int), .int .i64 z] (w.drewN m) fun e w' => e = .returned (.int .u32 ((trn t z.toNat : Nat) : Int)) ∧ w' = w.drewN m :=
  (Turned_walk (w.drewN m) t z ht).mono fun e w' h => ⟨by rw [h.1, show min z.toNat 32 = z.toNat by omega], h.2.symm⟩
set_option maxRecDepth 100000 in
set_option maxHeartbeats 16000000 in
theorem back_walk (w : World) (v u : Value) (ls : List Nat) (sy : List Int) (hv : SlV w v (nu ls)) (hu : SlV w u (n8 sy)) (hb : ∀ z ∈ ls, z < 4294967296) (hb8 : ∀ z ∈ sy, 0 ≤ z ∧ z < 256) :
    Calls Try.prog 6 #[v, u] w fun e w' => e = .returned (.bool true) ∧ Below w.heap.size w w' := by
  have hmf : ∀ (fn : Fn) (first cap : Array Value) (w : World), (Instr.makeFunc fn first cap).run Try.prog w = .ok (.func fn first cap) w := fun _ _ _ _ => rfl
  obtain ⟨i0, hi, hz0, hz1, hz2⟩ := info_parts info3
  have HI0 := Lib.hid (And.intro hi (And.intro hz0 (And.intro hz1 hz2)))
  clear hi hz0 hz1 hz2
  obtain ⟨i4, hi, hz0, hz1, hz2⟩ := info_parts info4
  have HI4 := Lib.hid (And.intro hi (And.intro hz0 (And.intro hz1 hz2)))
  clear hi hz0 hz1 hz2
  obtain ⟨pu, cu, rfl⟩ := hu.shape
  rw [n8_length] at *
  obtain ⟨l8, hl8⟩ : ∃ l8, l8 = sy.length := ⟨_, rfl⟩
  rw [← hl8] at hu ⊢
  have HN8 := Lib.hid hl8
  have HU := Lib.hid hu
  have HU8 := Lib.hid hb8
  have HBR := Lib.hid (brought_walk w v ls hv hb)
  clear hl8 hu hb8 hv hb
  have hn40 : (bro ls).length ≤ 40 := by rw [bro_length]; omega
  have hsl := syms_le (bro ls)
  have hk15 : (syms (bro ls)).length ≤ 2 ^ 15 := by rw [show (2 : Nat) ^ 15 = 32768 from by decide]; omega
  have HLE := Lib.hid (lens_are (bro ls) 15 (by decide) (by decide) hk15)
  have HOK := Lib.hid (bro_ok ls)
  have HLA := Lib.hid (fun (w : World) (v : Value) hv => Lengths_any w v (bro ls) 15 hv (bro_ok ls) (by decide) (by decide) hk15)
  have HCB := Lib.hid (bro_bound ls)
  clear hk15
  go_enter Try.func6, Try.ntmps6
  go_wp2_with fail
  refine HBR.out.mono ?_
  rintro e w1 ⟨v5, rfl, hO, hB⟩
  clear HBR
  generalize bro ls = C at *
  obtain ⟨Z, hZ⟩ : ∃ Z, Z = lensF C 15 := ⟨_, rfl⟩
  rw [← hZ] at HLE HLA
  clear hZ
  have hn : Z.length = C.length := HLE.out.len
  have HG : Hid (good Z) := Lib.hid (HLE.out.good (by decide) (by omega))
  have HMAY : Hid (may Z = 0) := Lib.hid (HLE.out.may (by decide) (by omega))
  obtain ⟨p5, cap5, rfl⟩ := own_shape hO
  obtain ⟨n, hnC⟩ : ∃ n, n = C.length := ⟨_, rfl⟩
  have HC5 := Lib.hid (own_toV hO)
  have HB := Lib.hid hB
  have HNZ : Hid (n = Z.length ∧ n = C.length) := Lib.hid ⟨by omega, hnC⟩
  rw [← hnC] at HC5 hn40 ⊢
  clear hO hB hn hnC hsl
  go_wp2_with fail
  refine (HLA.out w1 _ HC5.out).mono ?_
  rintro e w2 ⟨v6, rfl, hB2, hO⟩
  rw [← HNZ.out.2] at hO
  obtain ⟨p6, cap6, rfl⟩ := own_shape hO
  have HB := Lib.hid (bt HB.out hB2)
  have HC5 := Lib.hid (HC5.out.below hB2 (Nat.le_refl _))
  have HC6 := Lib.hid (own_toV hO)
  clear hO hB2 HLA HOK
  go_wp2_with fail
  refine (codes_good _ _ _ HC6.out HG.out (by have := HLE.out.st; rw [this]; split <;> decide)).mono ?_
  rintro e w3 ⟨v8, rfl, hO, hB3⟩
  rw [← HNZ.out.1] at hO
  obtain ⟨p8, cap8, rfl⟩ := own_shape hO
  have HB := Lib.hid (bt HB.out hB3)
  have HC5 := Lib.hid (HC5.out.below hB3 (Nat.le_refl _))
  have HC6 := Lib.hid (HC6.out.below hB3 (Nat.le_refl _))
  have HC8 := Lib.hid (own_toV hO)
  clear hO hB3
  go_wp2_with fail
  refine (new_good _ _ _ HC6.out HMAY.out).mono ?_
  rintro e w4 ⟨gn, rfl, hBK, hB4⟩
  have HB := Lib.hid (bt HB.out hB4)
  have HC5 := Lib.hid (HC5.out.below hB4 (Nat.le_refl _))
  have HC6 := Lib.hid (HC6.out.below hB4 (Nat.le_refl _))
  have HC8 := Lib.hid (HC8.out.below hB4 (Nat.le_refl _))
  have HBK := Lib.hid hBK
  clear hBK hB4
  go_wp2_with fail
  have HB40 : Hid (w.heap.size ≤ w4.heap.size) := Lib.hid HB.out.size
  go_loopw [12, 13] (fun v12 v13 wr => ∃ i : Nat, i ≤ n ∧ v13 = .int .i64 i ∧ wr.ownsRow w4.heap.size 3 1 v12 (posTo C i).length (nl (posTo C i)) ∧ Below w4.heap.size w4 wr) (fun _ v13 _ => n - (intOf v13).toNat)
  case atStart => exact ⟨0, Nat.zero_le _, rfl, World.ownsRow_nil _ _ _ _, Below.refl _ _⟩
  case round =>
    obtain ⟨i, hi, rfl, hO, hBL⟩ := hrel
    obtain ⟨p12, cap12, rfl⟩ := own_shape hO
    have HO := Lib.hid hO
    have HBL := Lib.hid hBL
    have hszl : w4.heap.size ≤ wr.heap.size := hBL.size
    clear hO hBL
    by_cases hlt : i < n
    · have hlti : (i : Int) < (n : Int) := by omega
      obtain ⟨g5, o5, rfl, hrow5⟩ := (HC5.out.below HBL.out (Nat.le_refl _)).some (by omega)
      have hcap5 := HC5.out.le
      have hiC : i < C.length := by rw [← HNZ.out.2]; exact hlt
      have hc5 := hrow5.ni i hiC
      clear hrow5
      have HP := Lib.hid (posTo_succ C i)
      have hpl := posTo_le C i
      have HPI := Lib.hid (HLE.out.pos i)
      have hcb := HCB.out i
      obtain ⟨c, hc⟩ : ∃ c, c = C.getD i 0 := ⟨_, rfl⟩
      rw [← hc] at hc5 HP HPI hcb
      clear hc hiC
      obtain ⟨m, hm⟩ : ∃ m, m = (posTo C i).length := ⟨_, rfl⟩
      rw [← hm] at HO hpl ⊢
      have HM := Lib.hid hm
      clear hm
      by_cases hc0 : c = 0
      · subst hc0
        have HP2 := HP.out
        rw [if_neg (by decide), List.append_nil] at HP2
        have HP2 := Lib.hid HP2
        clear HP HPI hcb
        go_wp2_with fail
        refine ⟨⟨i + 1, by omega, by go_num, ?_, HBL.out⟩, by simp [intOf]; omega⟩
        rw [HP2.out, ← HM.out]; exact HO.out
      · have hc1 : 0 < c := by omega
        have hcn : (c == 0) = false := by simpa using hc0
        have HP2 := HP.out
        rw [if_pos hc1] at HP2
        have HP2 := Lib.hid HP2
        have HZ0 := Lib.hid (HPI.out.2 hc1)
        clear HP HPI hcb
        go_wp2_with (refine wpList_appK 22 3 i0 (.int .i64 0) 1 8 Try.underlying22 HI0.out.1 HI0.out.2.1 HI0.out.2.2.1 HI0.out.2.2.2 rfl (by decide) (by decide) rfl _ _ rfl w4.heap.size (.slice p12 m cap12) (.slice (some ⟨wr.heap.size, 0, none⟩) 1 1) m 1 _ [.int .i64 (i : Int)] rfl rfl (one_int _) (HO.out.alloc _) (SlK_new wr _) (by simp; omega) (by omega) ?_; intro v' w9 hown hgrow _; obtain ⟨p9, cap9, hv'⟩ := own_shape hown; have HOW := Lib.hid hown; have HGR := Lib.hid hgrow; clear hown hgrow; subst hv')
        have HBG : Hid (Below w4.heap.size w4 w9) := Lib.hid ((HBL.out.alloc HBL.out.size _).grown HGR.out (by simp; omega) (fun k e => (HO.out.lt k e).1))
        clear HGR
        go_loopw [14] (fun v14 wz => ∃ k : Nat, k ≤ i ∧ v14 = .int .i64 k ∧ Below w9.heap.size w9 wz) (fun v14 _ => i - (intOf v14).toNat)
        case atStart => exact ⟨0, Nat.zero_le _, rfl, Below.refl _ _⟩
        case round =>
          obtain ⟨k, hk, rfl, hBI⟩ := hrel
          have HBI := Lib.hid hBI
          clear hBI
          by_cases hki : k < i
          · have hkii : (k : Int) < (i : Int) := by omega
            have HBT := Lib.hid (HBG.out.trans (HBI.out.mono HBG.out.size))
            obtain ⟨g6, o6, rfl, hrow6⟩ := (HC6.out.below HBT.out (Nat.le_refl _)).some (by omega)
            obtain ⟨g8, o8, rfl, hrow8⟩ := (HC8.out.below HBT.out (Nat.le_refl _)).some (by omega)
            have hcap6 := HC6.out.le
            have hcap8 := HC8.out.le
            have hz1 := hrow6.ni i (by rw [← HNZ.out.1]; exact hlt)
            have hz2 := hrow6.ni k (by rw [← HNZ.out.1]; omega)
            have hd1 := hrow8.nu i (by rw [codes_length, ← HNZ.out.1]; exact hlt)
            have hd2 := hrow8.nu k (by rw [codes_length, ← HNZ.out.1]; omega)
            rw [codes_getD _ _ (by rw [← HNZ.out.1]; omega)] at hd1 hd2
            clear hrow6 hrow8
            have HAP := Lib.hid (apart_beq HG.out i k HZ0.out)
            have hg1 := getD_good HG.out i
            have hg2 := getD_good HG.out k
            have hz0 := HZ0.out
            have hne : i ≠ k := by omega
            generalize Z.getD i 0 = z1 at hz1 hg1 HAP hz0
            generalize Z.getD k 0 = z2 at hz2 hg2 HAP
            generalize code Z i = c1 at hd1 HAP
            generalize code Z k = c2 at hd2 HAP
            by_cases hz : 0 < z2
            · have hmn : 0 < min z1 z2 := by omega
              have heq := HAP.out hz hne
              clear HAP
              go_wp2_with fail
              go_quiet (fail)
              have HBI := Lib.hid (below_drewN HBI.out nq)
              have hz1 : (wr.drewN nq).cell? _ = _ := hz1
              have hz2 : (wr.drewN nq).cell? _ = _ := hz2
              have hd1 : (wr.drewN nq).cell? _ = _ := hd1
              have hd2 : (wr.drewN nq).cell? _ = _ := hd2
              generalize wr.drewN nq = wx at *
              go_wp2_with fail
              go_quiet (fail)
              have HBI := Lib.hid (below_drewN HBI.out nq)
              clear hz1 hz2 hd1 hd2
              generalize wx.drewN nq = wy at *
              go_wp2_with fail
              exact ⟨⟨k + 1, by omega, by go_num, HBI.out⟩, by simp [intOf]; omega⟩
            · have hmn : min z1 z2 ≤ 0 := by omega
              clear HAP
              go_wp2_with fail
              go_quiet (fail)
              have HBI := Lib.hid (below_drewN HBI.out nq)
              clear hz1 hz2 hd1 hd2
              generalize wr.drewN nq = wx at *
              rw [show min z1 z2 = 0 by omega]
              clear hmn
              go_wp2_with fail
              go_quiet (fail)
              have HBI := Lib.hid (below_drewN HBI.out nq)
              generalize wx.drewN nq = wy at *
              go_wp2_with fail
              exact ⟨⟨k + 1, by omega, by go_num, HBI.out⟩, by simp [intOf]; omega⟩
          · have hkii : (i : Int) ≤ (k : Int) := by omega
            go_wp2_with fail
            refine ⟨⟨i + 1, by omega, by go_num, ?_, HBG.out.trans (HBI.out.mono HBG.out.size)⟩, by simp [intOf]; omega⟩
            rw [HP2.out, nl_append, List.length_append, ← HM.out]
            exact own_stays HOW.out fun j hj => HBI.out.block j (HOW.out.lt j hj).2
    · have hlti : (n : Int) ≤ (i : Int) := by omega
      obtain rfl : i = n := by omega
      have HB := Lib.hid (bt HB.out HBL.out)
      have HC6 := Lib.hid (HC6.out.below HBL.out (Nat.le_refl _))
      have HC8 := Lib.hid (HC8.out.below HBL.out (Nat.le_refl _))
      have HBK := Lib.hid (HBK.out.only (OnlyS.of_below (S := fun _ => False) HBL.out) (fun _ _ _ h => h))
      have HHI : Hid (w4.heap.size ≤ wr.heap.size) := Lib.hid HBL.out.size
      have HTH := Lib.hid (own_toV HO.out)
      have HPT : Hid (posTo C i = posTo C C.length) := Lib.hid (by rw [← HNZ.out.2])
      obtain ⟨m, hm⟩ : ∃ m, m = (posTo C i).length := ⟨_, rfl⟩
      rw [← hm] at HTH ⊢
      have hm40 : m ≤ 40 := by have := posTo_le C i; omega
      have HM := Lib.hid hm
      clear hm HO HBL HC5
      by_cases hm0 : m = 0
      · subst hm0
        have HLO : Hid (Hf.lone Z = true) := Lib.hid (HLE.out.lone (by rw [syms_length, ← HPT.out, ← HM.out]; decide))
        go_wp2_with fail
        have HRD := Lib.hid (none_true HLE.out (by rw [syms_length, ← HPT.out, ← HM.out]))
        have hbw : Below wr.heap.size wr ((wr.alloc (.cells #[.bool true] 4)).alloc (.cells #[.slice (some ⟨wr.heap.size, 0, none⟩) 1 1, .int .i64 0] 50)) := ((Below.refl _ _).alloc (Nat.le_refl _) _).alloc (by simp) _
        have HB := Lib.hid (bt HB.out hbw)
        have HBK := Lib.hid (HBK.out.only (OnlyS.of_below (S := fun _ => False) hbw) (fun _ _ _ h => h))
        have HFD : Hid (FeedAt ((wr.alloc (.cells #[.bool true] 4)).alloc (.cells #[.slice (some ⟨wr.heap.size, 0, none⟩) 1 1, .int .i64 0] 50)) (wr.heap.size + 1) (.slice (some ⟨wr.heap.size, 0, none⟩) 1 1) [true] 0) := Lib.hid
          ⟨by have := heap_alloc_new (wr.alloc (.cells #[.bool true] 4)) (.cells #[.slice (some ⟨wr.heap.size, 0, none⟩) 1 1, .int .i64 0] 50); rwa [World.size_alloc] at this, SlV_true wr _, Nat.zero_le _, by decide, fun p n cap e _ => by cases e; simp⟩
        have HSZ : Hid (((wr.alloc (.cells #[.bool true] 4)).alloc (.cells #[.slice (some ⟨wr.heap.size, 0, none⟩) 1 1, .int .i64 0] 50)).heap.size = wr.heap.size + 1 + 1) := Lib.hid (by simp)
        have HWS : Hid (w.heap.size ≤ wr.heap.size + 1) := Lib.hid (Nat.le_trans HB40.out (Nat.le_trans HHI.out (Nat.le_succ _)))
        clear hbw
        generalize (wr.alloc (.cells #[.bool true] 4)).alloc (.cells #[.slice (some ⟨wr.heap.size, 0, none⟩) 1 1, .int .i64 0] 50) = wf at *
        refine (Next_walk _ _ _ _ _ _ _ _ 0 HBK.out (deep_15 HG.out) HFD.out (.inr (Nat.le_trans HHI.out (Nat.le_succ _))) (by rw [HSZ.out]; have := HHI.out; omega) (fun p n cap e _ => by cases e; rw [HSZ.out]; show wr.heap.size < _; omega) HG.out.1).mono ?_
        rintro e wt ⟨rfl, hft, hon⟩
        rw [List.drop_zero, HRD.out] at hft ⊢
        dsimp only at hft ⊢
        have HB := Lib.hid (HB.out.trans (hon.below HB.out.size (fun k e => by rw [e]; exact HWS.out)))
        clear hft hon HFD HBK HRD HSZ HWS HHI HTH HLE HG HMAY HC6 HC8 HB40
        go_wp2_with fail
        refine (tells_walk _).mono ?_
        rintro e wo ⟨rfl, hBo⟩
        have HBo := Lib.hid (bt HB.out hBo)
        clear hBo
        go_wp2_with fail
        go_ret
        exact ⟨rfl, HBo.out⟩
      · have hm1 : 1 ≤ m := by omega
        have hm0b : ((m : Int) == 0) = false := by rw [beq_eq_false_iff_ne]; omega
        have HKS : Hid (∀ s, s ∈ posTo C i → s < i ∧ 0 < Z.getD s 0) := Lib.hid fun s hs => by
          have := (posTo_iff C i s).1 hs
          exact ⟨this.1, (HLE.out.pos s).2 this.2⟩
        have HKRR := Lib.hid HLE.out.kr
        generalize posTo C i = ths at *
        clear HPT HLE HCB
        go_wp2_with fail
        obtain ⟨wz, rfl⟩ : ∃ wz, wz = wr := ⟨_, rfl⟩
        have HFS : Hid (FW wz (wz.alloc (.cells #[.slice none 0 0, .int .i64 0] 50)) wz.heap.size (.slice none 0 0) (.slice none 0 0) (bitsAll Z (wtd sy ths 0)) (wtd sy ths 0)) := Lib.hid (FW.start0 wz Z sy ths)
        have HAL : Hid (Below wz.heap.size wz (wz.alloc (.cells #[.slice none 0 0, .int .i64 0] 50))) := Lib.hid ((Below.refl _ _).alloc (Nat.le_refl _) _)
        generalize hgf : wz.heap.size = gf at *
        have HGF := Lib.hid hgf
        clear hgf
        go_loopw [19, 20] (fun v19 v20 wy => ∃ (q : Nat) (vf : Value), q ≤ l8 ∧ q ≤ 100 ∧ v20 = .int .i64 q ∧ FW wz wy gf vf v19 (bitsAll Z (wtd sy ths q)) (wtd sy ths q)) (fun _ v20 _ => 100 - (intOf v20).toNat)
        case atStart => exact ⟨0, _, Nat.zero_le _, Nat.zero_le _, rfl, HFS.out⟩
        case round =>
          obtain ⟨q, vf, hq, hq1, rfl, hF⟩ := hrel
          have HB8 := Lib.hid (HU.out.below (HB.out.trans (hF.fb.below.mono HB.out.size)) (Nat.le_refl _))
          have HTZ := Lib.hid (HTH.out.below hF.fb.below (Nat.le_refl _))
          obtain ⟨W, hW⟩ : ∃ W, W = wtd sy ths q := ⟨_, rfl⟩
          rw [← hW] at hF
          have hWl : W.length = q := by rw [hW, wtd_length]; rw [← HN8.out]; exact hq
          have HWW := Lib.hid (And.intro hW hWl)
          have hbl := bitsAll_length HG.out W
          rw [hWl] at hbl
          obtain ⟨L, hL⟩ : ∃ L, L = bitsAll Z W := ⟨_, rfl⟩
          rw [← hL] at hF hbl
          have HLL := Lib.hid hL
          clear hW hL
          obtain ⟨pw, cw, rfl⟩ := own_shape hF.want
          obtain ⟨pf, cf, rfl⟩ := own_shape hF.fb.own
          have HF := Lib.hid hF
          clear hF
          rw [hWl] at HF ⊢
          clear hWl
          by_cases hlt : q < l8 ∧ q < 100
          · obtain ⟨hq8, hq100⟩ := hlt
            have h1 : (q : Int) < (l8 : Int) := by omega
            have h2 : (q : Int) < 100 := by omega
            obtain ⟨g1, o1, rfl, hrow1⟩ := HB8.out.some (by omega)
            have hcap1 := HB8.out.le
            have hqs : q < sy.length := by have := HN8.out; omega
            have hc1 := hrow1.n8 q hqs
            have hz := HU8.out (sy.getD q 0) (getD_memI hqs)
            have HWS := Lib.hid (wtd_succ sy ths q hqs)
            rw [← HWW.out.1] at HWS
            rw [← HM.out] at HWS
            clear hrow1 hqs
            generalize sy.getD q 0 = z at hc1 hz HWS
            obtain ⟨g2, o2, rfl, hrow2⟩ := HTZ.out.some (by omega)
            have hcap2 := HTZ.out.le
            have hm0i : (m : Int) ≠ 0 := by omega
            have hr1 := Int.emod_nonneg z hm0i
            have hr2 := Int.emod_lt_of_pos z (show (0 : Int) < (m : Int) by omega)
            obtain ⟨r, hr⟩ : ∃ r : Nat, z % (m : Int) = (r : Int) := ⟨(z % (m : Int)).toNat, by omega⟩
            have hrm : r < m := by omega
            have hrl : r < ths.length := by have := HM.out; omega
            have hc2 := hrow2 r _ (nl_at ths r hrl)
            have HKR := Lib.hid (HKS.out (ths.getD r 0) (getD_mem0 hrl))
            clear hrl
            rw [hr, Int.toNat_natCast] at HWS
            clear hrow2 hr1 hr2
            generalize ths.getD r 0 = s at hc2 HKR HWS
            have how := HF.out.want
            rw [HWW.out.2] at how
            have HOW := Lib.hid how
            clear how
            have hszz : wz.heap.size ≤ wr.heap.size := HF.out.fb.below.size
            go_wp2_with (refine wpList_appK 22 3 i0 (.int .i64 0) 1 8 Try.underlying22 HI0.out.1 HI0.out.2.1 HI0.out.2.2.1 HI0.out.2.2.2 rfl (by decide) (by decide) rfl _ _ rfl wz.heap.size (.slice pw q cw) (.slice (some ⟨wr.heap.size, 0, none⟩) 1 1) q 1 _ [.int .i64 (s : Int)] rfl rfl (one_int _) (HOW.out.alloc _) (SlK_new wr _) (by simp; omega) (by omega) ?_; intro v' w9 hown hgrow _; obtain ⟨p9, cap9, hv'⟩ := own_shape hown; have HF9 := Lib.hid (HF.out.more s ((Below.refl _ _).alloc (Nat.le_refl _) _) (by rw [HWW.out.2]; exact hown) hgrow); clear hown hgrow; subst hv')
            have hsi := HKR.out.1
            obtain ⟨g6, o6, rfl, hrow6⟩ := HC6.out.some (by omega)
            obtain ⟨g8, o8, rfl, hrow8⟩ := HC8.out.some (by omega)
            have hcap6 := HC6.out.le
            have hcap8 := HC8.out.le
            have hd6 := hrow6.ni s (by rw [← HNZ.out.1]; exact hsi)
            have hd8 := hrow8.nu s (by rw [codes_length, ← HNZ.out.1]; exact hsi)
            rw [codes_getD _ _ (by rw [← HNZ.out.1]; exact hsi)] at hd8
            clear hrow6 hrow8
            have hzs := HKR.out.2
            have hzb := getD_good HG.out s
            have HCL := Lib.hid (code_lt HG.out HKRR.out s hzs)
            have HLS : Hid (bitsAll Z (W ++ [s]) = L ++ bitsN (code Z s) (Z.getD s 0).toNat) := Lib.hid (by rw [bitsAll_snoc, ← HLL.out])
            generalize Z.getD s 0 = zs at hd6 hzs hzb HCL HLS
            generalize code Z s = cs at hd8 HCL HLS
            have hcs : cs < 4294967296 := by
              have h1 := HCL.out
              have h2 : 2 ^ zs.toNat ≤ 2 ^ 15 := Nat.pow_le_pow_right (by decide) (by omega)
              have h3 : (2 : Nat) ^ 15 = 32768 := by decide
              omega
            have HT1 := Lib.hid (fun (w : World) => turned_quiet w cs zs hcs ⟨hzs, by omega⟩)
            have HT2 := Lib.hid (fun (w : World) => turned_back w cs zs HCL.out ⟨hzs, by omega⟩)
            have HD6 := Lib.hid hd6
            have hd6 := (HF9.out.fb.below.cell (block_lt_of_cell hd6)).trans hd6
            have hd8 := (HF9.out.fb.below.cell (block_lt_of_cell hd8)).trans hd8
            go_wp2_with fail
            go_quiet (first | (go_at_call 21; exact Calls.quiet_of_same (HT1.out _ _)))
            have HF9 := Lib.hid (HF9.out.drewN nq)
            have hd6 : (w9.drewN nq).cell? _ = _ := hd6
            have hd8 : (w9.drewN nq).cell? _ = _ := hd8
            generalize w9.drewN nq = wx at *
            go_wp2_with fail
            go_quiet (first | (go_at_call 21; exact Calls.quiet_of_same (HT2.out _ _)))
            have HF9 := Lib.hid (HF9.out.drewN nq)
            clear hd6 hd8 HT1 HT2
            generalize wx.drewN nq = wx2 at *
            go_wp2_with fail
            obtain ⟨zn, hzn⟩ : ∃ zn : Nat, zs = (zn : Int) := ⟨zs.toNat, by omega⟩
            subst hzn
            rw [Int.toNat_natCast] at HCL HLS ⊢
            have hzn0 : 0 < zn := by omega
            have hzn15 : zn ≤ 15 := by omega
            have HB0 : Hid (FW wz wx2 gf (.slice pf L.length cf) (.slice p9 (q + 1) cap9) (L ++ (bitsN cs zn).take 0) (W ++ [s])) := Lib.hid (by rw [List.take_zero, List.append_nil]; exact HF9.out)
            have HTL := Lib.hid (trn_lt cs zn)
            generalize hct : trn cs zn = ct at *
            have HCT := Lib.hid hct
            clear hct HF9 HF
            go_loopw [23] (fun v23 wy => ∃ (k : Nat) (vf : Value), k ≤ zn ∧ v23 = .int .i64 k ∧ FW wz wy gf vf (.slice p9 (q + 1) cap9) (L ++ (bitsN cs zn).take k) (W ++ [s])) (fun v23 _ => zn - (intOf v23).toNat)
            case atStart => exact ⟨0, _, Nat.zero_le _, rfl, HB0.out⟩
            case round =>
              obtain ⟨k, vf, hk, rfl, hF⟩ := hrel
              have hlL : (L ++ (bitsN cs zn).take k).length ≤ 3000 := by
                rw [List.length_append, List.length_take, bitsN_length]; omega
              have hd6 := (hF.fb.below.cell (block_lt_of_cell HD6.out)).trans HD6.out
              obtain ⟨pv, cv, rfl⟩ := own_shape hF.fb.own
              have HF := Lib.hid hF
              clear hF
              by_cases hkz : k < zn
              · have hkzi : (k : Int) < (zn : Int) := by omega
                have HBS : Hid (L ++ (bitsN cs zn).take (k + 1) = (L ++ (bitsN cs zn).take k) ++ [bits .and .u32 ((ct : Int) / 2 ^ k) 1 == 1]) := Lib.hid (by rw [← HCT.out, List.append_assoc, ← bitsN_step cs zn k hzn15 hkz])
                generalize L ++ (bitsN cs zn).take k = LL at *
                have hc2 := HF.out.fb.c0
                have hc3 : ∀ b, (wr.alloc (.cells #[.bool b] 4)).cell? _ = _ := fun b => (((Below.refl wr.heap.size wr).alloc (Nat.le_refl _) (.cells #[.bool b] 4)).cell (block_lt_of_cell hc2)).trans hc2
                have HWA : ∀ b, Hid (Below wr.heap.size wr (wr.alloc (.cells #[.bool b] 4)).drew) := fun b => Lib.hid (((Below.refl _ _).alloc (Nat.le_refl _) _).trans ⟨rfl, rfl, rfl, Nat.le_refl _, fun _ _ => rfl⟩)
                go_wp2_with fail
                go_region_law (refine step_appK 32 4 i4 (.bool false) 1 1 Try.underlying32 HI4.out.1 HI4.out.2.1 HI4.out.2.2.1 HI4.out.2.2.2 rfl (by decide) (by decide) rfl (.tmp 207) (.tmp 213) rfl _ (.slice pv LL.length cv) (.slice (some ⟨wr.heap.size, 0, none⟩) 1 1) LL.length 1 (nb LL) [.bool _] rfl rfl (one_bool _) (HF.out.fb.own.alloc _).drew (SlK_bool wr _) (Nat.le_trans HF.out.fb.below.size (by simp)) (by omega) ?_; intro v' w6 hown hgrow _; obtain ⟨e1, f1, hF3⟩ := HF.out.app _ (HWA _).out hown hgrow; obtain ⟨p6, cap6, hv'⟩ := own_shape hown; have HF3 := Lib.hid hF3; clear hF3 hown hgrow; subst hv')
                all_goals go_wp2_with fail
                all_goals (rw [← HBS.out] at HF3; refine ⟨⟨k + 1, .slice p6 (LL.length + 1) cap6, ?_, ?_, HF3.out⟩, ?_⟩ <;> first | omega | go_num | (simp only [intOf]; omega))
              · obtain rfl : k = zn := by omega
                obtain ⟨vx, HX⟩ : ∃ vx, FW wz wr gf vx (.slice p9 (q + 1) cap9) (bitsAll Z (wtd sy ths (q + 1))) (wtd sy ths (q + 1)) := by
                  have h0 := HF.out
                  rw [List.take_of_length_le (Nat.le_of_eq (bitsN_length cs k)), ← HLS.out, ← HWS.out] at h0
                  exact ⟨_, h0⟩
                have HX := Lib.hid HX
                go_wp2_with fail
                refine ⟨⟨q + 1, vx, ?_, ?_, ?_, HX.out⟩, ?_⟩
                · omega
                · omega
                · go_num
                · simp only [intOf]; omega
          · have HL3 : Hid (L.length ≤ 3000) := Lib.hid (by omega)
            have HBW := Lib.hid (HB.out.trans (HF.out.fb.below.mono HB.out.size))
            have HBK := Lib.hid (HBK.out.only (OnlyS.of_below (S := fun _ => False) HF.out.fb.below) (fun _ _ _ h => h))
            have HFD := Lib.hid (fb_feed HF.out.fb (by have := HL3.out; omega))
            have HVB : Hid (∀ p n cap, Value.slice pf L.length cf = .slice (some p) n cap → 0 < n → p.block < wr.heap.size) := Lib.hid HF.out.fb.lt
            have HWB : Hid (∀ p n cap, Value.slice pw q cw = .slice (some p) n cap → 0 < n → p.block ≠ gf) := Lib.hid HF.out.wantNe
            have HWV := Lib.hid (own_toV HF.out.want)
            have HKW : Hid (∀ s ∈ W, 0 < Z.getD s 0) := Lib.hid (fun s hs => (HKS.out s (wtd_mem sy ths q (by rw [← HM.out]; omega) s (by rw [← HWW.out.1]; exact hs))).2)
            have HSZ : Hid (w4.heap.size ≤ wr.heap.size ∧ w4.heap.size ≤ gf ∧ w.heap.size ≤ gf) := Lib.hid ⟨Nat.le_trans HHI.out (by have h := HF.out.fb.below.size; rw [HGF.out] at h; exact h), HHI.out, Nat.le_trans HB40.out HHI.out⟩
            obtain rfl : W.length = q := HWW.out.2
            obtain ⟨wa, rfl⟩ : ∃ wa, wa = wr := ⟨_, rfl⟩
            rcases exits100 hlt with ⟨h1, h2⟩ | h1
            all_goals clear hlt HF HFS HB8 HTZ HWW HKS HTH HU HU8 HM HB hbl HHI HAL
            all_goals go_wp2_with fail
            all_goals
              go_loopw [219] (fun v219 wy => ∃ j : Nat, j ≤ W.length ∧ v219 = .int .i64 j ∧ FeedAt wy gf (.slice pf L.length cf) L (bitsAll Z (W.take j)).length ∧ OnlyS (· = gf) wa wy) (fun v219 _ => W.length - (intOf v219).toNat)
              case atStart => exact ⟨0, Nat.zero_le _, rfl, HFD.out, OnlyS.refl _ _⟩
              case round =>
                obtain ⟨j, hj, rfl, hFj, hOj⟩ := hrel
                have HFJ := Lib.hid hFj
                have HOJ := Lib.hid hOj
                have HBJ := Lib.hid (HBK.out.only hOj fun i h1 h2 e => by have e : i = gf := e; have := HSZ.out; omega)
                have HVJ : Hid (∀ p n cap, Value.slice pf L.length cf = .slice (some p) n cap → 0 < n → p.block < wr.heap.size) := Lib.hid fun p n cap e h0 => Nat.lt_of_lt_of_le (HVB.out p n cap e h0) hOj.size
                have HHJ : Hid (w4.heap.size ≤ wr.heap.size) := Lib.hid (Nat.le_trans HSZ.out.1 hOj.size)
                clear hFj hOj
                by_cases hjl : j < W.length
                · have hjli : (j : Int) < (W.length : Int) := by omega
                  have hs0 := HKW.out (W.getD j 0) (getD_mem0 hjl)
                  have HRD := Lib.hid (bitsAll_read HG.out HKRR.out W j hjl hs0)
                  rw [← HLL.out] at HRD
                  have HNX := Lib.hid (bitsAll_next Z W j hjl)
                  obtain ⟨gw, ow, rfl, hroww⟩ := HWV.out.some (by omega)
                  have hcapw := HWV.out.le
                  have hgw : gw ≠ gf := HWB.out ⟨gw, ow, none⟩ W.length cw rfl (by omega)
                  have hcw := HOJ.out.cell (hroww j _ (nl_at W j hjl)) hgw
                  clear hgw
                  clear hroww hs0
                  generalize W.getD j 0 = s at hcw HRD HNX
                  go_wp2_with fail
                  refine (Next_walk _ _ _ _ _ _ _ _ _ HBJ.out (deep_15 HG.out) HFJ.out (.inr HSZ.out.2.1) HHJ.out HVJ.out HG.out.1).mono ?_
                  rintro e wt ⟨rfl, hft, hon⟩
                  rw [HRD.out] at hft ⊢
                  dsimp only at hft ⊢
                  rw [← HNX.out] at hft
                  have HFT := Lib.hid hft
                  have HOT := Lib.hid (HOJ.out.trans hon)
                  clear hft hon
                  go_wp2_with fail
                  refine ⟨⟨j + 1, ?_, ?_, HFT.out, HOT.out⟩, ?_⟩
                  · omega
                  · go_num
                  · simp only [intOf]; omega
                · have hjli : (W.length : Int) ≤ (j : Int) := by omega
                  obtain rfl : j = W.length := by omega
                  have HRD : Hid (rd Z (deep Z) 0 0 (L.drop (bitsAll Z (W.take W.length)).length) = (0, 4, 0)) := Lib.hid (by rw [List.take_length, ← HLL.out, List.drop_length]; exact rd_nobits Z (deep_pos Z))
                  go_wp2_with fail
                  refine (Next_walk _ _ _ _ _ _ _ _ _ HBJ.out (deep_15 HG.out) HFJ.out (.inr HSZ.out.2.1) HHJ.out HVJ.out HG.out.1).mono ?_
                  rintro e wt ⟨rfl, hft, hon⟩
                  rw [HRD.out] at hft ⊢
                  dsimp only at hft ⊢
                  rw [Nat.add_zero, List.take_length, ← HLL.out] at hft
                  have HOT := HOJ.out.trans hon
                  have HBT := Lib.hid (HBW.out.trans (HOT.below HBW.out.size fun k e => by rw [e]; exact HSZ.out.2.2))
                  have hc0 := hft.c0
                  have hc1 := hft.c1
                  clear hft hon HOT HFJ HOJ HBJ HVJ HHJ HRD
                  have hc0d : wt.drew.cell? ⟨gf, 0, none⟩ = some (.slice pf L.length cf) := hc0
                  have hc1d : wt.drew.cell? ⟨gf, 1, none⟩ = some (.int .i64 (L.length : Int)) := hc1
                  have HBd : Hid (Below w.heap.size w wt.drew) := Lib.hid (Below.drew' HBT.out)
                  go_wp2_with fail
                  go_region_held3 (fun w' => w'.cell? ⟨gf, 0, none⟩ = some (.slice pf L.length cf) ∧ w'.cell? ⟨gf, 1, none⟩ = some (.int .i64 (L.length : Int)))
                    (first | go_keep | (refine ⟨?_, ?_⟩ <;> assumption))
                    (first | (go_at_call 14; refine (tells_walk _).mono ?_; rintro e wo ⟨rfl, hBo⟩; have z1 : wo.cell? ⟨gf, 0, none⟩ = some (.slice pf L.length cf) := (hBo.cell (block_lt_of_cell hc0d)).trans hc0d; have z2 : wo.cell? ⟨gf, 1, none⟩ = some (.int .i64 (L.length : Int)) := (hBo.cell (block_lt_of_cell hc1d)).trans hc1d; have HBo := Lib.hid (bt HBd.out hBo); clear hBo))
                  all_goals go_wp2_with fail
                  all_goals go_ret
                  all_goals exact ⟨rfl, HBo.out⟩
end Go.Proofs.Ytoifppfhnedahaa
