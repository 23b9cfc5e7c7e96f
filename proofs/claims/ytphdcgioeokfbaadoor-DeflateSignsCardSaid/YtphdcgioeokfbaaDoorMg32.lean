/-
  Merged, in the order in which they build: Near Chained.
-/
import Derived.Maps.OwnSet
import Derived.Maps.OwnOps
import Derived.WideKeyPair
import Derived.OpenShut
import Derived.Test.YtphdcgioeokfbaaDoorMg31
/-
  The map of a chain's ends, by three bytes.
-/
namespace Go.Proofs.YtphdcgioeokfbaaDoor
open Go.RowKit Go.Maps
theorem wfb (x : UInt8) : (Lit.int .u8 (bi x)).wf = true := by
  have := bi_lt x
  have e1 : IntKind.u8.min = 0 := rfl
  have e2 : IntKind.u8.max = 255 := rfl
  show (decide (IntKind.u8.min ≤ bi x) && decide (bi x ≤ IntKind.u8.max)) = true
  rw [e1, e2]
  simp; omega
theorem arr69 : Go.WideMaps.ArrKey Tryd.prog 68 5 3 := ⟨Tryd.underlying68, by kernel_rfl, by kernel_rfl, by kernel_rfl⟩
theorem law69 : Keyed Tryd.prog 68 := Keyed.of_law arr69.law
theorem zero3 (w : World) : (zeroValue 3).run Tryd.prog w = .ok (.int .i64 0) w := by kernel_rfl
/-- What the three bytes at a place read as. -/
def kl (b : List UInt8) (p : Nat) : Lit := .string (keyBytes [.int .u8 (bi (Mt.byt b p)), .int .u8 (bi (Mt.byt b (p + 1))), .int .u8 (bi (Mt.byt b (p + 2)))])
theorem keyOf_k3 (b : List UInt8) (p : Nat) : keyOf Tryd.prog 68 (k3 b p) = some (kl b p) := by
  have A := arr69
  have hkt := A.keyType ⟨_, (by kernel_rfl : Tryd.prog.types.size = 173 + 1)⟩
  have wa := wfb (Mt.byt b p)
  have wb := wfb (Mt.byt b (p + 1))
  have wc := wfb (Mt.byt b (p + 2))
  unfold k3 kl
  generalize bi (Mt.byt b p) = x0 at *
  generalize bi (Mt.byt b (p + 1)) = x1 at *
  generalize bi (Mt.byt b (p + 2)) = x2 at *
  unfold keyOf
  simp only [A.hu]
  rw [if_pos (by simp [hkt, Value.formed, A.hu, A.size])]
  unfold Program.keyLits
  simp only [A.hu, Value.cells]
  rw [if_pos (by rw [A.size]; rfl), show List.range 3 = [0, 1, 2] from rfl, List.mapM_cons, List.mapM_cons, List.mapM_cons, List.mapM_nil]
  have ht : Tryd.prog.types.size = 173 + 1 := by kernel_rfl
  rw [ht]
  simp [A.one, Program.keyLits, Tryd.underlying5, wa, wb, wc]
theorem kl_iff (b : List UInt8) (p q : Nat) : kl b p = kl b q ↔ Mt.same3 b p q = true := by
  rw [Mt.same3_iff]
  constructor
  · intro h
    have h1 := law69.inj (keyOf_k3 b p) (by rw [h]; exact keyOf_k3 b q)
    unfold k3 at h1
    simp only [Value.agg.injEq, Array.mk.injEq, List.cons.injEq, Value.int.injEq, true_and, and_true] at h1
    intro i hi
    match i, hi with
    | 0, _ => exact bi_inj.1 h1.1
    | 1, _ => exact bi_inj.1 h1.2.1
    | 2, _ => exact bi_inj.1 h1.2.2
  · intro h
    unfold kl
    have h0 := h 0 (by omega)
    have h1 := h 1 (by omega)
    have h2 := h 2 (by omega)
    simp only [Nat.add_zero] at h0
    rw [h0, h1, h2]
/-- The map tells, for three bytes, the last place below i at which they stand. -/
structure NearAt (w : World) (B n : Nat) (D : DataW Unit) (b : List UInt8) (i : Nat) : Prop where
  own : w.ownsMap Tryd.prog 68 (plainElem Tryd.prog 3) B n D
  tell : ∀ q, match Mt.chain b q i with
    | [] => Maps.has D (kl b q) = false
    | p :: _ => Maps.has D (kl b q) = true ∧ D.atKey (kl b q) (.lit (.int .i64 0)) = .lit (.int .i64 (p : Int))
theorem near_start (w : World) (b : List UInt8) : NearAt (w.alloc (.map #[] 0)) w.heap.size 0 (.map []) b 0 :=
  ⟨World.ownsMap_made _ _ _ _, fun _ => rfl⟩
theorem near_step {w w' : World} {B n n' : Nat} {D : DataW Unit} {b : List UInt8} {i : Nat} (h : NearAt w B n D b i) (ho : w'.ownsMap Tryd.prog 68 (plainElem Tryd.prog 3) B n' (D.put (kl b i) (.lit (.int .i64 (i : Int))))) : NearAt w' B n' (D.put (kl b i) (.lit (.int .i64 (i : Int)))) b (i + 1) := by
  refine ⟨ho, fun q => ?_⟩
  have hM := h.own.isMap
  have hk := law69.key (keyOf_k3 b i)
  unfold Mt.chain
  by_cases h1 : Mt.same3 b i q = true
  · rw [if_pos h1]
    have e : kl b q = kl b i := ((kl_iff b i q).2 h1).symm
    show _ ∧ _
    rw [e]
    exact ⟨Maps.has_put_same hM hk _, Maps.atKey_put_same hM hk _ _⟩
  · rw [if_neg h1]
    have e : kl b q ≠ kl b i := fun h2 => h1 ((kl_iff b i q).1 h2.symm)
    have h2 := h.tell q
    cases hch : Mt.chain b q i with
    | nil =>
      rw [hch] at h2
      show Maps.has _ _ = false
      rw [Maps.has_put_other e]; exact h2
    | cons p t =>
      rw [hch] at h2
      show _ ∧ _
      rw [Maps.has_put_other e, Maps.atKey_put_other e]; exact h2
theorem NearAt.keep {w w' : World} {B n : Nat} {D : DataW Unit} {b : List UInt8} {i : Nat} (h : NearAt w B n D b i) {R : Nat} (hb : Below R w w') (hB : B < R) : NearAt w' B n D b i := by
  obtain ⟨⟨es, clock, h1, h2⟩, h3⟩ := h
  exact ⟨⟨es, clock, (hb.block B hB).trans h1, h2⟩, h3⟩
theorem zeros_h (n : Nat) (b : List UInt8) (h : b.length = n) : (madeCells (Value.int .u16 0).cells (n * 1)).toList = nh (fars b 0) := by
  rw [fars_zero, h]
  apply List.ext_getElem
  · simp [size_madeCells]
  · intro i h1 h2
    simp [madeCells, nh, Value.cells, Nat.mod_one]
theorem fars_none (b : List UInt8) (i : Nat) (h : Mt.chain b i i = []) : fars b (i + 1) = fars b i := by
  rw [fars_step]
  have e : farv b (i + 1) i = 0 := by
    unfold farv; rw [h]; split <;> rfl
  rw [e]
  apply List.ext_getElem (by simp)
  intro x h1 h2
  rw [List.getElem_set]
  by_cases hx : i = x
  · subst hx
    rw [if_pos rfl]
    simp only [fars, List.getElem_map, List.getElem_range]
    unfold farv; rw [if_neg (by omega)]
  · rw [if_neg hx]
theorem fars_some (b : List UInt8) (i q : Nat) (t : List Nat) (h : Mt.chain b i i = q :: t) (hi : i + 3 ≤ b.length) : fars b (i + 1) = (fars b i).set i (i - q) := by
  rw [fars_step]
  unfold farv
  rw [h, if_pos ⟨by omega, hi⟩]
end Go.Proofs.YtphdcgioeokfbaaDoor
/-
  chained: all places of a row of bytes, linked.
-/
namespace Go.Proofs.YtphdcgioeokfbaaDoor
open Go.RowKit Go.Maps
/-- What chained has under way. -/
structure Ch (w wr : World) (gc : Nat) (vb : Value) (d : Int) (b : List UInt8) (L : List Nat) (i : Nat) (D : DataW Unit) : Prop where
  below : Below w.heap.size w wr
  box : wr.heap[gc]? = some (.cells #[vb, .int .i64 d, .slice (some ⟨w.heap.size, 0, none⟩) b.length b.length] 66 (0, 0))
  far : wr.ownsRow w.heap.size 71 1 (.slice (some ⟨w.heap.size, 0, none⟩) b.length b.length) b.length (nh L)
  near : NearAt wr (gc + 1) i D b i
  gt : w.heap.size < gc
theorem NearAt.same {w w' : World} {B n : Nat} {D : DataW Unit} {b : List UInt8} {i : Nat} (h : NearAt w B n D b i) (hb : w'.heap[B]? = w.heap[B]?) : NearAt w' B n D b i := by
  obtain ⟨⟨es, clock, h1, h2⟩, h3⟩ := h
  exact ⟨⟨es, clock, hb.trans h1, h2⟩, h3⟩
theorem Ch.later {w wr wx : World} {gc : Nat} {vb : Value} {d : Int} {b : List UInt8} {L : List Nat} {i : Nat} {D : DataW Unit} (h : Ch w wr gc vb d b L i D) (hb : Below wr.heap.size wr wx) : Ch w wx gc vb d b L i D :=
  ⟨h.below.trans (hb.mono h.below.size), (hb.block _ (Array.getElem?_eq_some_iff.1 h.box).1).trans h.box, own_stays h.far (fun k hk => hb.block k (h.far.lt k hk).2), h.near.keep hb h.near.own.lt, h.gt⟩
theorem Ch.set {w wr : World} {gc : Nat} {vb : Value} {d : Int} {b : List UInt8} {L : List Nat} {i : Nat} {D : DataW Unit} (h : Ch w wr gc vb d b L i D) (x y : Nat) (hx : x < b.length) :
    Ch w (wr.setCell ⟨w.heap.size, x, none⟩ (.int .u16 (y : Int))) gc vb d b (L.set x y) i D := by
  have hg := h.gt
  obtain ⟨g, cap, e, h1, h2, h3, h4, h5, h6, h7⟩ := own_spot h.far (by omega)
  cases e
  have h8 := h7 x (.int .u16 (y : Int)) hx
  refine ⟨h.below.setCell (Nat.le_refl _) _, ?_, ?_, h.near.same ?_, hg⟩
  · rw [heap_setCell_other _ _ _ _ (by show gc ≠ w.heap.size; omega)]; exact h.box
  · unfold nh at h8 ⊢
    rw [List.map_set]; exact h8
  · exact heap_setCell_other _ _ _ _ (by show gc + 1 ≠ w.heap.size; omega)
theorem Ch.put {w wr wx : World} {gc : Nat} {vb : Value} {d : Int} {b : List UInt8} {L : List Nat} {i : Nat} {D : DataW Unit} (h : Ch w wr gc vb d b L i D) (hg : wr.grownBy wx (some (gc + 1))) (ho : wx.ownsMap Tryd.prog 68 (plainElem Tryd.prog 3) (gc + 1) (i + 1) (D.put (kl b i) (.lit (.int .i64 (i : Int))))) :
    Ch w wx gc vb d b L (i + 1) (D.put (kl b i) (.lit (.int .i64 (i : Int)))) := by
  have hgt := h.gt
  have hs := (Array.getElem?_eq_some_iff.1 h.box).1
  refine ⟨h.below.grown hg h.below.size (fun k e => by cases e; omega), (hg.block gc hs (fun e => by injection e with e; omega)).trans h.box, own_stays h.far (fun k hk => ?_), near_step h.near ho, hgt⟩
  have h1 := (h.far.lt k hk).2
  have h2 : k = w.heap.size := by simp [Value.ownBlock] at hk; exact hk.symm
  exact hg.block k h1 (fun e => by injection e with e; omega)
theorem ch_start {w w4 : World} {vb : Value} {d : Int} {b : List UInt8} (hb : Below w.heap.size w w4) (hs : w.heap.size < w4.heap.size) (ho : w4.ownsRow w.heap.size 71 1 (.slice (some ⟨w.heap.size, 0, none⟩) b.length b.length) b.length (nh (fars b 0))) :
    Ch w ((w4.alloc (.cells #[vb, .int .i64 d, .slice (some ⟨w.heap.size, 0, none⟩) b.length b.length] 66)).alloc (.map #[] 0)) w4.heap.size vb d b (fars b 0) 0 (.map []) := by
  have h1 : Below w4.heap.size w4 ((w4.alloc (.cells #[vb, .int .i64 d, .slice (some ⟨w.heap.size, 0, none⟩) b.length b.length] 66)).alloc (.map #[] 0)) := ((Below.refl _ _).alloc (Nat.le_refl _) _).alloc (by simp) _
  refine ⟨hb.trans (h1.mono hb.size), ?_, own_stays ho (fun k hk => h1.block k (ho.lt k hk).2), ?_, hs⟩
  · rw [heap_alloc_old _ _ (by simp)]; exact heap_alloc_new w4 _
  · have h2 := near_start (w4.alloc (.cells #[vb, .int .i64 d, .slice (some ⟨w.heap.size, 0, none⟩) b.length b.length] 66)) b
    rw [World.size_alloc] at h2
    exact h2
theorem Ch.done {w wr : World} {gc : Nat} {vb : Value} {d : Int} {b : List UInt8} {D : DataW Unit} {i : Nat} (h : Ch w wr gc vb d b (fars b i) i D) (hi : i = b.length - 2) (hv : SlV w vb (bl b)) :
    ChAt wr gc vb (.slice (some ⟨w.heap.size, 0, none⟩) b.length b.length) d b := by
  obtain ⟨h0, h1, h2, _⟩ := row3 h.box
  refine ⟨h0, h1, h2, hv.below h.below (Nat.le_refl _), ?_⟩
  have h3 := own_toV h.far
  rw [hi, fars_all] at h3
  exact h3
set_option maxRecDepth 100000 in
set_option maxHeartbeats 4000000 in
theorem chained_walk (w : World) (v : Value) (b : List UInt8) (d : Int) (hv : SlV w v (bl b)) (hb : b.length ≤ 32768) :
    Calls Tryd.prog 15 #[v, .int .i64 d] w fun e w' => ∃ gc vf, e = .returned (.pointer (some ⟨gc, 0, none⟩)) ∧ ChAt w' gc v vf d b ∧ Below w.heap.size w w' := by
  have hmm := @run_makeMap Tryd.prog
  obtain ⟨i0, hi, hz0, hz1, hz2⟩ := info_parts info71
  have HI0 := Lib.hid (And.intro hi (And.intro hz0 (And.intro hz1 hz2)))
  clear hi hz0 hz1 hz2
  obtain ⟨p, cap, rfl⟩ := hv.shape
  obtain ⟨n, hn⟩ : ∃ n, n = b.length := ⟨_, rfl⟩
  rw [bl_length, ← hn] at hv ⊢
  rw [← hn] at hb
  have HV := Lib.hid hv
  have HN := Lib.hid hn
  clear hv hn
  go_enter Tryd.func15, Tryd.ntmps15
  have hw0 : IntKind.i64.wrap ((n : Int) - 3) = (n : Int) - 3 := IntWalk.i64_in _ (by omega)
  have hw1 : IntKind.i64.wrap ((n : Int) - 3 + 1) = (n : Int) - 2 := by rw [IntWalk.i64_in _ (by omega)]; omega
  go_wp2_with (at_make; refine wpList_make_full w rfl _ _ 64 rfl w.heap.size 71 i0 (.int .u16 0) 1 Tryd.underlying64 HI0.out.1 HI0.out.2.1 HI0.out.2.2.1 .i64 .i64 n n n rfl rfl rfl rfl (by rw [HI0.out.2.2.2]; omega) (by unfold maxLen; omega) (Nat.le_refl _) ?_; intro w4 hown hgrow; rw [zeros_h n b HN.out.symm] at hown; have HB4 : Hid (Below w.heap.size w w4) := Lib.hid ((Below.refl _ _).grown hgrow (Nat.le_refl _) (fun k e => by cases e)); have HOW := Lib.hid hown; have HS4 : Hid (w.heap.size < w4.heap.size) := Lib.hid (hown.lt _ rfl).2; clear hown hgrow)
  have HC0 := Lib.hid (ch_start (vb := .slice p n cap) (d := d) (b := b) HB4.out HS4.out (by rw [← HN.out]; exact HOW.out))
  rw [← HN.out] at HC0
  clear HB4 HOW HS4 HI0
  generalize ((w4.alloc (.cells #[.slice p n cap, .int .i64 d, .slice (some ⟨w.heap.size, 0, none⟩) n n] 66)).alloc (.map #[] 0)) = w5 at *
  generalize w4.heap.size = gc at *
  go_loopw [24] (fun v24 wr => ∃ (i : Nat) (D : DataW Unit), i ≤ n - 2 ∧ v24 = .int .i64 i ∧ Ch w wr gc (.slice p n cap) d b (fars b i) i D) (fun v24 _ => n - (intOf v24).toNat)
  case atStart => exact ⟨0, _, Nat.zero_le _, rfl, HC0.out⟩
  case round =>
    obtain ⟨i, D, hi, rfl, hC⟩ := hrel
    have HC := Lib.hid hC
    clear hC HC0
    by_cases hlt : i + 2 < n
    · have hlti : (i : Int) < (n : Int) - 2 := by omega
      have h3 := three_walk wr _ b i (HV.out.below HC.out.below (Nat.le_refl _)) (by rw [← HN.out]; omega) (by rw [← HN.out]; omega)
      go_wp2_with fail
      refine h3.mono ?_
      rintro e w6 ⟨rfl, hb6⟩
      have HC6 := Lib.hid (HC.out.later hb6)
      have HW6 : Hid (w.heap.size < w6.heap.size) := Lib.hid (by have h1 := HC6.out.gt; have h2 := (Array.getElem?_eq_some_iff.1 HC6.out.box).1; omega)
      clear h3 hb6 HC
      have HK := Lib.hid (keyOf_k3 b i)
      unfold k3 at HK ⊢
      have HC7 := Lib.hid (HC6.out.later ((Below.refl _ _).alloc (Nat.le_refl _) (.cells #[.int .u8 (bi (Mt.byt b i)), .int .u8 (bi (Mt.byt b (i + 1))), .int .u8 (bi (Mt.byt b (i + 2)))] 68)))
      generalize bi (Mt.byt b i) = x0 at *
      generalize bi (Mt.byt b (i + 1)) = x1 at *
      generalize bi (Mt.byt b (i + 2)) = x2 at *
      have hi32 : (i : Int) - 32768 < 0 := by omega
      have hi0 : (0 : Int) ≤ (i : Int) := by omega
      have WF : Hid ((Lit.int .i64 (i : Int)).wf = true) := Lib.hid (WalkArith.wf_i64 (by omega))
      have hT := HC7.out.near.tell i
      clear HC6
      cases hch : Mt.chain b i i with
      | nil =>
        rw [hch] at hT
        have HT : Hid (Maps.has D (kl b i) = false ∧ True) := Lib.hid ⟨hT, trivial⟩
        have HFS := Lib.hid (fars_none b i hch)
        clear hT hch
        go_wp2_with (first | (at_lookup; refine wpList_lookup_own_ok_int _ rfl _ _ 67 rfl 68 3 .i64 law69 Tryd.underlying67 Tryd.underlying3 (zero3 _) (gc + 1) i D rfl HC7.out.near.own _ (kl b i) rfl HK.out ?_; intro c hat _; rw [HT.out.1]) | (at_mapUpdate; refine wpList_mapUpdate_own _ rfl _ _ _ 67 rfl 68 3 law69 Tryd.underlying67 _ (gc + 1) i D rfl HC7.out.near.own (by unfold maxLen; omega) _ _ (kl b i) rfl rfl HK.out (.lit (.int .i64 (i : Int))) [] (plainElem_int Tryd.underlying3 WF.out) ?_; intro w8 hown8 hgrow8; have HC8 := Lib.hid (HC7.out.put hgrow8 hown8); clear hown8 hgrow8))
        refine ⟨⟨i + 1, _, ?_, ?_, by rw [HFS.out]; exact HC8.out⟩, ?_⟩
        · omega
        · go_num
        · simp only [intOf]; omega
      | cons q t =>
        rw [hch] at hT
        have HT := Lib.hid hT
        have HFS := Lib.hid (fars_some b i q t hch (by rw [← HN.out]; omega))
        have hqi := (Mt.chain_head hch).1
        clear hT hch
        have hw3 : IntKind.i64.wrap ((i : Int) - (q : Int)) = (i : Int) - (q : Int) := IntWalk.i64_in _ (by omega)
        have hw4 : IntKind.u16.wrap ((i : Int) - (q : Int)) = ((i - q : Nat) : Int) := by rw [IntKind.wrap_u16]; omega
        have hin : (i : Int) < (n : Int) := by omega
        have hib : i < b.length := by rw [← HN.out]; omega
        obtain ⟨g9, cap9, e9, _, _, _, _, hcell, hfr, _⟩ := own_spot HC7.out.far (by omega)
        cases e9
        have hci := hcell i (.int .u16 (((fars b i).getD i 0 : Nat) : Int)) (by
          have h9 : i < (fars b i).length := by rw [fars_length]; exact hib
          simp [nh, h9])
        have hfi := hfr i
        obtain ⟨-, -, hbx2, -⟩ := row3 HC7.out.box
        rw [← HN.out] at hbx2
        have HC9 := Lib.hid (HC7.out.set i (i - q) hib)
        have hne6 : w6.heap.size ≠ w.heap.size := by
          have h1 := HC7.out.gt; have h2 := HC9.out.below.size
          have h3 := HW6.out
          omega
        have hrk : ((w6.alloc (.cells #[.int .u8 x0, .int .u8 x1, .int .u8 x2] 68)).setCell ⟨w.heap.size, i, none⟩ (.int .u16 ((i - q : Nat) : Int))).heap[w6.heap.size]? = some (.cells #[.int .u8 x0, .int .u8 x1, .int .u8 x2] 68 (0, 0)) := (heap_setCell_other _ _ _ _ hne6).trans (heap_alloc_new w6 _)
        obtain ⟨hk0, hk1, hk2, -⟩ := row3 hrk
        clear hcell hfr hib
        go_wp2_with (first | (at_lookup; refine wpList_lookup_own_ok_int _ rfl _ _ 67 rfl 68 3 .i64 law69 Tryd.underlying67 Tryd.underlying3 (zero3 _) (gc + 1) i D rfl HC7.out.near.own _ (kl b i) rfl HK.out ?_; intro c hat _; rw [HT.out.1]; have hcq := hat.symm.trans HT.out.2; injection hcq with hcq; injection hcq with _ hcq; subst hcq; clear hat) | (at_mapUpdate; refine wpList_mapUpdate_own _ rfl _ _ _ 67 rfl 68 3 law69 Tryd.underlying67 _ (gc + 1) i D rfl HC9.out.near.own (by unfold maxLen; omega) _ _ (kl b i) rfl rfl HK.out (.lit (.int .i64 (i : Int))) [] (plainElem_int Tryd.underlying3 WF.out) ?_; intro w8 hown8 hgrow8; have HC8 := Lib.hid (HC9.out.put hgrow8 hown8); clear hown8 hgrow8))
        go_wp2_with ((at_mapUpdate; refine wpList_mapUpdate_own _ rfl _ _ _ 67 rfl 68 3 law69 Tryd.underlying67 _ (gc + 1) i D rfl HC9.out.near.own (by unfold maxLen; omega) _ _ (kl b i) rfl rfl HK.out (.lit (.int .i64 (i : Int))) [] (plainElem_int Tryd.underlying3 WF.out) ?_; intro w8 hown8 hgrow8; have HC8 := Lib.hid (HC9.out.put hgrow8 hown8); clear hown8 hgrow8))
        refine ⟨⟨i + 1, _, ?_, ?_, by rw [HFS.out]; exact HC8.out⟩, ?_⟩
        · omega
        · go_num
        · simp only [intOf]; omega
    · have hlti : (n : Int) - 2 ≤ (i : Int) := by omega
      have HD := Lib.hid (HC.out.done (by rw [← HN.out]; omega) HV.out)
      go_wp2_with fail
      go_ret
      exact ⟨gc, _, rfl, HD.out, HC.out.below⟩
end Go.Proofs.YtphdcgioeokfbaaDoor
