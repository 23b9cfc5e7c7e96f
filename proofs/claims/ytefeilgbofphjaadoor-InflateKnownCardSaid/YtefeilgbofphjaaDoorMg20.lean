/-
  Merged, in the order in which they build: Bod Hda Sgw.
-/
import Derived.Test.YtefeilgbofphjaaDoorMg18
import Derived.Test.YtefeilgbofphjaaDoorMg19
/-
  body: signs are written.
-/
namespace Go.Proofs.YtefeilgbofphjaaDoor
open Go.RowKit Hf
theorem four_boxes (w : World) (a b c d : Obj) : ∃ w1, w1 = ((((w.alloc a).alloc b).alloc c).alloc d) ∧ OnlyS (fun _ => False) w w1 ∧ w1.heap[w.heap.size]? = some a ∧ w1.heap[w.heap.size + 1]? = some b ∧ w1.heap[w.heap.size + 1 + 1]? = some c ∧ w1.heap[w.heap.size + 1 + 1 + 1]? = some d ∧ w1.heap.size = w.heap.size + 4 := by
  have sz : ∀ (w : World) (o : Obj), (w.alloc o).heap.size = w.heap.size + 1 := fun w o => by simp
  have nw : ∀ (w : World) (o : Obj), (w.alloc o).heap[w.heap.size]? = some o := fun w o => by show (w.heap.push o)[w.heap.size]? = some o; simp
  have od : ∀ (w : World) (o : Obj) (k : Nat), k < w.heap.size → (w.alloc o).heap[k]? = w.heap[k]? := fun w o k hk => (OnlyS.alloc (S := fun _ => False) w o).block k hk (fun h => h)
  refine ⟨_, rfl, (((OnlyS.alloc _ _).trans (OnlyS.alloc _ _)).trans (OnlyS.alloc _ _)).trans (OnlyS.alloc _ _), ?_, ?_, ?_, ?_, ?_⟩
  · rw [od _ _ _ (by rw [sz, sz, sz]; omega), od _ _ _ (by rw [sz, sz]; omega), od _ _ _ (by rw [sz]; omega), nw]
  · have h := nw (w.alloc a) b
    rw [sz] at h
    rw [od _ _ _ (by rw [sz, sz, sz]; omega), od _ _ _ (by rw [sz, sz]; omega), h]
  · have h := nw ((w.alloc a).alloc b) c
    rw [sz, sz] at h
    rw [od _ _ _ (by rw [sz, sz, sz]; omega), h]
  · have h := nw (((w.alloc a).alloc b).alloc c) d
    rw [sz, sz, sz] at h
    exact h
  · rw [sz, sz, sz, sz]
def CdPost (zs : List Int) (w1 W : World) (e : Ending) (w' : World) : Prop := ∃ u, e = .returned u ∧ w'.ownsRow w1.heap.size 49 1 u zs.length (nu (codes zs)) ∧ OnlyS (fun _ => False) W w'
def BodPost (B g : Nat) (L : List Bool) (zs ds : List Int) (ss : List Sg) (X : Nat → Prop) (w : World) (e : Ending) (w' : World) : Prop := PenPost B g (L ++ wds zs ds ss ss.length) X w e w'
def bF (gp g0 : Nat) (rv av bv t8 t9 t11 t12 t13 t14 : Value) : Act := { tmps := #[.pointer (some ⟨gp, 0, none⟩), rv, av, bv, .pointer (some ⟨g0, 0, none⟩), .pointer (some ⟨g0 + 1, 0, none⟩), .pointer (some ⟨g0 + 1 + 1, 0, none⟩), .pointer (some ⟨g0 + 1 + 1 + 1, 0, none⟩), t8, t9, undef, t11, t12, t13, t14, undef, undef, undef], defers := [] }
def nilS : Value := .slice none 0 0
/-- A pointer to a cell of its own that holds a value. -/
def PtrTo (w1 w : World) (t v : Value) : Prop := ∃ b, t = .pointer (some ⟨b, 0, none⟩) ∧ w1.heap.size ≤ b ∧ w.heap[b]? = some (.cells #[v] 77 (0, 0))
theorem PtrTo.only {w1 w w' : World} {t v : Value} (h : PtrTo w1 w t v) (ho : OnlyS (fun _ => False) w w') : PtrTo w1 w' t v := by
  obtain ⟨b, h1, h2, h3⟩ := h
  exact ⟨b, h1, h2, (ho.block b (Array.getElem?_eq_some_iff.1 h3).1 (fun h => h)).trans h3⟩
def OwnU (w1 w : World) (v : Value) (zs : List Int) : Prop := w.ownsRow w1.heap.size 49 1 v zs.length (nu (codes zs))
theorem OwnU.only {w1 w w' : World} {v : Value} {zs : List Int} (h : OwnU w1 w v zs) (ho : OnlyS (fun _ => False) w w') : OwnU w1 w' v zs := own_stays h (fun k hk => ho.block k (own_lt h k hk).2 (fun h => h))
/-- A store into a cell of another kind. -/
theorem OwnU.set {w1 w : World} {v x y : Value} {zs : List Int} {b : Nat} (h : OwnU w1 w v zs) (hb : w.heap[b]? = some (.cells #[x] 77 (0, 0))) : OwnU w1 (w.setCell ⟨b, 0, none⟩ y) v zs :=
  own_stays h (fun k hk => heap_setCell_other _ _ _ _ (fun (e : k = b) => by
    obtain ⟨_, ⟨h1, _⟩ | ⟨g, cap, cur, h1, _, h3, _⟩⟩ := h
    · rw [h1] at hk; cases hk
    · rw [h1] at hk
      have : g = k := by simpa [Value.ownBlock] using hk
      rw [this, e, hb] at h3
      cases h3))
theorem bodI_lt {B g0 g1 g2 g3 g4 g5 g6 gp : Nat} {rv dv bv cv av : Value} {L : List Bool} {ss : List Sg} {zs ds : List Int} {w : World} {X : Nat → Prop} {k : Nat} (h : BodI B g0 g1 g2 g3 g4 g5 g6 gp rv dv bv cv av L ss zs ds w X k) : ∀ i, X i → i < w.heap.size := by
  obtain ⟨sv, rfl, h1, hn1, hp, hF, hB⟩ := h
  intro i hi
  rcases hi with rfl | hi
  · exact (Array.getElem?_eq_some_iff.1 h1).1
  · exact (hp.x_lt i hi).2
structure BJ (w1 : World) (gp g0 : Nat) (rv av bv : Value) (zs ds : List Int) (L : Nat → Bool) (a : Act) (w : World) (t8 t9 t11 t12 t13 t14 : Value) : Prop where
  f : a = bF gp g0 rv av bv t8 t9 t11 t12 t13 t14
  o : OnlyS (fun _ => False) w1 w
  v0 : L 0 = true → t11 = av
  v1 : L 1 = true → OwnU w1 w t12 zs
  v2 : L 2 = true → t13 = bv
  v3 : L 3 = true → OwnU w1 w t14 ds
  v4 : L 4 = true → PtrTo w1 w t8 (if L 6 then t12 else nilS)
  v5 : L 5 = true → PtrTo w1 w t9 (if L 7 then t14 else nilS)
  ne : L 4 = true → L 5 = true → t8 ≠ t9
  l6 : L 6 = true → L 1 = true ∧ L 4 = true
  l7 : L 7 = true → L 3 = true ∧ L 5 = true
set_option maxRecDepth 100000 in
set_option maxHeartbeats 2000000 in
theorem body_walk (w : World) (B gp : Nat) (sv rv av bv : Value) (L : List Bool) (ss : List Sg) (zs ds : List Int) (hp : PenAt w B gp sv L) (hr : RowS w rv ss (penX gp sv)) (ha : SlV w av (ni zs)) (hb : SlV w bv (ni ds)) (oa : Off w (penX gp sv) av) (ob : Off w (penX gp sv) bv) (hz : Coded zs) (hd : Coded ds) (hok : ∀ k, k < ss.length → SgOk zs ds (ss.getD k nog) (flg ss k)) (hL : ∀ k, k ≤ ss.length → (L ++ wds zs ds ss k).length ≤ 1000000000) (hl : ss.length ≤ 1000000) (hB : B ≤ w.heap.size) :
    Calls Tryd.prog 18 #[.pointer (some ⟨gp, 0, none⟩), rv, av, bv] w (BodPost B gp L zs ds ss (penX gp sv) w) := by
  have hmf : ∀ (fn : Fn) (first cap : Array Value) (w : World), (Instr.makeFunc fn first cap).run Tryd.prog w = .ok (.func fn first cap) w := fun _ _ _ _ => rfl
  obtain ⟨pr, cr, hsr⟩ : ∃ p c, rv = .slice p ss.length c := by
    obtain ⟨_, ⟨g, o, cap, h2, _⟩ | ⟨p, h2, h3⟩⟩ := hr.row
    · exact ⟨_, _, h2⟩
    · exact ⟨p, 0, by rw [h3]; exact h2⟩
  obtain ⟨pa, ca, hsa⟩ := ha.shape
  obtain ⟨pb, cb, hsb⟩ := hb.shape
  rw [ni_length] at hsa hsb
  obtain ⟨n, hn⟩ : ∃ n, n = ss.length := ⟨_, rfl⟩
  obtain ⟨na, hna⟩ : ∃ n, n = zs.length := ⟨_, rfl⟩
  obtain ⟨nb, hnb⟩ : ∃ n, n = ds.length := ⟨_, rfl⟩
  rw [← hn] at hsr
  rw [← hna] at hsa
  rw [← hnb] at hsb
  obtain ⟨w1, hw1, ho1, hk0, hk1, hk2, hk3, hz1⟩ := four_boxes w (.cells #[.pointer (some ⟨gp, 0, none⟩)] 44) (.cells #[rv] 50) (.cells #[av] 53) (.cells #[bv] 53)
  have HCA : Hid (∀ W, OnlyS (fun _ => False) w1 W → Calls Tryd.prog 26 #[av] W (CdPost zs w1 W)) := Lib.hid (fun W h => (pcodes_walk W av zs (slv_heap ha (ho1.trans h)) hz.good hz.kr).mono (fun e w' ⟨u, h1, h2, h3⟩ => ⟨u, h1, own_leK h2 h.size, OnlyS.of_below h3⟩))
  have HCB : Hid (∀ W, OnlyS (fun _ => False) w1 W → Calls Tryd.prog 26 #[bv] W (CdPost ds w1 W)) := Lib.hid (fun W h => (pcodes_walk W bv ds (slv_heap hb (ho1.trans h)) hd.good hd.kr).mono (fun e w' ⟨u, h1, h2, h3⟩ => ⟨u, h1, own_leK h2 h.size, OnlyS.of_below h3⟩))
  have HW := Lib.hid hw1
  have HA := Lib.hid ha
  have HBv := Lib.hid hb
  have HN := Lib.hid hn
  have HNA := Lib.hid hna
  have HNB := Lib.hid hnb
  have HO1 := Lib.hid ho1
  have HK0 := Lib.hid hk0
  have HK1 := Lib.hid hk1
  have HK2 := Lib.hid hk2
  have HK3 := Lib.hid hk3
  have HZ1 := Lib.hid hz1
  have d6 : w1.cell? ⟨w.heap.size + 1 + 1, 0, none⟩ = some av := cell_of_row _ _ 0 _ _ _ hk2
  have d7 : w1.cell? ⟨w.heap.size + 1 + 1 + 1, 0, none⟩ = some bv := cell_of_row _ _ 0 _ _ _ hk3
  subst hsa hsb hsr
  clear ha hb hw1 hk0 hk1 hk2 hk3 hn hna hnb ho1 hz1
  have HP := Lib.hid hp
  have HR := Lib.hid hr
  have HOA := Lib.hid oa
  have HOB := Lib.hid ob
  have HZC := Lib.hid hz
  have HDC := Lib.hid hd
  have HOK := Lib.hid hok
  have HL := Lib.hid hL
  have HB := Lib.hid hB
  clear hp hr oa ob hz hd hok hL hB
  go_enter Tryd.func18, Tryd.ntmps18
  go_wp2_with fail
  rw [← HW.out]
  refine Inv.wp_region_J (by kernel_rfl) (by kernel_rfl) (by
    intro i o ho
    have hi := (Array.getElem?_eq_some_iff.1 ho).1
    rcases (by simp at hi; omega : i = 0 ∨ i = 1 ∨ i = 2 ∨ i = 3 ∨ i = 4 ∨ i = 5 ∨ i = 6 ∨ i = 7) with rfl | rfl | rfl | rfl | rfl | rfl | rfl | rfl <;> (cases ho; rfl)) (fun L a W => ∃ t8 t9 t11 t12 t13 t14, BJ w1 gp w.heap.size (.slice pr n cr) (.slice pa na ca) (.slice pb nb cb) zs ds L a W t8 t9 t11 t12 t13 t14) (fun L hL => ?_) (fun L L' a W i o ho hLi hdep hJ hL' => ?_) (fun L9 a W hall hJ => ?_)
  · have hf : ∀ j, ¬ L j = true := fun j h => by rw [hL] at h; cases h
    exact ⟨_, _, _, _, _, _, rfl, OnlyS.drew _, fun h => (hf _ h).elim, fun h => (hf _ h).elim, fun h => (hf _ h).elim, fun h => (hf _ h).elim, fun h => (hf _ h).elim, fun h => (hf _ h).elim, fun h => (hf _ h).elim, fun h => (hf _ h).elim, fun h => (hf _ h).elim⟩
  · obtain ⟨t8, t9, t11, t12, t13, t14, J⟩ := hJ
    have hi := (Array.getElem?_eq_some_iff.1 ho).1
    have hfr := J.f
    subst hfr
    have dW6 := J.o.cell d6 (fun h => h)
    have dW7 := J.o.cell d7 (fun h => h)
    rcases (by simp at hi; omega : i = 0 ∨ i = 1 ∨ i = 2 ∨ i = 3 ∨ i = 4 ∨ i = 5 ∨ i = 6 ∨ i = 7) with rfl | rfl | rfl | rfl | rfl | rfl | rfl | rfl
    · cases ho
      have q0 := hL' 0
      have q1 := hL' 1
      have q2 := hL' 2
      have q3 := hL' 3
      have q4 := hL' 4
      have q5 := hL' 5
      have q6 := hL' 6
      have q7 := hL' 7
      rw [if_pos rfl] at q0
      rw [if_neg (by decide)] at q1 q2 q3 q4 q5 q6 q7
      unfold bF
      go_simp
      refine ⟨t8, t9, .slice pa na ca, t12, t13, t14, rfl, J.o, ?_, ?_, ?_, ?_, ?_, ?_, ?_, ?_, ?_⟩
      · exact fun _ => rfl
      · exact fun h => J.v1 (q1 ▸ h)
      · exact fun h => J.v2 (q2 ▸ h)
      · exact fun h => J.v3 (q3 ▸ h)
      · exact fun h => by
          rw [q6]
          exact J.v4 (q4 ▸ h)
      · exact fun h => by
          rw [q7]
          exact J.v5 (q5 ▸ h)
      · exact fun h h' => J.ne (q4 ▸ h) (q5 ▸ h')
      · exact fun h => ⟨q1.trans (J.l6 (q6 ▸ h)).1, q4.trans (J.l6 (q6 ▸ h)).2⟩
      · exact fun h => ⟨q3.trans (J.l7 (q7 ▸ h)).1, q5.trans (J.l7 (q7 ▸ h)).2⟩
    · cases ho
      have q0 := hL' 0
      have q1 := hL' 1
      have q2 := hL' 2
      have q3 := hL' 3
      have q4 := hL' 4
      have q5 := hL' 5
      have q6 := hL' 6
      have q7 := hL' 7
      rw [if_pos rfl] at q1
      rw [if_neg (by decide)] at q0 q2 q3 q4 q5 q6 q7
      have f6 : L 6 = false := by
        cases h : L 6 with
        | false => rfl
        | true => have := J.l6 h; simp_all
      have et11 := J.v0 (hdep ⟨0, .data⟩ (by simp) (by decide))
      subst et11
      unfold bF
      go_simp
      go_at_call 26
      refine (HCA.out W J.o).mono ?_
      rintro e wc ⟨uc, rfl, huc, hoc⟩
      go_simp
      refine ⟨t8, t9, .slice pa na ca, uc, t13, t14, rfl, J.o.trans hoc, ?_, ?_, ?_, ?_, ?_, ?_, ?_, ?_, ?_⟩
      · exact fun h => rfl
      · exact fun _ => huc
      · exact fun h => J.v2 (q2 ▸ h)
      · exact fun h => (J.v3 (q3 ▸ h)).only hoc
      · exact fun h => by
          have h0 := J.v4 (q4 ▸ h)
          rw [f6] at h0
          rw [q6, f6]
          exact h0.only hoc
      · exact fun h => by
          rw [q7]
          exact (J.v5 (q5 ▸ h)).only hoc
      · exact fun h h' => J.ne (q4 ▸ h) (q5 ▸ h')
      · exact fun h => ⟨q1, q4.trans (J.l6 (q6 ▸ h)).2⟩
      · exact fun h => ⟨q3.trans (J.l7 (q7 ▸ h)).1, q5.trans (J.l7 (q7 ▸ h)).2⟩
    · cases ho
      have q0 := hL' 0
      have q1 := hL' 1
      have q2 := hL' 2
      have q3 := hL' 3
      have q4 := hL' 4
      have q5 := hL' 5
      have q6 := hL' 6
      have q7 := hL' 7
      rw [if_pos rfl] at q2
      rw [if_neg (by decide)] at q0 q1 q3 q4 q5 q6 q7
      unfold bF
      go_simp
      refine ⟨t8, t9, t11, t12, .slice pb nb cb, t14, rfl, J.o, ?_, ?_, ?_, ?_, ?_, ?_, ?_, ?_, ?_⟩
      · exact fun h => J.v0 (q0 ▸ h)
      · exact fun h => J.v1 (q1 ▸ h)
      · exact fun _ => rfl
      · exact fun h => J.v3 (q3 ▸ h)
      · exact fun h => by
          rw [q6]
          exact J.v4 (q4 ▸ h)
      · exact fun h => by
          rw [q7]
          exact J.v5 (q5 ▸ h)
      · exact fun h h' => J.ne (q4 ▸ h) (q5 ▸ h')
      · exact fun h => ⟨q1.trans (J.l6 (q6 ▸ h)).1, q4.trans (J.l6 (q6 ▸ h)).2⟩
      · exact fun h => ⟨q3.trans (J.l7 (q7 ▸ h)).1, q5.trans (J.l7 (q7 ▸ h)).2⟩
    · cases ho
      have q0 := hL' 0
      have q1 := hL' 1
      have q2 := hL' 2
      have q3 := hL' 3
      have q4 := hL' 4
      have q5 := hL' 5
      have q6 := hL' 6
      have q7 := hL' 7
      rw [if_pos rfl] at q3
      rw [if_neg (by decide)] at q0 q1 q2 q4 q5 q6 q7
      have f7 : L 7 = false := by
        cases h : L 7 with
        | false => rfl
        | true => have := J.l7 h; simp_all
      have et13 := J.v2 (hdep ⟨2, .data⟩ (by simp) (by decide))
      subst et13
      unfold bF
      go_simp
      go_at_call 26
      refine (HCB.out W J.o).mono ?_
      rintro e wc ⟨uc, rfl, huc, hoc⟩
      go_simp
      refine ⟨t8, t9, t11, t12, .slice pb nb cb, uc, rfl, J.o.trans hoc, ?_, ?_, ?_, ?_, ?_, ?_, ?_, ?_, ?_⟩
      · exact fun h => J.v0 (q0 ▸ h)
      · exact fun h => (J.v1 (q1 ▸ h)).only hoc
      · exact fun h => rfl
      · exact fun _ => huc
      · exact fun h => by
          rw [q6]
          exact (J.v4 (q4 ▸ h)).only hoc
      · exact fun h => by
          have h0 := J.v5 (q5 ▸ h)
          rw [f7] at h0
          rw [q7, f7]
          exact h0.only hoc
      · exact fun h h' => J.ne (q4 ▸ h) (q5 ▸ h')
      · exact fun h => ⟨q1.trans (J.l6 (q6 ▸ h)).1, q4.trans (J.l6 (q6 ▸ h)).2⟩
      · exact fun h => ⟨q3, q5.trans (J.l7 (q7 ▸ h)).2⟩
    · cases ho
      have q0 := hL' 0
      have q1 := hL' 1
      have q2 := hL' 2
      have q3 := hL' 3
      have q4 := hL' 4
      have q5 := hL' 5
      have q6 := hL' 6
      have q7 := hL' 7
      rw [if_pos rfl] at q4
      rw [if_neg (by decide)] at q0 q1 q2 q3 q5 q6 q7
      have f6 : L 6 = false := by
        cases h : L 6 with
        | false => rfl
        | true => have := J.l6 h; simp_all
      unfold bF
      go_simp
      have hal : OnlyS (fun _ => False) W (W.alloc (.cells #[.slice none 0 0] 77)) := OnlyS.alloc _ _
      refine ⟨.pointer (some ⟨W.heap.size, 0, none⟩), t9, t11, t12, t13, t14, rfl, J.o.trans hal, ?_, ?_, ?_, ?_, ?_, ?_, ?_, ?_, ?_⟩
      · exact fun h => J.v0 (q0 ▸ h)
      · exact fun h => (J.v1 (q1 ▸ h)).only hal
      · exact fun h => J.v2 (q2 ▸ h)
      · exact fun h => (J.v3 (q3 ▸ h)).only hal
      · exact fun _ => by rw [q6, f6]; exact ⟨W.heap.size, rfl, J.o.size, heap_alloc_new W _⟩
      · exact fun h => by
          rw [q7]
          exact (J.v5 (q5 ▸ h)).only hal
      · exact fun _ h e => by
          obtain ⟨b2, h1, h2, h3⟩ := J.v5 (q5 ▸ h)
          rw [h1] at e
          have := (Array.getElem?_eq_some_iff.1 h3).1
          injection e with e
          injection e with e
          injection e with e
          omega
      · exact fun h => ⟨q1.trans (J.l6 (q6 ▸ h)).1, q4⟩
      · exact fun h => ⟨q3.trans (J.l7 (q7 ▸ h)).1, q5.trans (J.l7 (q7 ▸ h)).2⟩
    · cases ho
      have q0 := hL' 0
      have q1 := hL' 1
      have q2 := hL' 2
      have q3 := hL' 3
      have q4 := hL' 4
      have q5 := hL' 5
      have q6 := hL' 6
      have q7 := hL' 7
      rw [if_pos rfl] at q5
      rw [if_neg (by decide)] at q0 q1 q2 q3 q4 q6 q7
      have f7 : L 7 = false := by
        cases h : L 7 with
        | false => rfl
        | true => have := J.l7 h; simp_all
      unfold bF
      go_simp
      have hal : OnlyS (fun _ => False) W (W.alloc (.cells #[.slice none 0 0] 77)) := OnlyS.alloc _ _
      refine ⟨t8, .pointer (some ⟨W.heap.size, 0, none⟩), t11, t12, t13, t14, rfl, J.o.trans hal, ?_, ?_, ?_, ?_, ?_, ?_, ?_, ?_, ?_⟩
      · exact fun h => J.v0 (q0 ▸ h)
      · exact fun h => (J.v1 (q1 ▸ h)).only hal
      · exact fun h => J.v2 (q2 ▸ h)
      · exact fun h => (J.v3 (q3 ▸ h)).only hal
      · exact fun h => by
          rw [q6]
          exact (J.v4 (q4 ▸ h)).only hal
      · exact fun _ => by rw [q7, f7]; exact ⟨W.heap.size, rfl, J.o.size, heap_alloc_new W _⟩
      · exact fun h _ e => by
          obtain ⟨b2, h1, h2, h3⟩ := J.v4 (q4 ▸ h)
          rw [h1] at e
          have := (Array.getElem?_eq_some_iff.1 h3).1
          injection e with e
          injection e with e
          injection e with e
          omega
      · exact fun h => ⟨q1.trans (J.l6 (q6 ▸ h)).1, q4.trans (J.l6 (q6 ▸ h)).2⟩
      · exact fun h => ⟨q3.trans (J.l7 (q7 ▸ h)).1, q5⟩
    · cases ho
      have q0 := hL' 0
      have q1 := hL' 1
      have q2 := hL' 2
      have q3 := hL' 3
      have q4 := hL' 4
      have q5 := hL' 5
      have q6 := hL' 6
      have q7 := hL' 7
      rw [if_pos rfl] at q6
      rw [if_neg (by decide)] at q0 q1 q2 q3 q4 q5 q7
      have f6 : L 6 = false := hLi
      have g4 : L 4 = true := hdep ⟨4, .data⟩ (by simp) (by decide)
      have g1 : L 1 = true := hdep ⟨1, .data⟩ (by simp) (by decide)
      obtain ⟨b, hb1, hb2, hb3⟩ := J.v4 g4
      rw [f6] at hb3
      have hb3' : W.heap[b]? = some (.cells #[nilS] 77 (0, 0)) := hb3
      have hw := J.v1 g1
      obtain ⟨pu, cu, hsu⟩ := (own_toV hw).shape
      rw [nu_length] at hsu
      subst hb1 hsu
      have cb0 : W.cell? ⟨b, 0, none⟩ = some nilS := cell_of_row _ _ 0 _ _ _ hb3'
      have fb0 : W.frozen? ⟨b, 0, none⟩ = false := frozen_of_row _ _ 0 _ _ hb3'
      unfold bF
      go_simp
      refine ⟨.pointer (some ⟨b, 0, none⟩), t9, t11, _, t13, t14, rfl, J.o.trans' (OnlyS.setCell (S := fun i => i = b) _ _ _ _ rfl) (fun i hi => .inr (by have h : i = b := hi; omega)), ?_, ?_, ?_, ?_, ?_, ?_, ?_, ?_, ?_⟩
      · exact fun h => J.v0 (q0 ▸ h)
      · exact fun h => (J.v1 (q1 ▸ h)).set hb3'
      · exact fun h => J.v2 (q2 ▸ h)
      · exact fun h => (J.v3 (q3 ▸ h)).set hb3'
      · exact fun _ => by rw [q6]; exact ⟨b, rfl, hb2, (heap_setCell_same _ _ _ _ _ _ hb3').trans rfl⟩
      · exact fun h => by
          rw [q7]
          obtain ⟨b2, h1, h2, h3⟩ := J.v5 (q5 ▸ h)
          have hne := J.ne g4 (q5 ▸ h)
          refine ⟨b2, h1, h2, (heap_setCell_other _ _ _ _ (fun (e : b2 = b) => ?_)).trans h3⟩
          rw [h1, e] at hne
          exact hne rfl
      · exact fun h h' => J.ne (q4 ▸ h) (q5 ▸ h')
      · exact fun _ => ⟨q1.trans g1, q4.trans g4⟩
      · exact fun h => ⟨q3.trans (J.l7 (q7 ▸ h)).1, q5.trans (J.l7 (q7 ▸ h)).2⟩
    · cases ho
      have q0 := hL' 0
      have q1 := hL' 1
      have q2 := hL' 2
      have q3 := hL' 3
      have q4 := hL' 4
      have q5 := hL' 5
      have q6 := hL' 6
      have q7 := hL' 7
      rw [if_pos rfl] at q7
      rw [if_neg (by decide)] at q0 q1 q2 q3 q4 q5 q6
      have f7 : L 7 = false := hLi
      have g5 : L 5 = true := hdep ⟨5, .data⟩ (by simp) (by decide)
      have g3 : L 3 = true := hdep ⟨3, .data⟩ (by simp) (by decide)
      obtain ⟨b, hb1, hb2, hb3⟩ := J.v5 g5
      rw [f7] at hb3
      have hb3' : W.heap[b]? = some (.cells #[nilS] 77 (0, 0)) := hb3
      have hw := J.v3 g3
      obtain ⟨pu, cu, hsu⟩ := (own_toV hw).shape
      rw [nu_length] at hsu
      subst hb1 hsu
      have cb0 : W.cell? ⟨b, 0, none⟩ = some nilS := cell_of_row _ _ 0 _ _ _ hb3'
      have fb0 : W.frozen? ⟨b, 0, none⟩ = false := frozen_of_row _ _ 0 _ _ hb3'
      unfold bF
      go_simp
      refine ⟨t8, .pointer (some ⟨b, 0, none⟩), t11, t12, t13, _, rfl, J.o.trans' (OnlyS.setCell (S := fun i => i = b) _ _ _ _ rfl) (fun i hi => .inr (by have h : i = b := hi; omega)), ?_, ?_, ?_, ?_, ?_, ?_, ?_, ?_, ?_⟩
      · exact fun h => J.v0 (q0 ▸ h)
      · exact fun h => (J.v1 (q1 ▸ h)).set hb3'
      · exact fun h => J.v2 (q2 ▸ h)
      · exact fun h => (J.v3 (q3 ▸ h)).set hb3'
      · exact fun h => by
          rw [q6]
          obtain ⟨b2, h1, h2, h3⟩ := J.v4 (q4 ▸ h)
          have hne := J.ne (q4 ▸ h) g5
          refine ⟨b2, h1, h2, (heap_setCell_other _ _ _ _ (fun (e : b2 = b) => ?_)).trans h3⟩
          rw [h1, e] at hne
          exact hne rfl
      · exact fun _ => by rw [q7]; exact ⟨b, rfl, hb2, (heap_setCell_same _ _ _ _ _ _ hb3').trans rfl⟩
      · exact fun h h' => J.ne (q4 ▸ h) (q5 ▸ h')
      · exact fun h => ⟨q1.trans (J.l6 (q6 ▸ h)).1, q4.trans (J.l6 (q6 ▸ h)).2⟩
      · exact fun _ => ⟨q3.trans g3, q5.trans g5⟩
  · obtain ⟨t8, t9, t11, t12, t13, t14, J⟩ := hJ
    have l6 := hall 6 (by decide)
    have l7 := hall 7 (by decide)
    have v4 := J.v4 (hall 4 (by decide))
    have v5 := J.v5 (hall 5 (by decide))
    rw [l6] at v4
    rw [l7] at v5
    obtain ⟨b8, e8, m8, r8⟩ := v4
    obtain ⟨b9, e9, m9, r9⟩ := v5
    have hne := J.ne (hall 4 (by decide)) (hall 5 (by decide))
    have hc := J.v1 (hall 1 (by decide))
    have hd := J.v3 (hall 3 (by decide))
    have e11 := J.v0 (hall 0 (by decide))
    have e13 := J.v2 (hall 2 (by decide))
    have hfr := J.f
    have ho := J.o
    clear J hall l6 l7
    subst e8 e9 e11 e13 hfr
    have hne' : b8 ≠ b9 := fun e => hne (by rw [e])
    have r8' : W.heap[b8]? = some (.cells #[t12] 77 (0, 0)) := r8
    have r9' : W.heap[b9]? = some (.cells #[t14] 77 (0, 0)) := r9
    have hx_lt : ∀ i, penX gp sv i → i < w.heap.size := fun i hi => (HP.out.x_lt i hi).2
    have hwW : OnlyS (fun _ => False) w W := HO1.out.trans ho
    have hal : OnlyS (fun _ => False) W (W.alloc (.cells #[.int .i64 0] 3)) := OnlyS.alloc _ _
    have hsz1 := HZ1.out
    have hszW := ho.size
    obtain ⟨W2, hW2⟩ : ∃ W2, W2 = W.alloc (.cells #[.int .i64 0] 3) := ⟨_, rfl⟩
    rw [← hW2] at hal
    have hwW2 := hwW.trans hal
    have hszW2 : W2.heap.size = W.heap.size + 1 := by rw [hW2]; simp
    have hi0 : W2.heap[W.heap.size]? = some (.cells #[.int .i64 ((0 : Nat) : Int)] 3 (0, 0)) := by rw [hW2]; exact heap_alloc_new W _
    obtain ⟨X0, hX0⟩ : ∃ X0 : Nat → Prop, X0 = (fun i => i = W.heap.size ∨ penX gp sv i) := ⟨_, rfl⟩
    have hnX : ∀ i, w.heap.size ≤ i → i ≠ W.heap.size → ¬ X0 i := fun i h1 h2 h3 => by
      rw [hX0] at h3
      rcases h3 with h | h
      · exact h2 h
      · have := hx_lt i h; omega
    have hbx : ∀ (k : Nat) (v : Value) (t : TypeId), w1.heap[k]? = some (.cells #[v] t (0, 0)) → w.heap.size ≤ k → Box1 W2 X0 k v t := fun k v t h hk => by
      have hl := (Array.getElem?_eq_some_iff.1 h).1
      have h2 := (ho.block k hl (fun h => h)).trans h
      exact ⟨(hal.block k (by omega) (fun h => h)).trans h2, hnX k hk (by omega)⟩
    have hbW : ∀ (k : Nat) (v : Value) (t : TypeId), W.heap[k]? = some (.cells #[v] t (0, 0)) → w.heap.size ≤ k → Box1 W2 X0 k v t := fun k v t h hk => by
      have hl := (Array.getElem?_eq_some_iff.1 h).1
      exact ⟨(hal.block k hl (fun h => h)).trans h, hnX k hk (by omega)⟩
    have hoff : ∀ v : Value, Off w (penX gp sv) v → Off W2 X0 v := fun v h p n c e h0 => by
      have h1 := h p n c e h0
      refine ⟨fun hx => ?_, by omega⟩
      rw [hX0] at hx
      rcases hx with hx | hx
      · omega
      · exact h1.1 hx
    have hoffU : ∀ (v : Value) (l : List Int), OwnU w1 W v l → Off W2 X0 v := fun v l h p n c e h0 => by
      have hob : v.ownBlock = some p.block := by
        obtain ⟨_, ⟨h1, _⟩ | ⟨g, cap, cur, h1, _⟩⟩ := h
        · rw [h1] at e; cases e
        · rw [h1] at e; cases e; rw [h1]; rfl
      have hb := own_lt h _ hob
      exact ⟨hnX _ (by omega) (by omega), by omega⟩
    have hF : BodF W2 X0 (w.heap.size + 1) w.heap.size b9 (w.heap.size + 1 + 1 + 1) b8 (w.heap.size + 1 + 1) gp (.slice pr n cr) t14 (.slice pb nb cb) t12 (.slice pa na ca) ss zs ds :=
      ⟨hbx _ _ _ HK1.out (by omega), hbx _ _ _ HK0.out (by omega), hbW _ _ _ r9' (by omega), hbx _ _ _ HK3.out (by omega), hbW _ _ _ r8' (by omega), hbx _ _ _ HK2.out (by omega),
       HR.out.row.only hwW2 (fun _ _ _ _ _ h => h), own_toV (hd.only hal), slv_heap HBv.out hwW2, own_toV (hc.only hal), slv_heap HA.out hwW2,
       hoff _ (fun p n c e h0 => HR.out.off p n c e h0), hoffU _ _ hd, hoff _ HOB.out, hoffU _ _ hc, hoff _ HOA.out⟩
    have hI : BodI B (w.heap.size + 1) W.heap.size w.heap.size b9 (w.heap.size + 1 + 1 + 1) b8 (w.heap.size + 1 + 1) gp (.slice pr n cr) t14 (.slice pb nb cb) t12 (.slice pa na ca) L ss zs ds W2 X0 0 := by
      refine ⟨sv, hX0, hi0, fun h => by have := hx_lt _ h; omega, ?_, hF, by have := HB.out; omega⟩
      rw [wds, List.append_nil]
      exact HP.out.stay hwW2 (fun _ h => h.elim)
    have hrs : RowS W2 (.slice pr n cr) ss X0 := ⟨hF.row, hF.o0⟩
    have HC := Lib.hid (count_walk W2 (.slice pr n cr) ss 28 #[.pointer (some ⟨w.heap.size + 1, 0, none⟩), .pointer (some ⟨W.heap.size, 0, none⟩), .pointer (some ⟨w.heap.size, 0, none⟩), .pointer (some ⟨b9, 0, none⟩), .pointer (some ⟨w.heap.size + 1 + 1 + 1, 0, none⟩), .pointer (some ⟨b8, 0, none⟩), .pointer (some ⟨w.heap.size + 1 + 1, 0, none⟩)] _ X0 (fun _ _ => rfl)
      (hears28 B (w.heap.size + 1) W.heap.size w.heap.size b9 (w.heap.size + 1 + 1 + 1) b8 (w.heap.size + 1 + 1) gp (.slice pr n cr) t14 (.slice pb nb cb) t12 (.slice pa na ca) L ss zs ds HZC.out HDC.out HOK.out HL.out hl) (fun {w X k} h => bodI_lt h) hI hrs hl)
    have d5 : W2.cell? ⟨w.heap.size + 1, 0, none⟩ = some (.slice pr n cr) := hF.k0.c
    rw [hW2] at d5
    have HW2 := Lib.hid hW2
    have HX0 := Lib.hid hX0
    have HWW2 := Lib.hid hwW2
    have HSZ : Hid (w.heap.size ≤ W.heap.size) := Lib.hid (by omega)
    clear hx_lt hwW hal hszW2 hi0 hnX hbx hbW hoff hoffU hF hI hrs r8 r9 r8' r9' m8 m9 hne hne' hc hd ho hW2 hX0 hwW2 hszW hsz1
    unfold bF
    simp only [Exit.then]
    go_wp2_with fail
    rw [← HW2.out]
    refine HC.out.mono ?_
    rintro e w3 ⟨rfl, ho3, X', hI3, hg3⟩
    have HE : Hid (PenPost B gp (L ++ wds zs ds ss ss.length) (penX gp sv) w (.returned (.tuple #[])) w3) := Lib.hid (by
      obtain ⟨sv3, rfl, _, _, hp3, _, _⟩ := hI3
      have hx0 : ∀ i, X0 i → penX gp sv i ∨ w.heap.size ≤ i := fun i hi => by
        rw [HX0.out] at hi
        rcases hi with h | h
        · have := HSZ.out; exact .inr (by omega)
        · exact .inl h
      refine ⟨rfl, HWW2.out.mono (fun _ _ h => h.elim) |>.trans' ho3 hx0, sv3, hp3, fun i hi => ?_⟩
      rcases hg3 i (.inr hi) with h | h
      · exact hx0 i h
      · exact .inr (Nat.le_trans HWW2.out.size h))
    clear ho3 hI3 hg3
    go_wp2_with fail
    go_end0
    exact HE.out
end Go.Proofs.YtefeilgbofphjaaDoor
/-
  heads: what is known of the row of lengths' signs.
-/
namespace Go.Proofs.YtefeilgbofphjaaDoor
open Go.RowKit Hf
theorem take_run (all : List Int) (i r : Nat) (z : Int) (hl : i + r ≤ all.length) (h : ∀ j, i ≤ j → j < i + r → all.getD j 0 = z) : all.take (i + r) = all.take i ++ List.replicate r z := by
  rw [List.take_add]
  congr 1
  apply List.ext_getElem
  · simp; omega
  · intro j h1 h2
    simp at h1
    have := h (i + j) (by omega) (by omega)
    have e : all.getD (i + j) 0 = all[i + j] := by simp [show i + j < all.length by omega]
    rw [e] at this
    simp [this]
/-- Rows of signs that tell the first i lengths. -/
structure RwOk (all : List Int) (rows : List Sg) (i : Nat) : Prop where
  ok : okGs rows []
  dec : dec rows [] = all.take i
  le : rows.length ≤ i
  ge : i ≤ 138 * rows.length
theorem rw_zero (all : List Int) : RwOk all [] 0 := ⟨trivial, by simp [YtefeilgbofphjaaDoor.dec], Nat.le_refl _, Nat.le_refl _⟩
theorem rw_zeros {all : List Int} {rows : List Sg} {i : Nat} (h : RwOk all rows i) (g : Sg) (r : Nat) (hl : i + r ≤ all.length) (hz : ∀ j, i ≤ j → j < i + r → all.getD j 0 = 0) (hg : (g = ⟨18, r - 11, 7⟩ ∧ 11 ≤ r ∧ r ≤ 138) ∨ (g = ⟨17, r - 3, 3⟩ ∧ 3 ≤ r ∧ r ≤ 10)) : RwOk all (rows ++ [g]) (i + r) := by
  have ht := take_run all i r 0 hl hz
  have hle := h.le
  have hge := h.ge
  rcases hg with ⟨rfl, h1, h2⟩ | ⟨rfl, h1, h2⟩
  · refine ⟨(okGs_append _ _ _).2 ⟨h.ok, ⟨Nat.le_refl _, by show r - 11 < 2 ^ 7; omega, rfl, fun e => by cases e⟩, trivial⟩, ?_, by simp; omega, by simp; omega⟩
    rw [dec_append, h.dec, ht]
    show all.take i ++ List.replicate (11 + (r - 11)) 0 = _
    rw [show 11 + (r - 11) = r by omega]
  · refine ⟨(okGs_append _ _ _).2 ⟨h.ok, ⟨by show 17 ≤ 18; omega, by show r - 3 < 2 ^ 3; omega, rfl, fun e => by cases e⟩, trivial⟩, ?_, by simp; omega, by simp; omega⟩
    rw [dec_append, h.dec, ht]
    show all.take i ++ List.replicate (3 + (r - 3)) 0 = _
    rw [show 3 + (r - 3) = r by omega]
theorem runV_low (a : List Int) (s : Nat) (hs : s ≤ 15) : runV a ⟨s, 0, 0⟩ = ((s : Int), 1) := by
  unfold runV
  rw [if_neg (by show ¬ s = 16; omega), if_neg (by show ¬ s = 17; omega), if_neg (by show ¬ s = 18; omega)]
theorem okG_low (a : List Int) (s : Nat) (hs : s ≤ 15) : okG a ⟨s, 0, 0⟩ :=
  ⟨by show s ≤ 18; omega, by show 0 < 2 ^ 0; decide, by show 0 = if s = 16 then 2 else if s = 17 then 3 else if s = 18 then 7 else 0; rw [if_neg (by omega), if_neg (by omega), if_neg (by omega)], fun e => by have h : s = 16 := e; omega⟩
theorem rw_one {all : List Int} {rows : List Sg} {i : Nat} (h : RwOk all rows i) (s : Nat) (hs : s ≤ 15) (hl : i + 1 ≤ all.length) (hz : all.getD i 0 = (s : Int)) : RwOk all (rows ++ [⟨s, 0, 0⟩]) (i + 1) := by
  have ht := take_run all i 1 (s : Int) hl (fun j h1 h2 => by have e : j = i := (by omega); rw [e]; exact hz)
  have hle := h.le
  have hge := h.ge
  refine ⟨(okGs_append _ _ _).2 ⟨h.ok, okG_low _ s hs, trivial⟩, ?_, by simp; omega, by simp; omega⟩
  rw [dec_append, h.dec, ht]
  show dec1 (all.take i) ⟨s, 0, 0⟩ = _
  unfold dec1
  rw [runV_low _ s hs]
theorem rw_again {all : List Int} {rows : List Sg} {i : Nat} (h : RwOk all rows i) (s r : Nat) (hs : s ≤ 15) (h4 : 4 ≤ r) (h7 : r ≤ 7) (hl : i + r ≤ all.length) (hz : ∀ j, i ≤ j → j < i + r → all.getD j 0 = (s : Int)) : RwOk all (rows ++ [⟨s, 0, 0⟩, ⟨16, r - 4, 2⟩]) (i + r) := by
  have ht := take_run all i r (s : Int) hl hz
  have hle := h.le
  have hge := h.ge
  have e1 : dec1 (all.take i) ⟨s, 0, 0⟩ = all.take i ++ [(s : Int)] := by unfold dec1; rw [runV_low _ s hs]; rfl
  refine ⟨(okGs_append _ _ _).2 ⟨h.ok, okG_low _ s hs, ⟨by show 16 ≤ 18; omega, by show r - 4 < 2 ^ 2; omega, rfl, fun _ => by rw [h.dec, e1]; simp⟩, trivial⟩, ?_, by simp; omega, by simp; omega⟩
  rw [dec_append, h.dec, ht]
  show dec1 (dec1 (all.take i) ⟨s, 0, 0⟩) ⟨16, r - 4, 2⟩ = _
  rw [e1]
  unfold dec1
  have hv : runV (all.take i ++ [(s : Int)]) ⟨16, r - 4, 2⟩ = ((s : Int), 3 + (r - 4)) := by
    unfold runV
    rw [if_pos rfl]
    congr 1
    simp
  rw [hv, List.append_assoc]
  congr 1
  show [(s : Int)] ++ List.replicate (3 + (r - 4)) (s : Int) = _
  obtain ⟨q, rfl⟩ : ∃ q, r = q + 1 := ⟨r - 1, by omega⟩
  rw [show 3 + (q + 1 - 4) = q by omega, List.replicate_succ]
  rfl
theorem telBits_add (v : Nat → Nat) : ∀ n m k, telBits v (n + m) k = telBits v n k ++ telBits v m (k + n)
  | 0, m, k => by simp [telBits]
  | n + 1, m, k => by rw [show n + 1 + m = (n + m) + 1 by omega, telBits, telBits, telBits_add v n m (k + 1), List.append_assoc, show k + 1 + n = k + (n + 1) by omega]
theorem telBits_length (v : Nat → Nat) : ∀ n k, (telBits v n k).length = 3 * n
  | 0, _ => rfl
  | n + 1, k => by rw [telBits, List.length_append, num_length, telBits_length v n]; omega
theorem runs_length {zs : List Int} (hz : good zs) : ∀ (gs : List Sg), (∀ g ∈ gs, g.m ≤ 7) → (runs zs gs).length ≤ 22 * gs.length
  | [], _ => Nat.le_refl _
  | g :: gs, h => by
    have h1 := runs_length hz gs (fun g hg => h g (List.mem_cons_of_mem _ hg))
    have h2 := h g (List.mem_cons_self ..)
    have h3 := getD_good hz g.s
    rw [runs, List.length_append, List.length_append, cod_length, num_length, List.length_cons]
    omega
theorem okGs_all : ∀ (gs : List Sg) (a : List Int), okGs gs a → ∀ g ∈ gs, g.s ≤ 18 ∧ g.m ≤ 7 ∧ g.x < 128
  | [], _, _, g, hg => by cases hg
  | q :: gs, a, h, g, hg => by
    rcases List.mem_cons.1 hg with rfl | hg
    · have h1 := h.1
      have hm := h1.m
      have hm7 : g.m ≤ 7 := by rw [hm]; split <;> (try split) <;> (try split) <;> omega
      have hp : 2 ^ g.m ≤ 2 ^ 7 := Nat.pow_le_pow_right (by decide) hm7
      have hx := h1.x
      exact ⟨h1.s, hm7, by omega⟩
    · exact okGs_all gs _ h.2 g hg
theorem runs_take (zs : List Int) (gs : List Sg) (k : Nat) (hk : k < gs.length) : runs zs (gs.take (k + 1)) = runs zs (gs.take k) ++ (cod zs (gs.getD k nog).s ++ num (gs.getD k nog).x (gs.getD k nog).m) := by
  rw [List.take_add_one, List.getElem?_eq_getElem hk, runs_append]
  simp [runs, hk]
end Go.Proofs.YtefeilgbofphjaaDoor
/-
  signs, walked.
-/
namespace Go.Proofs.YtefeilgbofphjaaDoor
open Go.RowKit
theorem slv_at {w : World} {p : Option Addr} {n cap : Nat} {bs : List UInt8} (h : SlV w (.slice p n cap) (bl bs)) (i : Nat) (hi : i < bs.length) : ∃ g o, p = some ⟨g, o, none⟩ ∧ w.cell? ⟨g, o + i, none⟩ = some (.int .u8 (bi (bs.getD i 0))) := by
  have hl := h.len
  rw [bl_length] at hl
  obtain ⟨g, o, hp, hr⟩ := h.some (by omega)
  exact ⟨g, o, hp, hr.bl i hi⟩
theorem byte_at {w : World} {g o n cap : Nat} {bs : List UInt8} (h : SlV w (.slice (some ⟨g, o, none⟩) n cap) (bl bs)) (i : Nat) (hi : i < bs.length) : w.cell? ⟨g, o + i, none⟩ = some (.int .u8 (bi (bs.getD i 0))) := by
  obtain ⟨g', o', hp, hc⟩ := slv_at h i hi
  cases hp
  exact hc
theorem cps_at : ∀ (cs : List (Nat × Nat)) (i : Nat), i < cs.length → (cps cs)[i * 2]? = some (.int .u16 ((cs.getD i (0, 0)).1 : Int)) ∧ (cps cs)[i * 2 + 1]? = some (.int .u16 ((cs.getD i (0, 0)).2 : Int))
  | [], i, h => by simp at h
  | c :: cs, 0, _ => ⟨rfl, rfl⟩
  | c :: cs, i + 1, h => by
    have := cps_at cs i (by simpa using h)
    have e : cps (c :: cs) = .int .u16 (c.1 : Int) :: .int .u16 (c.2 : Int) :: cps cs := rfl
    rw [e, show (i + 1) * 2 = i * 2 + 1 + 1 by omega, List.getElem?_cons_succ, List.getElem?_cons_succ, show i * 2 + 1 + 1 + 1 = (i * 2 + 1) + 1 + 1 by omega, List.getElem?_cons_succ, List.getElem?_cons_succ, List.getD_cons_succ]
    exact this
theorem pair_at {w : World} {p : Option Addr} {n m cap : Nat} {cs : List (Nat × Nat)} (h : SlK 2 w (.slice p n cap) m (cps cs)) (hm : m = cs.length) (i : Nat) (hi : i < cs.length) : ∃ g o, p = some ⟨g, o, none⟩ ∧ w.cell? ⟨g, o + i * 2, none⟩ = some (.int .u16 ((cs.getD i (0, 0)).1 : Int)) ∧ w.cell? ⟨g, o + i * 2 + 1, none⟩ = some (.int .u16 ((cs.getD i (0, 0)).2 : Int)) := by
  obtain ⟨_, ⟨g, o, cap', h2, _, h4⟩ | ⟨p', h2, h3⟩⟩ := h
  · have hc := cps_at cs i hi
    cases h2
    refine ⟨g, o, rfl, h4 _ _ hc.1, ?_⟩
    rw [Nat.add_assoc]; exact h4 _ _ hc.2
  · omega
/-- The part's own box stays. -/
theorem box_at {w0 wr : World} {gx B : Nat} {x0 x1 x2 ov lv o : Value} {ss : List Sg} {out : List UInt8} (hr : w0.heap[gx]? = some (.cells #[x0, x1, x2] 36 (0, 0))) (hS : SgAt w0 wr B ov lv o ss out) (hold : ∀ j, ov.ownBlock = some j → j ≠ gx) : wr.cell? ⟨gx, 1, none⟩ = some x1 ∧ wr.cell? ⟨gx, 2, none⟩ = some x2 := by
  have hlt := (Array.getElem?_eq_some_iff.1 hr).1
  have h := (hS.only.block gx hlt (fun e => hold gx e rfl)).trans hr
  exact ⟨cell_of_row _ _ 1 _ _ _ h, cell_of_row _ _ 2 _ _ _ h⟩
theorem out_at {w wr : World} {B : Nat} {ov0 lv : Value} {p : Option Addr} {n cap : Nat} {ss : List Sg} {out : List UInt8} (h : SgAt w wr B ov0 lv (.slice p n cap) ss out) (i : Nat) (hi : i < out.length) : ∃ g, p = some ⟨g, 0, none⟩ ∧ wr.cell? ⟨g, i, none⟩ = some (.int .u8 (bi (out.getD i 0))) := by
  obtain ⟨g, cap', h1, _, _, _, _, h2, _⟩ := own_spot h.own (by omega)
  cases h1
  refine ⟨g, rfl, h2 i _ ?_⟩
  unfold bl
  rw [List.getElem?_map, List.getElem?_eq_getElem hi]
  simp [hi]
theorem byt_pre {w wr : World} {B : Nat} {ov0 lv : Value} {p : Option Addr} {m c : Nat} {ss : List Sg} {out : List UInt8} (h : SgAt w wr B ov0 lv (.slice p m c) ss out) (hm : m = out.length) (x : UInt8) (hB : B ≤ w.heap.size) :
    (wr.alloc (.cells #[.int .u8 (bi x)] 5)).ownsRow B 5 1 (.slice p m c) m (bl out) ∧ SlK 1 (wr.alloc (.cells #[.int .u8 (bi x)] 5)) (.slice (some ⟨wr.heap.size, 0, none⟩) 1 1) 1 (bl [x]) ∧ B ≤ (wr.alloc (.cells #[.int .u8 (bi x)] 5)).heap.size := by
  refine ⟨?_, (slv_lit wr (bl [x]) 5).toK, ?_⟩
  · have := (h.same (OnlyS.alloc wr (.cells #[.int .u8 (bi x)] 5))).own
    rw [← hm] at this; exact this
  · have := h.size; simp; omega
theorem byt_post {w wr w1 : World} {B : Nat} {ov0 lv v' : Value} {p : Option Addr} {m c : Nat} {ss : List Sg} {out : List UInt8} {x : UInt8} (h : SgAt w wr B ov0 lv (.slice p m c) ss out) (hm : m = out.length)
    (hown : w1.ownsRow B 5 1 v' (m + 1) (bl out ++ bl [x])) (hgr : (wr.alloc (.cells #[.int .u8 (bi x)] 5)).grownBy w1 (Value.slice p m c).ownBlock) (hat : v'.ownBlock = (Value.slice p m c).ownBlock ∨ v'.ownBlock = some (wr.alloc (.cells #[.int .u8 (bi x)] 5)).heap.size) :
    SgAt w w1 B ov0 lv v' ss (out ++ [x]) := by
  rw [hm] at hown
  exact h.bytes (OnlyS.alloc _ _) rfl hown hgr hat
theorem sig_pre {w wr : World} {B : Nat} {ov0 ov : Value} {p : Option Addr} {m c : Nat} {ss : List Sg} {out : List UInt8} (h : SgAt w wr B ov0 (.slice p m c) ov ss out) (hm : m = ss.length) (ys : List Sg) (n : Nat) (hn : n = ys.length) (cs : Array Value) (hc : cs = (sgc ys).toArray) :
    (wr.alloc (.cells cs 72)).ownsRow w.heap.size 72 3 (.slice p m c) m (sgc ss) ∧ SlK 3 (wr.alloc (.cells cs 72)) (.slice (some ⟨wr.heap.size, 0, none⟩) n n) n (sgc ys) ∧ w.heap.size ≤ (wr.alloc (.cells cs 72)).heap.size := by
  refine ⟨?_, slk_sgs wr ys n hn cs hc, ?_⟩
  · have := (h.same (OnlyS.alloc wr (.cells cs 72))).row
    rw [← hm] at this; exact this
  · have := h.size; simp; omega
theorem sig_post {w wr w1 : World} {B : Nat} {ov0 ov v' : Value} {p : Option Addr} {m c n : Nat} {ss ys : List Sg} {out : List UInt8} {cs : Array Value} (h : SgAt w wr B ov0 (.slice p m c) ov ss out) (hm : m = ss.length) (hn : n = ys.length)
    (hown : w1.ownsRow w.heap.size 72 3 v' (m + n) (sgc ss ++ sgc ys)) (hgr : (wr.alloc (.cells cs 72)).grownBy w1 (Value.slice p m c).ownBlock) (hat : v'.ownBlock = (Value.slice p m c).ownBlock ∨ v'.ownBlock = some (wr.alloc (.cells cs 72)).heap.size) :
    SgAt w w1 B ov0 v' ov (ss ++ ys) out := by
  rw [hm] at hown
  exact h.signs (OnlyS.alloc _ _) hn hown hgr hat
theorem olen_zero : ∀ cs : List (Nat × Nat), olen 0 cs = 0
  | [] => rfl
  | _ :: cs => olen_zero cs
theorem olen_take (l : Nat) (cs : List (Nat × Nat)) (j : Nat) (hj : j < cs.length) : olen l (cs.take (j + 1)) = olen1 (olen l (cs.take j)) (cs.getD j (0, 0)) := by
  rw [List.take_add_one, List.getElem?_eq_getElem hj]
  unfold olen
  rw [List.foldl_append]
  simp [hj]
theorem olen_stop (l : Nat) (cs : List (Nat × Nat)) (j : Nat) (h6 : j ≤ 6) (h : cs.length ≤ j ∨ j = 6 ∨ olen l (cs.take j) = 0) : olen l (cs.take j) = olen l (cs.take 6) := by
  rcases h with h | h | h
  · rw [List.take_of_length_le h, List.take_of_length_le (by omega)]
  · rw [h]
  · have e : cs.take 6 = cs.take j ++ (cs.drop j).take (6 - j) := by
      rw [← List.take_add, show j + (6 - j) = 6 by omega]
    rw [e]
    unfold olen at h ⊢
    rw [List.foldl_append, h]
    exact (olen_zero _).symm
theorem sg_leave {w w0 w' : World} {B : Nat} {ov lv o : Value} {ss : List Sg} {out : List UInt8} (ha : OnlyS (fun _ => False) w w0) (hold : ∀ j, ov.ownBlock = some j → j < w.heap.size) (h : SgAt w0 w' B ov lv o ss out) : SgAt w w' B ov lv o ss out :=
  ⟨own_leK h.row ha.size, h.own, h.apart, (ha.mono fun _ _ h => h.elim).trans h.only, fun i hi => by
    rcases h.grew i hi with h1 | h1
    · exact .inl h1
    · exact .inr (Nat.le_trans ha.size h1), hold⟩
set_option maxRecDepth 100000 in
set_option maxHeartbeats 4000000 in
theorem signs_walk (w : World) (B kd : Nat) (bv cv ov : Value) (bs : List UInt8) (cs : List (Nat × Nat)) (out : List UInt8) (h : PartAt w B bv cv bs cs) (hown : w.ownsRow B 5 1 ov out.length (bl out)) (hB : B ≤ w.heap.size) (hl : out.length ≤ 1000000) (hbl : bs.length ≤ 9223372036854775807) :
    Calls Tryd.prog 12 #[.agg #[.int .u8 (kd : Int), bv, cv], ov] w (SgPost w B ov out bs cs) := by
  obtain ⟨w0, hw0⟩ : ∃ w0, w0 = w.alloc (.cells #[.int .u8 (kd : Int), bv, cv] 36) := ⟨_, rfl⟩
  have ha0 : OnlyS (fun _ => False) w w0 := by rw [hw0]; exact OnlyS.alloc _ _
  have hr0 : w0.heap[w.heap.size]? = some (.cells #[.int .u8 (kd : Int), bv, cv] 36 (0, 0)) := by rw [hw0]; exact heap_alloc_new w _
  have hold : ∀ j, ov.ownBlock = some j → B ≤ j ∧ j < w.heap.size := fun j hj => own_lt hown j hj
  have hS0 : SgAt w0 w0 B ov (.slice none 0 0) ov [] out := ⟨World.ownsRow_nil _ _ _ _, own_stays hown (fun k hk => ha0.block k (own_lt hown k hk).2 (fun h => h)), fun j hj => by simp [Value.ownBlock] at hj, OnlyS.refl _ _, Grew.refl _ _, fun j hj => Nat.lt_of_lt_of_le (hold j hj).2 ha0.size⟩
  have HW := Lib.hid hw0
  have HR := Lib.hid hr0
  have HS := Lib.hid hS0
  have HA := Lib.hid ha0
  have HOLD := Lib.hid hold
  have HNX : Hid (∀ j, ov.ownBlock = some j → j ≠ w.heap.size) := Lib.hid (fun j hj => by have := (hold j hj).2; omega)
  have HBO : Hid (∀ j, ov.ownBlock = some j → B ≤ j) := Lib.hid (fun j hj => (hold j hj).1)
  have HP := Lib.hid (h.only ha0 (fun _ h => h.elim))
  have HB0 : Hid (B ≤ w0.heap.size) := Lib.hid (Nat.le_trans hB ha0.size)
  obtain ⟨pb, cb, hsb⟩ := h.b.shape
  rw [bl_length] at hsb
  obtain ⟨nb, hnb⟩ : ∃ nb, nb = bs.length := ⟨_, rfl⟩
  rw [← hnb] at hsb hbl
  have HNB := Lib.hid hnb
  obtain ⟨pc, cc, hsc⟩ : ∃ p c, cv = .slice p cs.length c := by
    obtain ⟨_, ⟨g, o, cap, h2, _⟩ | ⟨p, h2, h3⟩⟩ := h.c
    · exact ⟨_, _, h2⟩
    · exact ⟨p, 0, by rw [h3]; exact h2⟩
  obtain ⟨nc, hnc⟩ : ∃ nc, nc = cs.length := ⟨_, rfl⟩
  rw [← hnc] at hsc
  have HNC := Lib.hid hnc
  subst hsb hsc
  obtain ⟨i72, hi, hz0, hz1, hz2⟩ := info_parts info72
  have HI72 := Lib.hid (And.intro hi (And.intro hz0 (And.intro hz1 hz2)))
  clear hi hz0 hz1 hz2
  obtain ⟨i5, hi, hz0, hz1, hz2⟩ := info_parts info5
  have HI5 := Lib.hid (And.intro hi (And.intro hz0 (And.intro hz1 hz2)))
  clear hi hz0 hz1 hz2 hown h ha0 hr0 hS0 hw0 hnb hnc hold
  go_enter Tryd.func12, Tryd.ntmps12
  go_wp2_with fail
  rw [← HW.out]
  go_loopw [1, 6, 7] (fun v1 v6 v7 wr => ∃ (i : Nat) (ts : List Tok), i ≤ nb ∧ i ≤ 80 ∧ v7 = .int .i64 (i : Int) ∧ ts.length = i ∧ (tsg ts).length = i ∧ SgAt w0 wr B ov v6 v1 (tsg ts) (effs ts out) ∧ oks ts out ∧ (effs ts out).length = out.length + i) (fun _ _ v7 _ => 80 - (intOf v7).toNat)
  case atStart => exact ⟨0, [], Nat.zero_le _, by decide, rfl, rfl, rfl, HS.out, trivial, rfl⟩
  case round =>
    obtain ⟨i, ts, hin, hi80, rfl, htl, hk, hS, hok, hel⟩ := hrel
    obtain ⟨pl, cl, hsl⟩ := own_shape hS.row
    obtain ⟨pq, cq, hsq⟩ := (own_toV hS.own).shape
    rw [bl_length] at hsq
    rw [hk] at hsl
    obtain ⟨m, hm⟩ : ∃ m, m = (effs ts out).length := ⟨_, rfl⟩
    have hm2 : m ≤ 1000080 := by omega
    rw [← hm] at hsq
    subst hsl hsq
    obtain ⟨d1, d2⟩ := box_at HR.out hS HNX.out
    have HS1 := Lib.hid hS
    have HOK := Lib.hid hok
    have HEL := Lib.hid hel
    have HTL := Lib.hid htl
    have HK := Lib.hid hk
    have HM := Lib.hid hm
    clear hS hok hel htl hk hm HS
    by_cases hc : i < nb ∧ i < 80
    · have hi1 : (i : Int) < (nb : Int) := by omega
      have hi2 : (i : Int) < 80 := by omega
      obtain ⟨y, hy⟩ : ∃ y, y = bs.getD i 0 := ⟨_, rfl⟩
      obtain ⟨gp, op, hpb, e1⟩ := slv_at (HP.out.only HS1.out.only HBO.out).b i (by rw [← HNB.out]; exact hc.1)
      subst hpb
      rw [← hy] at e1
      have hbi := bi_lt y
      have HY := Lib.hid hy
      have HIB : Hid (i < bs.length) := Lib.hid (by rw [← HNB.out]; exact hc.1)
      clear hy hc
      have HPS := Lib.hid (sig_pre HS1.out HK.out.symm [⟨y.toNat, 0, 0⟩] 1 rfl _ rfl)
      go_wp2_with (first
        | (refine wpList_appK 50 72 i72 (.agg #[.int .i64 0, .int .i64 0, .int .i64 0]) 3 24 Tryd.underlying50 HI72.out.1 HI72.out.2.1 HI72.out.2.2.1 HI72.out.2.2.2 rfl (by decide) (by decide) rfl (.tmp 22) (.tmp 30) rfl w0.heap.size (.slice pl i cl) (.slice (some ⟨wr.heap.size, 0, none⟩) 1 1) i 1 (sgc (tsg ts)) (sgc [⟨y.toNat, 0, 0⟩]) rfl rfl (sgc_one _) HPS.out.1 HPS.out.2.1 HPS.out.2.2 (by omega) ?_; intro v1' w1 hown hgrow hat; have HS2 := Lib.hid (sig_post (ys := [⟨y.toNat, 0, 0⟩]) HS1.out HK.out.symm rfl hown hgrow hat); clear hown hgrow hat; obtain ⟨d1', d2'⟩ := box_at HR.out HS2.out HNX.out; have e1' := byte_at (HP.out.only HS2.out.only HBO.out).b i HIB.out; rw [← HY.out] at e1'; have HPB := Lib.hid (byt_pre HS2.out HM.out y HB0.out))
        | (refine wpList_appK 23 5 i5 (.int .u8 0) 1 1 Tryd.underlying23 HI5.out.1 HI5.out.2.1 HI5.out.2.2.1 HI5.out.2.2.2 rfl (by decide) (by decide) rfl (.tmp 32) (.tmp 38) rfl B (.slice pq m cq) (.slice (some ⟨w1.heap.size, 0, none⟩) 1 1) m 1 (bl (effs ts out)) (bl [y]) rfl rfl (bl_one _) HPB.out.1 HPB.out.2.1 HPB.out.2.2 (by omega) ?_; intro v2' w2 hown hgrow hat; have HS3 := Lib.hid (byt_post HS2.out HM.out hown hgrow hat); clear hown hgrow hat))
      have e2 : effs (ts ++ [.lit y.toNat]) out = effs ts out ++ [y] := by rw [effs_append]; show effs ts out ++ [UInt8.ofNat y.toNat] = _; rw [UInt8.ofNat_toNat]
      have e3 : tsg (ts ++ [.lit y.toNat]) = tsg ts ++ [⟨y.toNat, 0, 0⟩] := tsg_append _ _
      refine ⟨⟨i + 1, ts ++ [.lit y.toNat], by omega, by omega, by go_num, ?_, ?_, ?_, ?_, ?_⟩, by simp [intOf]; omega⟩
      · rw [List.length_append, HTL.out]; rfl
      · rw [e3, List.length_append, HK.out]; rfl
      · rw [e2, e3]; exact HS3.out
      · rw [oks_append]; exact ⟨HOK.out, by show y.toNat < 256 ∧ True; exact ⟨y.toNat_lt, trivial⟩⟩
      · rw [e2, List.length_append, HEL.out]; rfl
    · obtain ⟨l1, hl1⟩ : ∃ l1, l1 = out.length + min bs.length 80 := ⟨_, rfl⟩
      have hel1 : (effs ts out).length = l1 := by rw [HEL.out, hl1]; have := HNB.out; omega
      have H0 : Hid (∃ (j : Nat) (ts : List Tok), j = 0 ∧ SgAt w0 wr B ov (.slice pl i cl) (.slice pq m cq) (tsg ts) (effs ts out) ∧ oks ts out ∧ (effs ts out).length = olen l1 (cs.take j) ∧ (effs ts out).length ≤ out.length + 80 + 258 * j ∧ (tsg ts).length ≤ 80 + 2 * j ∧ ts.length ≤ 80 + j) := Lib.hid ⟨0, ts, rfl, HS1.out, HOK.out, hel1, by rw [HEL.out]; omega, by rw [HK.out]; omega, by rw [HTL.out]; omega⟩
      have HL1 := Lib.hid hl1
      clear hel1 hl1 HOK HEL HTL HK HM HS1
      have hcc : (nb : Int) ≤ (i : Int) ∨ ((i : Int) < (nb : Int) ∧ (80 : Int) ≤ (i : Int)) := by omega
      clear hc
      have hle : out.length + 80 + 258 * 6 ≤ 1002000 := by omega
      have HLE := Lib.hid hle
      clear hle hbl hl hi80 hin hm2
      rcases hcc with hi1 | ⟨hi1, hi2⟩
      all_goals
        go_wp2_with fail
        go_loopw [1, 6, 8] (fun v1 v6 v8 wr => ∃ (j : Nat) (ts : List Tok), j ≤ nc ∧ j ≤ 6 ∧ v8 = .int .i64 (j : Int) ∧ SgAt w0 wr B ov v6 v1 (tsg ts) (effs ts out) ∧ oks ts out ∧ (effs ts out).length = olen l1 (cs.take j) ∧ (effs ts out).length ≤ out.length + 80 + 258 * j ∧ (tsg ts).length ≤ 80 + 2 * j ∧ ts.length ≤ 80 + j) (fun _ _ v8 _ => 6 - (intOf v8).toNat)
        case atStart =>
          obtain ⟨j, ts, rfl, h1, h2, h3, h4, h5, h6⟩ := H0.out
          exact ⟨0, ts, Nat.zero_le _, by decide, rfl, h1, h2, h3, h4, h5, h6⟩
        case round =>
          clear H0
          obtain ⟨j, ts, hjn, hj6, rfl, hS, hok, hel, hel2, hk, htl⟩ := hrel
          obtain ⟨pl, cl, hsl⟩ := own_shape hS.row
          obtain ⟨pq, cq, hsq⟩ := (own_toV hS.own).shape
          rw [bl_length] at hsq
          obtain ⟨k, hkk⟩ : ∃ k, k = (tsg ts).length := ⟨_, rfl⟩
          rw [← hkk] at hsl hk
          obtain ⟨m, hm⟩ : ∃ m, m = (effs ts out).length := ⟨_, rfl⟩
          rw [← hm] at hsq hel hel2
          have hm2 : m ≤ 1002000 := by have := HLE.out; omega
          subst hsl hsq
          obtain ⟨d1, d2⟩ := box_at HR.out hS HNX.out
          have HS1 := Lib.hid hS
          have HOK := Lib.hid hok
          have HEL := Lib.hid hel
          have HEL2 := Lib.hid hel2
          have HTL := Lib.hid htl
          have HK := Lib.hid hkk
          have HM := Lib.hid hm
          have hkb : k ≤ 92 := by omega
          have HKB := Lib.hid hk
          clear hS hok hel hel2 htl hkk hm hk
          by_cases hc : j < nc ∧ j < 6 ∧ 0 < m
          · have hj1 : (j : Int) < (nc : Int) := by omega
            have hj2 : (j : Int) < 6 := by omega
            have hj3 : (0 : Int) < (m : Int) := by omega
            obtain ⟨c, hcd⟩ : ∃ c, c = cs.getD j (0, 0) := ⟨_, rfl⟩
            have hjc : j < cs.length := by rw [← HNC.out]; exact hc.1
            obtain ⟨gq, oq, hpc, e1, e2⟩ := pair_at (HP.out.only HS1.out.only HBO.out).c rfl j hjc
            subst hpc
            rw [← hcd] at e1 e2
            have hcm : c ∈ cs := by rw [hcd, List.getD_eq_getElem?_getD, List.getElem?_eq_getElem hjc]; exact List.getElem_mem hjc
            have hcu := HP.out.u16 c hcm
            obtain ⟨c1, c2⟩ := c
            simp only at e1 e2 hcu
            obtain ⟨n, hn⟩ : ∃ n, n = 3 + c1 % 256 := ⟨_, rfl⟩
            obtain ⟨mm, hmm⟩ : ∃ mm, mm = min m 32768 := ⟨_, rfl⟩
            obtain ⟨d, hd⟩ : ∃ d, d = 1 + c2 % mm := ⟨_, rfl⟩
            have hmm0 : 0 < mm := by omega
            have hml := Nat.mod_lt c2 hmm0
            have hmi : min (m : Int) 32768 = (mm : Int) := by omega
            have HNI : Hid (wrap64 (3 + (wrap64 (c1 : Int)).tmod 256) = (n : Int)) := Lib.hid (by
              rw [IntWalk.wrap64_in (c1 : Int) (by omega), Int.tmod_eq_emod_of_nonneg (by omega), IntWalk.wrap64_in _ (by omega)]; omega)
            have HDI : Hid (wrap64 (1 + (wrap64 (c2 : Int)).tmod (mm : Int)) = (d : Int)) := Lib.hid (by
              have e : (c2 : Int) % (mm : Int) = ((c2 % mm : Nat) : Int) := by norm_cast
              rw [IntWalk.wrap64_in (c2 : Int) (by omega), Int.tmod_eq_emod_of_nonneg (by omega), e, IntWalk.wrap64_in _ (by omega)]; omega)
            have hmne : ((mm : Int) == 0) = false := beq_eq_false_iff_ne.2 (by omega)
            have hn3 : 3 ≤ n ∧ n ≤ 258 := by omega
            have hd1 : 1 ≤ d ∧ d ≤ 32768 ∧ d ≤ m := by omega
            have HCD := Lib.hid hcd
            have HN := Lib.hid hn
            have HMM := Lib.hid hmm
            have HN3 := Lib.hid hn3
            have HD1 := Lib.hid hd1
            have HJC := Lib.hid hjc
            have HL23 : Hid (∀ wx, Calls Tryd.prog 23 #[.int .i64 (n : Int)] wx fun e w' => ∃ g, LSg n g ∧ e = .returned (sgv g) ∧ Below wx.heap.size wx w') := Lib.hid (fun wx => lengthSign_walk wx n hn3.1 hn3.2)
            have HF24 : Hid (∀ wx, Calls Tryd.prog 24 #[.int .i64 (d : Int)] wx fun e w' => ∃ g, FSg d g ∧ e = .returned (sgv g) ∧ Below wx.heap.size wx w') := Lib.hid (fun wx => farSign_walk wx d hd1.1 hd1.2.1)
            clear hcd hn hmm hd hml hcm hcu hc hjc hn3
            go_wp2_with (first
              | (go_at_call 23; rw [HNI.out, HDI.out]; refine (HL23.out _).mono ?_; rintro e w1 ⟨a, ha, rfl, hb1⟩; have HLA := Lib.hid ha; have HS2 := Lib.hid (HS1.out.same (OnlyS.of_below hb1)); clear ha hb1; unfold sgv)
              | (go_at_call 24; refine (HF24.out _).mono ?_; rintro e w2 ⟨b, hb, rfl, hb2⟩; have HFB := Lib.hid hb; have HS3 := Lib.hid (HS2.out.same (OnlyS.of_below hb2)); clear hb hb2; have HPS := Lib.hid (sig_pre HS3.out HK.out [a, b] 2 rfl _ rfl); unfold sgv)
              | (refine wpList_appK 50 72 i72 (.agg #[.int .i64 0, .int .i64 0, .int .i64 0]) 3 24 Tryd.underlying50 HI72.out.1 HI72.out.2.1 HI72.out.2.2.1 HI72.out.2.2.2 rfl (by decide) (by decide) rfl (.tmp 77) (.tmp 82) rfl w0.heap.size (.slice pl k cl) (.slice (some ⟨w2.heap.size, 0, none⟩) 2 2) k 2 (sgc (tsg ts)) (sgc [a, b]) rfl rfl (sgc_one _) HPS.out.1 HPS.out.2.1 HPS.out.2.2 (by omega) ?_; intro v1' w3 hown hgrow hat; have HS4 := Lib.hid (sig_post (ys := [a, b]) HS3.out HK.out rfl hown hgrow hat); clear hown hgrow hat))
            go_loopw [1, 85] (fun v1 v85 wr => ∃ q : Nat, q ≤ n ∧ v85 = .int .i64 (q : Int) ∧ SgAt w0 wr B ov v1' v1 (tsg ts ++ [a, b]) (Inf.copy (effs ts out) d q)) (fun _ v85 _ => n - (intOf v85).toNat)
            case atStart => exact ⟨0, Nat.zero_le _, rfl, HS4.out⟩
            case round =>
              clear HS1 HS2 HS3 HS4 HPS HL23 HF24 e1 e2 d1 d2
              obtain ⟨q, hqn, rfl, hS⟩ := hrel
              obtain ⟨pq, cq, hsq⟩ := (own_toV hS.own).shape
              rw [bl_length, Inf.copy_length, ← HM.out] at hsq
              subst hsq
              have HS5 := Lib.hid hS
              clear hS
              by_cases hq : q < n
              · have hq1 : (q : Int) < (n : Int) := by omega
                have HQL : Hid (m + q = (Inf.copy (effs ts out) d q).length) := Lib.hid (by rw [Inf.copy_length, ← HM.out])
                obtain ⟨x, hx⟩ : ∃ x, x = (Inf.copy (effs ts out) d q).getD ((Inf.copy (effs ts out) d q).length - d) 0 := ⟨_, rfl⟩
                obtain ⟨g5, hp5, e5⟩ := out_at HS5.out (m + q - d) (by rw [← HQL.out]; have := HD1.out; have := HN3.out; omega)
                rw [HQL.out, ← hx] at e5
                rw [← HQL.out] at e5
                subst hp5
                have HX := Lib.hid hx
                have hsb : ((m : Int) + (q : Int)) - (d : Int) = ((m + q - d : Nat) : Int) := by have := HD1.out; omega
                have hsb0 : (0 : Int) ≤ ((m : Int) + (q : Int)) - (d : Int) := by have := HD1.out; omega
                have hsb1 : (m : Int) + (q : Int) - (d : Int) < (m : Int) + (q : Int) := by have := HD1.out; omega
                have hsbn : ((m : Int) + (q : Int) - (d : Int)).toNat = m + q - d := by have := HD1.out; omega
                have HPB := Lib.hid (byt_pre HS5.out HQL.out x HB0.out)
                have hqb : m + q ≤ 1003000 := by have := HN3.out; omega
                clear hx
                go_wp2_with (refine wpList_appK 23 5 i5 (.int .u8 0) 1 1 Tryd.underlying23 HI5.out.1 HI5.out.2.1 HI5.out.2.2.1 HI5.out.2.2.2 rfl (by decide) (by decide) rfl (.tmp 87) (.tmp 95) rfl B (.slice (some ⟨g5, 0, none⟩) (m + q) cq) (.slice (some ⟨wr.heap.size, 0, none⟩) 1 1) (m + q) 1 (bl (Inf.copy (effs ts out) d q)) (bl [x]) rfl rfl (bl_one _) HPB.out.1 HPB.out.2.1 HPB.out.2.2 (by omega) ?_; intro v5' w6 hown hgrow hat; have HS6 := Lib.hid (byt_post HS5.out HQL.out hown hgrow hat); clear hown hgrow hat)
                refine ⟨⟨q + 1, by omega, by go_num, ?_⟩, by simp [intOf]; omega⟩
                rw [Inf.copy_last, ← HX.out]
                exact HS6.out
              · have hq1 : (n : Int) ≤ (q : Int) := by omega
                obtain rfl : q = n := by omega
                go_wp2_with fail
                have e2 : effs (ts ++ [.cpy q d a b]) out = Inf.copy (effs ts out) d q := by rw [effs_append]; rfl
                have e3 : tsg (ts ++ [.cpy q d a b]) = tsg ts ++ [a, b] := tsg_append _ _
                refine ⟨⟨j + 1, ts ++ [.cpy q d a b], by omega, by omega, by go_num, ?_, ?_, ?_, ?_, ?_, ?_⟩, by simp [intOf]; omega⟩
                · rw [e2, e3]; exact HS5.out
                · rw [oks_append]; exact ⟨HOK.out, ⟨by rw [← HM.out]; exact HD1.out.2.2, HLA.out, HFB.out⟩, trivial⟩
                · rw [e2, Inf.copy_length, ← HM.out, HEL.out, olen_take _ _ _ HJC.out, ← HCD.out, olen1, if_neg (by rw [← HEL.out]; omega), HN.out]
                · rw [e2, Inf.copy_length, ← HM.out]; have := HEL2.out; have := HN3.out; omega
                · rw [e3, List.length_append, ← HK.out]; have := HKB.out; simp; omega
                · rw [List.length_append]; have := HTL.out; simp; omega
          · have hst : olen l1 (cs.take j) = olen l1 (cs.take 6) := olen_stop l1 cs j hj6 (by have := HNC.out; have := HEL.out; omega)
            have HFIN : Hid ((effs ts out).length = plen out.length bs cs) := Lib.hid (by rw [← HM.out, HEL.out, hst, HL1.out]; rfl)
            have HT86 : Hid (ts.length ≤ 86) := Lib.hid (by have := HTL.out; omega)
            have HPS := Lib.hid (sig_pre HS1.out HK.out [⟨256, 0, 0⟩] 1 rfl _ rfl)
            have hx3 : (nc : Int) ≤ (j : Int) ∨ ((j : Int) < (nc : Int) ∧ (6 : Int) ≤ (j : Int)) ∨ ((j : Int) < (nc : Int) ∧ (j : Int) < 6 ∧ (m : Int) ≤ 0) := by omega
            clear hc hst hj6 hjn
            rcases hx3 with hx1 | ⟨hx1, hx2⟩ | ⟨hx1, hx2, hx3⟩
            all_goals
              go_wp2_with (refine wpList_appK 50 72 i72 (.agg #[.int .i64 0, .int .i64 0, .int .i64 0]) 3 24 Tryd.underlying50 HI72.out.1 HI72.out.2.1 HI72.out.2.2.1 HI72.out.2.2.2 rfl (by decide) (by decide) rfl (.tmp 98) (.tmp 100) rfl w0.heap.size (.slice pl k cl) (.slice (some ⟨wr.heap.size, 0, none⟩) 1 1) k 1 (sgc (tsg ts)) (sgc [⟨256, 0, 0⟩]) rfl rfl (sgc_one _) HPS.out.1 HPS.out.2.1 HPS.out.2.2 (by omega) ?_; intro v1' w3 hown hgrow hat; have HS4 := Lib.hid (sig_post (ys := [⟨256, 0, 0⟩]) HS1.out HK.out rfl hown hgrow hat); clear hown hgrow hat)
              refine bodyPost_ret (results_tmp2 rfl _ _ _) rfl ?_
              exact ⟨_, _, ts, rfl, sg_leave HA.out (fun j hj => (HOLD.out j hj).2) HS4.out, HOK.out, HFIN.out, HT86.out⟩
end Go.Proofs.YtefeilgbofphjaaDoor
