/-
  Last: the last record with a key.
-/
import Derived.Test.YtjgphicmkmdeiaaDoorPyb
namespace Go.Proofs.YtjgphicmkmdeiaaDoor
open Go.RowKit Go.Maps
attribute [local go_sem] Oper.semAt_some

/-- What Last answers. -/
def lastK (rs : List Px.Rec) (key : List UInt8) : List UInt8 × Bool := match rs.reverse.find? (fun r => r.1 == key) with | some r => (r.2, true) | none => ([], false)
/-- The k-th record from behind. -/
def behind (rs : List Px.Rec) (k : Nat) : Px.Rec := rs.getD (rs.length - 1 - k) ([], [])
theorem behind_eq (rs : List Px.Rec) (k : Nat) (hk : k < rs.length) : rs.reverse[k]'(by simpa using hk) = behind rs k := by
  unfold behind
  rw [List.getElem_reverse]
  simp [show rs.length - 1 - k < rs.length by omega]
theorem last_no {rs : List Px.Rec} {key : List UInt8} (h : ∀ j, j < rs.length → (behind rs j).1 ≠ key) : lastK rs key = ([], false) := by
  unfold lastK
  have : rs.reverse.find? (fun r => r.1 == key) = none := List.find?_eq_none.2 (fun r hr => by
    obtain ⟨i, hi, e⟩ := List.getElem_of_mem hr
    have hi2 : i < rs.length := by simpa using hi
    have := h i hi2
    rw [← behind_eq rs i hi2, e] at this
    simpa using this)
  rw [this]
theorem last_yes {rs : List Px.Rec} {key : List UInt8} {k : Nat} (hk : k < rs.length) (h : ∀ j, j < k → (behind rs j).1 ≠ key) (he : (behind rs k).1 = key) : lastK rs key = ((behind rs k).2, true) := by
  unfold lastK
  have : rs.reverse.find? (fun r => r.1 == key) = some (behind rs k) := by
    rw [List.find?_eq_some_iff_getElem]
    refine ⟨by simpa using he, k, by simpa using hk, behind_eq rs k hk, fun j hj => ?_⟩
    rw [behind_eq rs j (by omega)]
    simpa using h j hj
  rw [this]
theorem box_grown {A B : World} {row : Option Nat} {g : Nat} {t : TypeId} {v : Value} (h : Boxed A g t v) (hg : A.grownBy B row) (hr : ∀ r, row = some r → ∃ o : Obj, A.heap[r]? = some o ∧ o.isCells = false) : Boxed B g t v := by
  refine h.kept hg (fun e => ?_)
  obtain ⟨o, ho, hc⟩ := hr g e.symm
  have h3 : A.heap[g]? = some (.cells #[v] t (0, 0)) := h
  rw [ho] at h3; cases h3; cases hc
theorem cells_grown {A B : World} {row : Option Nat} {g : Nat} {t : TypeId} {vs : Array Value} (h : A.heap[g]? = some (.cells vs t (0, 0))) (hg : A.grownBy B row) (hr : ∀ r, row = some r → ∃ o : Obj, A.heap[r]? = some o ∧ o.isCells = false) : B.heap[g]? = some (.cells vs t (0, 0)) := by
  refine (hg.block g (Array.getElem?_eq_some_iff.1 h).1 (fun e => ?_)).trans h
  obtain ⟨o, ho, hc⟩ := hr g e.symm
  rw [ho] at h; cases h; cases hc
theorem below_put {G : Nat} (W : World) (D : Nat) (o : Obj) (h : G ≤ D) : Below G W (W.putObj D o) :=
  ⟨rfl, rfl, rfl, by simp, fun k hk => World.putObj_heap_other (by omega)⟩
structure LsRel (w : World) (G b : Nat) (key : ByteArray) (W : World) : Prop where
  r0 : Boxed W G 9 (.string key)
  r1 : Boxed W (G + 1) 9 (.string ⟨#[]⟩)
  r2 : Boxed W (G + 1 + 1) 4 (.bool false)
  below : Below G w W
  size : b ≤ W.heap.size
structure LsOut (w : World) (G : Nat) (v : ByteArray) (W : World) : Prop where
  r1 : Boxed W (G + 1) 9 (.string v)
  r2 : Boxed W (G + 1 + 1) 4 (.bool true)
  below : Below G w W
theorem LsRel.grown {w : World} {G b : Nat} {key : ByteArray} {A B : World} {row : Option Nat} (hw : G ≤ w.heap.size) (hb : G ≤ b) (h : LsRel w G b key A) (hg : A.grownBy B row) (hr : ∀ r, row = some r → b ≤ r ∧ ∃ o : Obj, A.heap[r]? = some o ∧ o.isCells = false) : LsRel w G b key B := by
  have hr2 := fun r e => (hr r e).2
  exact ⟨box_grown h.r0 hg hr2, box_grown h.r1 hg hr2, box_grown h.r2 hg hr2, h.below.grown hg (Nat.le_trans hw h.below.size) (fun r e => Nat.le_trans hb (hr r e).1), Nat.le_trans h.size hg.size⟩
theorem LsOut.grown {w : World} {G b : Nat} {v : ByteArray} {A B : World} {row : Option Nat} (hw : G ≤ w.heap.size) (hb : G ≤ b) (h : LsOut w G v A) (hg : A.grownBy B row) (hr : ∀ r, row = some r → b ≤ r ∧ ∃ o : Obj, A.heap[r]? = some o ∧ o.isCells = false) : LsOut w G v B := by
  have hr2 := fun r e => (hr r e).2
  exact ⟨box_grown h.r1 hg hr2, box_grown h.r2 hg hr2, h.below.grown hg (Nat.le_trans hw h.below.size) (fun r e => Nat.le_trans hb (hr r e).1)⟩
theorem back_row (n : Nat) (hn : 1 ≤ n) (S : Nat → Prop) (Bs cap : Nat) (p : Option Addr) (rs : List Px.Rec) (hreach : rs.length ≤ 1000000) (w1 : World) (hSb : ∀ q, q < w1.heap.size → S q → False) (hBs : w1.cell? ⟨Bs, 0, none⟩ = some (.slice p rs.length cap)) (hc : SlR w1 (.slice p rs.length cap) rs) (W : World) (hW : Below w1.heap.size w1 W) :
    SeqRowY Fence.wide n Tryd.prog 36 #[.pointer (some ⟨Bs, 0, none⟩)] (encR rs) Bs (OnlyS S) rs.length W := fun l J Jx _ hY h0 =>
  back1_in n hn S l Bs cap p rs hreach J Jx w1 W hSb hW hY hBs hc h0
def LastPost (rs : List Px.Rec) (key : List UInt8) (w : World) (e : Ending) (W : World) : Prop := e = .returned (.tuple #[.string ⟨(lastK rs key).1.toArray⟩, .bool (lastK rs key).2]) ∧ Below w.heap.size w W
set_option maxRecDepth 100000 in
set_option maxHeartbeats 4000000 in
theorem last_in (rs : List Px.Rec) (hn : rs.length ≤ 1000000) (v : Value) (key : List UInt8) (w : World) (hv : SlR w v rs) : CallsIn Fence.wide 8 Tryd.prog 13 #[v, .string ⟨key.toArray⟩] w (LastPost rs key w) := by
  unfold LastPost
  have h1 : 1 ≤ 8 := by decide
  obtain ⟨p, cap, rfl⟩ := hv.shape
  have HV := Lib.hid hv
  obtain ⟨n, hN⟩ : ∃ n, rs.length = n := ⟨_, rfl⟩
  have HN := Lib.hid hN
  rw [hN] at HV ⊢
  have HS : Hid (∀ w, _) := Lib.hid (fun w => backward_walk p n cap w)
  obtain ⟨bk, hbk⟩ : ∃ x, (⟨key.toArray⟩ : ByteArray) = x := ⟨_, rfl⟩
  have HBK := Lib.hid hbk
  rw [hbk]
  clear hbk hv hN
  refine callsIn_of_wp_marks Tryd.func13 rfl trivial ?_ rfl
  simp only [Tryd.ntmps13, List.size_toArray, List.length_cons, List.length_nil, Nat.reduceAdd, Nat.reduceSub, Array.replicate_succ, Array.replicate_zero, List.push_toArray, List.append_toArray, List.nil_append, List.cons_append]
  gi_wp2_with (refine ⟨trivial, ?_⟩; gi_at_call 27; refine (callsIn_wide.2 (HS.out _)).mono ?_; rintro e w' ⟨rfl, hw⟩; rw [hw]; clear hw)
  obtain ⟨w1, hw1⟩ : ∃ w1, (((w.alloc (.cells #[.string bk] 9)).alloc (.cells #[.string ⟨#[]⟩] 9)).alloc (.cells #[.bool false] 4)).alloc (.cells #[.slice p n cap] 22) = w1 := ⟨_, rfl⟩
  have hsz : w1.heap.size = w.heap.size + 1 + 1 + 1 + 1 := by rw [← hw1]; simp
  have hB1 : Below w.heap.size w w1 := by
    rw [← hw1]
    exact ((((Below.refl _ _).alloc (Nat.le_refl _) _).alloc (by simp) _).alloc (by simp; omega) _).alloc (by simp; omega) _
  have bx : ∀ (W : World) (t : TypeId) (v : Value) (k : Nat), W.heap.size = k → Boxed (W.alloc (.cells #[v] t)) k t v := fun W t v k h => by subst h; exact Boxed.new W t v
  have hb0 : Boxed w1 w.heap.size 9 (.string bk) := by rw [← hw1]; exact (((bx _ _ _ _ rfl).alloc _).alloc _).alloc _
  have hb1 : Boxed w1 (w.heap.size + 1) 9 (.string ⟨#[]⟩) := by rw [← hw1]; exact ((bx _ _ _ _ (by simp)).alloc _).alloc _
  have hb2 : Boxed w1 (w.heap.size + 1 + 1) 4 (.bool false) := by rw [← hw1]; exact (bx _ _ _ _ (by simp)).alloc _
  have hb3 : Boxed w1 (w.heap.size + 1 + 1 + 1) 22 (.slice p n cap) := by rw [← hw1]; exact bx _ _ _ _ (by simp)
  have hv1 := HV.out.below hB1 (Nat.le_refl _)
  rw [hw1]
  clear hw1 bx
  have hwG : w.heap.size ≤ w.heap.size := Nat.le_refl _
  obtain ⟨G, hG⟩ : ∃ G, w.heap.size = G := ⟨_, rfl⟩
  rw [hG] at hsz hB1 hb0 hb1 hb2 hb3 ⊢
  have hwG : G ≤ w.heap.size := by omega
  have hGb : G ≤ w1.heap.size := by omega
  refine wpIn_rangeRowY (F := Fence.wide) rfl h1 (gf := 36) (lb := #[.pointer (some ⟨G + 1 + 1 + 1, 0, none⟩)]) rfl trivial (enters_of Tryd.func36 (by kernel_rfl) rfl)
    (Kp := OnlyS (fun i => w1.heap.size ≤ i)) (N := rs.length) (encs := encR rs) (Bs := G + 1 + 1 + 1) (fun W hW => back_row 7 (by decide) (fun i => w1.heap.size ≤ i) (G + 1 + 1 + 1) cap p rs hn w1 (fun q h1 h2 => by omega) (by rw [HN.out]; exact hb3.cell) (by rw [HN.out]; exact hv1) W hW) (by omega)
    (fun h k => h.trans k) (fun W l o' h => only_put W l o' h) (fun _ => rfl)
    (fun k W => LsRel w G w1.heap.size bk W ∧ ∀ j, j < k → (behind rs j).1 ≠ key)
    (fun k W => LsOut w G ⟨(behind rs k).2.toArray⟩ W ∧ (∀ j, j < k → (behind rs j).1 ≠ key) ∧ (behind rs k).1 = key)
    (fun k A B row h hg hr => ⟨h.1.grown hwG hGb hg hr, h.2⟩) (fun k A B row h hg hr => ⟨h.1.grown hwG hGb hg hr, h.2⟩)
    (fun k W v h => ⟨⟨h.1.r0.other (by omega) _, h.1.r1.other (by omega) _, h.1.r2.other (by omega) _, h.1.below.setCell (p := ⟨G + 1 + 1 + 1, 0, none⟩) (by show G ≤ G + 1 + 1 + 1; omega) _, by simpa [World.setCell] using h.1.size⟩, h.2⟩)
    ⟨⟨hb0, hb1, hb2, hB1, Nat.le_refl _⟩, fun j hj => by omega⟩
    (fun ka W => (LsRel w G w1.heap.size bk W ∧ ∀ j, j < ka.1 → (behind rs j).1 ≠ key) ∧ ∃ c, w1.heap.size ≤ c ∧ W.heap[c]? = some (.cells #[.string ⟨(behind rs ka.1).1.toArray⟩, .string ⟨(behind rs ka.1).2.toArray⟩] 37 (0, 0)) ∧ ka.2 = { tmps := #[.slice p n cap, .string bk, undef, .pointer (some ⟨G, 0, none⟩), .pointer (some ⟨G + 1, 0, none⟩), .pointer (some ⟨G + 1 + 1, 0, none⟩), undef, .pointer (some ⟨c, 0, none⟩), .slice p n cap, .func (.func 36) #[] #[.pointer (some ⟨G + 1 + 1 + 1, 0, none⟩)], .int .i64 ((rs.length - 1 - ka.1 : Nat) : Int), .agg #[.string ⟨(behind rs ka.1).1.toArray⟩, .string ⟨(behind rs ka.1).2.toArray⟩], undef, undef, undef, undef, undef, undef], defers := [] })
    (fun ka A B row h hg hr => by
      obtain ⟨h1, c, h2, h3, h4⟩ := h
      exact ⟨⟨h1.1.grown hwG hGb hg hr, h1.2⟩, c, h2, cells_grown h3 hg (fun r e => (hr r e).2), h4⟩)
    ?assign ?body ?done ?stop
  case assign =>
    rintro l k W K ⟨hR, hno⟩ hk hK
    have hK2 := hK { tmps := #[.slice p n cap, .string bk, undef, .pointer (some ⟨G, 0, none⟩), .pointer (some ⟨G + 1, 0, none⟩), .pointer (some ⟨G + 1 + 1, 0, none⟩), undef, .pointer (some ⟨W.heap.size, 0, none⟩), .slice p n cap, .func (.func 36) #[] #[.pointer (some ⟨G + 1 + 1 + 1, 0, none⟩)], .int .i64 ((rs.length - 1 - k : Nat) : Int), .agg #[.string ⟨(behind rs k).1.toArray⟩, .string ⟨(behind rs k).2.toArray⟩], undef, undef, undef, undef, undef, undef], defers := [] } (W.alloc (.cells #[.string ⟨(behind rs k).1.toArray⟩, .string ⟨(behind rs k).2.toArray⟩] 37)) ((KeepsOthers.alloc _ _).from _) (OnlyS.of_below ((Below.refl _ _).alloc (Nat.le_refl _) _)) ⟨⟨hR.grown hwG hGb (World.grownBy_alloc W _ none) (fun r e => by cases e), hno⟩, W.heap.size, hR.size, heap_alloc_new W _, rfl⟩
    have HK := Lib.hid hK2
    clear hK hK2 hR hno hb0 hb1 hb2 hb3 hv1 hB1 HV HS
    unfold encR
    rw [show rs.getD (rs.length - 1 - k) ([], []) = behind rs k from rfl]
    generalize (⟨(behind rs k).1.toArray⟩ : ByteArray) = u1 at *
    generalize (⟨(behind rs k).2.toArray⟩ : ByteArray) = u2 at *
    generalize ((rs.length - 1 - k : Nat) : Int) = ix at *
    gi_wp2
    exact HK.out
  case body =>
    rintro l k a1 W ⟨⟨hR, hno⟩, c, hcb, hcc, hfr⟩ hk
    dsimp only at hno hcc hfr
    subst hfr
    have e0 : W.cell? ⟨c, 0, none⟩ = some (.string ⟨(behind rs k).1.toArray⟩) := (cell_of_row _ _ _ _ _ _ hcc).trans rfl
    have e1 : W.cell? ⟨c, 1, none⟩ = some (.string ⟨(behind rs k).2.toArray⟩) := (cell_of_row _ _ _ _ _ _ hcc).trans rfl
    have g0 := hR.r0.cell
    have g1 := hR.r1.cell
    have g1f := hR.r1.frozen
    have hx2 := hR.r2.other (B' := G + 1) (by omega) (.string ⟨(behind rs k).2.toArray⟩)
    have g2 := hx2.cell
    have g2f := hx2.frozen
    have hcmp : ((⟨(behind rs k).1.toArray⟩ : ByteArray).toList == bk.toList) = ((behind rs k).1 == key) := by
      rw [← HBK.out, Lib.toList_data, Lib.toList_data]
    have HQ : Hid ((behind rs k).1 = key → LsOut w G ⟨(behind rs k).2.toArray⟩ ((W.setCell ⟨G + 1, 0, none⟩ (.string ⟨(behind rs k).2.toArray⟩)).setCell ⟨G + 1 + 1, 0, none⟩ (.bool true)) ∧ KeepsFrom w1.heap.size W ((W.setCell ⟨G + 1, 0, none⟩ (.string ⟨(behind rs k).2.toArray⟩)).setCell ⟨G + 1 + 1, 0, none⟩ (.bool true)) ∧ (∀ j, j < k → (behind rs j).1 ≠ key) ∧ (behind rs k).1 = key) := Lib.hid (fun he =>
      ⟨⟨(hR.r1.set _).other (by omega) _, hx2.set _, (hR.below.setCell (p := ⟨G + 1, 0, none⟩) (by show G ≤ G + 1; omega) _).setCell (p := ⟨G + 1 + 1, 0, none⟩) (by show G ≤ G + 1 + 1; omega) _⟩, ((KeepsOthers.setCell _ _ _).trans (KeepsOthers.setCell _ _ _)).from _, hno, he⟩)
    have HR := Lib.hid (And.intro hR hno)
    clear hR hno hx2 hcc hb0 hb1 hb2 hb3 hv1 hB1 HV HS
    by_cases he : (behind rs k).1 = key
    · rw [show ((behind rs k).1 == key) = true by simpa using he] at hcmp
      have HQ2 : Hid (rowPostY w1.heap.size (OnlyS (fun i => w1.heap.size ≤ i)) (fun k W => LsRel w G w1.heap.size bk W ∧ ∀ j, j < k → (behind rs j).1 ≠ key) (fun k W => LsOut w G ⟨(behind rs k).2.toArray⟩ W ∧ (∀ j, j < k → (behind rs j).1 ≠ key) ∧ (behind rs k).1 = key) k W .ret { tmps := #[], defers := [] } ((W.setCell ⟨G + 1, 0, none⟩ (.string ⟨(behind rs k).2.toArray⟩)).setCell ⟨G + 1 + 1, 0, none⟩ (.bool true))) := Lib.hid
        (have h := HQ.out he; ⟨h.2.1, h.1, h.2.2.1, h.2.2.2⟩)
      clear HQ he HR
      generalize (⟨(behind rs k).1.toArray⟩ : ByteArray) = u1 at *
      generalize (⟨(behind rs k).2.toArray⟩ : ByteArray) = u2 at *
      gi_wp2
      exact HQ2.out
    · rw [show ((behind rs k).1 == key) = false by simpa using he] at hcmp
      have HE := Lib.hid he
      clear HQ he
      generalize (⟨(behind rs k).1.toArray⟩ : ByteArray) = u1 at *
      generalize (⟨(behind rs k).2.toArray⟩ : ByteArray) = u2 at *
      gi_wp2
      refine ⟨KeepsFrom.refl _ _, OnlyS.refl _ _, HR.out.1, fun j hj => ?_⟩
      rcases Nat.lt_succ_iff_lt_or_eq.1 hj with h | h
      · exact HR.out.2 j h
      · rw [h]; exact HE.out
  case done =>
    rintro D W hD ⟨hR, hno⟩ hK
    have hE := last_no hno
    have k1 : Boxed ((W.setCell ⟨G + 1, 0, none⟩ (.string ⟨#[]⟩)).setCell ⟨G + 1 + 1, 0, none⟩ (.bool false)) (G + 1) 9 (.string ⟨#[]⟩) := (hR.r1.set _).other (by omega) _
    have hx2 := hR.r2.other (B' := G + 1) (by omega) (.string ⟨#[]⟩)
    have k2 : Boxed ((W.setCell ⟨G + 1, 0, none⟩ (.string ⟨#[]⟩)).setCell ⟨G + 1 + 1, 0, none⟩ (.bool false)) (G + 1 + 1) 4 (.bool false) := hx2.set _
    have k3 : ((W.setCell ⟨G + 1, 0, none⟩ (.string ⟨#[]⟩)).setCell ⟨G + 1 + 1, 0, none⟩ (.bool false)).heap[D]? = some (.deferred (some [])) := ((heap_setCell_other _ _ _ _ (by show D ≠ G + 1 + 1; omega)).trans (heap_setCell_other _ _ _ _ (by show D ≠ G + 1; omega))).trans hK
    have hc3 := cell_kept k1.cell (grownBy_putObj' _ D (.deferred none)) (fun r e => by cases e; exact ⟨_, k3, rfl⟩)
    have hc4 := cell_kept k2.cell (grownBy_putObj' _ D (.deferred none)) (fun r e => by cases e; exact ⟨_, k3, rfl⟩)
    have hB3 := ((hR.below.setCell (p := ⟨G + 1, 0, none⟩) (by show G ≤ G + 1; omega) (.string ⟨#[]⟩)).setCell (p := ⟨G + 1 + 1, 0, none⟩) (by show G ≤ G + 1 + 1; omega) (.bool false)).trans (below_put _ D (.deferred none) (by omega))
    have g1 := hR.r1.cell
    have g1f := hR.r1.frozen
    have g2 := hx2.cell
    have g2f := hx2.frozen
    have H3 := Lib.hid (And.intro k3 (And.intro hc3 (And.intro hc4 hB3)))
    have HE := Lib.hid hE
    clear hR hno hK hE k1 k2 k3 hc3 hc4 hB3 hx2 hb0 hb1 hb2 hb3 hv1 hB1 HV HS
    gi_wp2
    obtain ⟨hK3, hc3, hc4, hB3⟩ := H3.out
    refine ⟨by simp, .inl ⟨_, _, rfl, run_takeDeferred hK3, ?_⟩⟩
    refine ⟨.tuple #[.string ⟨#[]⟩, .bool false], ?_, by rw [HE.out], by rw [hG]; exact hB3⟩
    simp [results, Tryd.f13, go_sem, hc3, hc4]
  case stop =>
    rintro D k W hD hk ⟨hR, hno, he⟩ hK
    have HE := Lib.hid (last_yes hk hno he)
    clear hno he hb0 hb1 hb2 hb3 hv1 hB1 HV HS
    gi_wp2
    refine ⟨by simp, .inl ⟨_, _, rfl, run_takeDeferred hK, ?_⟩⟩
    have hc5 := cell_kept hR.r1.cell (grownBy_putObj' _ D (.deferred none)) (fun r e => by cases e; exact ⟨_, hK, rfl⟩)
    have hc6 := cell_kept hR.r2.cell (grownBy_putObj' _ D (.deferred none)) (fun r e => by cases e; exact ⟨_, hK, rfl⟩)
    refine ⟨.tuple #[.string ⟨(behind rs k).2.toArray⟩, .bool true], ?_, by rw [HE.out], by rw [hG]; exact hR.below.trans (below_put W D _ (by omega))⟩
    simp [results, Tryd.f13, go_sem, hc5, hc6]
theorem last_walk (rs : List Px.Rec) (hn : rs.length ≤ 1000000) (v : Value) (key : List UInt8) (w : World) (hv : SlR w v rs) : Calls Tryd.prog 13 #[v, .string ⟨key.toArray⟩] w (LastPost rs key w) :=
  (callsIn_wide (n := 8)).1 (last_in rs hn v key w hv)
end Go.Proofs.YtjgphicmkmdeiaaDoor
