/-
  Merged, in the order in which they build: Lay.
-/
import Derived.Test.YtphdcgioeokfbaaDoorMg10
/-
  The contract of lay.
-/
namespace Go.Proofs.YtphdcgioeokfbaaDoor
open Go.RowKit Hf
attribute [local go_sem] Oper.semAt_some

/-- How many packages there are. -/
def pcs (es : List (Int × Bool)) : Nat := (es.filter (·.2)).length
theorem pcs_le (es : List (Int × Bool)) : pcs es ≤ es.length := List.length_filter_le _ _
theorem pcs_take_succ (es : List (Int × Bool)) (k : Nat) (hk : k < es.length) : pcs (es.take (k + 1)) = pcs (es.take k) + (if (es[k]).2 then 1 else 0) := by
  unfold pcs
  rw [List.take_add_one, List.getElem?_eq_getElem hk, List.filter_append, List.length_append]
  cases h : (es[k]).2 <;> simp [h]
/-- Each of these symbols has one more. -/
def bump (ss : List Nat) (lens : List Int) : List Int := ss.foldl (fun l s => l.set s (l.getD s 0 + 1)) lens
theorem bump_snoc (ss : List Nat) (s : Nat) (lens : List Int) : bump (ss ++ [s]) lens = (bump ss lens).set s ((bump ss lens).getD s 0 + 1) := by simp [bump]
theorem bump_length (ss : List Nat) (lens : List Int) : (bump ss lens).length = lens.length := by
  induction ss generalizing lens with
  | nil => rfl
  | cons s t ih => show (bump t _).length = _; rw [ih]; simp
/-- What is laid, and how many are taken, behind k rounds. -/
def stt (syms : List Nat) (lens : List Int) (ls : Nat → List (Int × Bool)) (L : Nat) : Nat → List Int × Nat
  | 0 => (lens, 2 * syms.length - 2)
  | k + 1 =>
    let st := stt syms lens ls L k
    let p := pcs ((ls (L - 1 - k)).take st.2)
    (bump (syms.take (st.2 - p)) st.1, 2 * p)
def sttOk (syms : List Nat) (lens : List Int) (ls : Nat → List (Int × Bool)) (L : Nat) : Prop :=
  ∀ k, k < L → (stt syms lens ls L k).2 ≤ (ls (L - 1 - k)).length ∧ (stt syms lens ls L k).2 - pcs ((ls (L - 1 - k)).take (stt syms lens ls L k).2) ≤ syms.length ∧ (∀ z ∈ (stt syms lens ls L k).1, 0 ≤ z ∧ z ≤ 65536) ∧ (ls (L - 1 - k)).length ≤ 65536
theorem bump_bound (ss : List Nat) (lens : List Int) (N : Int) (h : ∀ z ∈ lens, 0 ≤ z ∧ z ≤ N) : ∀ z ∈ bump ss lens, 0 ≤ z ∧ z ≤ N + (ss.length : Int) := by
  induction ss generalizing lens N with
  | nil => simpa [bump] using h
  | cons s t ih =>
    intro z hz
    have := ih (lens.set s (lens.getD s 0 + 1)) (N + 1) (fun y hy => by
      rcases List.mem_or_eq_of_mem_set hy with h1 | h1
      · have := h y h1; omega
      · by_cases hs : s < lens.length
        · have h2 := h lens[s] (List.getElem_mem hs)
          have e : lens.getD s 0 = lens[s] := by simp [hs]
          omega
        · have e : lens.getD s 0 = 0 := by simp [hs]
          have : lens.set s (lens.getD s 0 + 1) = lens := List.set_eq_of_length_le (by omega)
          rw [this] at hy
          have := h y hy; omega) z hz
    simp only [List.length_cons]
    omega
structure LayRel (S : Nat → Prop) (w W : World) (gl gt : Nat) (n : Nat) (st : List Int × Nat) : Prop where
  lens : W.heap[gl]? = some (.cells (ni st.1).toArray 3 (0, 0))
  taken : Boxed W gt 3 (.int .i64 (st.2 : Int))
  only : OnlyS S w W
  len : st.1.length = n
theorem LayRel.own {S : Nat → Prop} {w : World} {gl gt n : Nat} (st : Nat → List Int × Nat) (hgl : gl < w.heap.size) (hgt : gt < w.heap.size) (hS : ∀ i, w.heap.size ≤ i → S i) : OwnFrom w.heap.size (fun k W => LayRel S w W gl gt n (st k)) := fun k A B row h hg hr => by
  have key : ∀ i, i < w.heap.size → B.heap[i]? = A.heap[i]? := fun i hi => hg.block i (Nat.lt_of_lt_of_le hi h.only.size) (fun e => by have := (hr i e.symm).1; omega)
  exact ⟨(key gl hgl).trans h.lens, (key gt hgt).trans h.taken, h.only.trans (OnlyS.grown hg (fun i e => hS i (hr i e).1)), h.len⟩
/-- A round under way. -/
structure RoundRel (S : Nat → Prop) (w1 W wr : World) (gl gt : Nat) (n : Nat) (st : List Int × Nat) : Prop where
  lay : LayRel S w1 wr gl gt n st
  kp : OnlyS S W wr
  book : KeepsFrom w1.heap.size W wr
theorem RoundRel.alloc {S : Nat → Prop} {w1 W wr : World} {gl gt n : Nat} {st : List Int × Nat} (h : RoundRel S w1 W wr gl gt n st) (o : Obj) : RoundRel S w1 W (wr.alloc o) gl gt n st :=
  ⟨⟨(Below.heap_alloc _ _ _ (Array.getElem?_eq_some_iff.1 h.lay.lens).1).trans h.lay.lens, h.lay.taken.alloc _, h.lay.only.trans (OnlyS.alloc _ _), h.lay.len⟩, h.kp.trans (OnlyS.alloc _ _), h.book.trans ((KeepsOthers.alloc _ _).from _)⟩
theorem RoundRel.bumped {S : Nat → Prop} {w1 W wr : World} {gl gt n : Nat} {l : List Int} {t : Nat} (h : RoundRel S w1 W wr gl gt n (l, t)) (hS : S gl) (hne : gt ≠ gl) (s : Nat) (x : Int) : RoundRel S w1 W (wr.setCell ⟨gl, s, none⟩ (.int .i64 x)) gl gt n (l.set s x, t) :=
  ⟨⟨by rw [heap_setCell_same _ _ _ _ _ _ h.lay.lens]; simp [ni, List.map_set], (heap_setCell_other _ _ _ _ hne).trans h.lay.taken, h.lay.only.trans (OnlyS.setCell _ _ _ _ hS), by simpa using h.lay.len⟩, h.kp.trans (OnlyS.setCell _ _ _ _ hS), h.book.trans ((KeepsOthers.setCell _ _ _).from _)⟩
theorem RoundRel.took {S : Nat → Prop} {w1 W wr : World} {gl gt n : Nat} {l : List Int} {t : Nat} (h : RoundRel S w1 W wr gl gt n (l, t)) (hS : S gt) (hne : gl ≠ gt) (t' : Nat) : RoundRel S w1 W (wr.setCell ⟨gt, 0, none⟩ (.int .i64 (t' : Int))) gl gt n (l, t') :=
  ⟨⟨(heap_setCell_other _ _ _ _ hne).trans h.lay.lens, (heap_setCell_same _ _ _ _ _ _ h.lay.taken).trans rfl, h.lay.only.trans (OnlyS.setCell _ _ _ _ hS), h.lay.len⟩, h.kp.trans (OnlyS.setCell _ _ _ _ hS), h.book.trans ((KeepsOthers.setCell _ _ _).from _)⟩
theorem slice_toE {w : World} {p : Option Addr} {n cap : Nat} {es : List (Int × Bool)} (h : SlE w (.slice p n cap) es) (hn : es.length = n) (k : Nat) (hk : k ≤ n) : ∀ w', (Instr.sliceAt 138 (.slice p n cap) none (some (.int .i64 (k : Int))) none).run Tryd.prog w' = .ok (.slice p k cap) w' := by
  intro w'
  obtain ⟨_, ⟨g, o, cap', h, h2, _⟩ | ⟨p', h, h3⟩⟩ := h
  · have hc : n ≤ cap := by cases h; exact h2
    have hp : p = some ⟨g, o, none⟩ := by cases h; rfl
    subst hp
    clear h
    have h1 : (0 : Int) ≤ (k : Int) := by omega
    have h2 : (k : Int) ≤ (cap : Int) := by omega
    go_simp
  · have hc : cap = 0 ∧ p = p' := by cases h; exact ⟨rfl, rfl⟩
    obtain ⟨rfl, rfl⟩ := hc
    obtain rfl : n = 0 := by omega
    obtain rfl : k = 0 := by omega
    show (Instr.sliceAt 138 (.slice p 0 0) none (some (.int .i64 0)) none).run Tryd.prog w' = .ok (.slice p 0 0) w'
    cases p with
    | none => kernel_rfl
    | some a => kernel_rfl
theorem slice_toI {w : World} {p : Option Addr} {n cap : Nat} {vs : List Value} (h : SlV w (.slice p n cap) vs) (k : Nat) (hk : k ≤ n) : ∀ w', (Instr.sliceAt 91 (.slice p n cap) none (some (.int .i64 (k : Int))) none).run Tryd.prog w' = .ok (.slice p k cap) w' := by
  intro w'
  have hc := h.le
  rcases h with ⟨g, o, cap', h, _, _⟩ | ⟨p', h, _⟩
  · have hp : p = some ⟨g, o, none⟩ := by cases h; rfl
    subst hp
    clear h
    have h1 : (0 : Int) ≤ (k : Int) := by omega
    have h2 : (k : Int) ≤ (cap : Int) := by omega
    go_simp
  · have hc : cap = 0 ∧ p = p' ∧ n = 0 := by cases h; exact ⟨rfl, rfl, rfl⟩
    obtain ⟨rfl, rfl, rfl⟩ := hc
    obtain rfl : k = 0 := by omega
    show (Instr.sliceAt 91 (.slice p 0 0) none (some (.int .i64 0)) none).run Tryd.prog w' = .ok (.slice p 0 0) w'
    cases p with
    | none => kernel_rfl
    | some a => kernel_rfl
theorem only_putObj {S : Nat → Prop} (W : World) (l : Nat) (o : Obj) (h : S l) : OnlyS S W (W.putObj l o) :=
  ⟨rfl, rfl, rfl, by simp, fun k _ hk => World.putObj_heap_other (fun e => hk (by rw [e]; exact h))⟩
set_option maxRecDepth 100000 in
set_option maxHeartbeats 4000000 in
theorem lay_in (n : Nat) (hn : 3 ≤ n) (w : World) (gl b cap cl : Nat) (lens : List Int) (vsym : Value) (syms : List Nat) (vs : List Value) (ls : Nat → List (Int × Bool))
    (hl : w.heap[gl]? = some (.cells (ni lens).toArray 3 (0, 0))) (hsy : SlV w vsym (ni (nsy syms))) (hss : ∀ p m c, vsym = .slice (some p) m c → 0 < m → p.block ≠ gl) (hin : ∀ s ∈ syms, s < lens.length) (hsl : syms.length ≤ 1024) (hs1 : 1 ≤ syms.length)
    (hb : b ≠ gl ∧ b < w.heap.size) (hreach : vs.length ≤ 64) (hI : ∀ j u, vs[j]? = some u → w.cell? ⟨b, j, none⟩ = some u) (he : ∀ j u, vs[j]? = some u → w.ownsRow 0 140 2 u (ls j).length (ne (ls j)))
    (hok : sttOk syms lens ls vs.length) :
    CallsIn Fence.wide n Tryd.prog 67 #[.slice (some ⟨gl, 0, none⟩) lens.length cl, vsym, .slice (some ⟨b, 0, none⟩) vs.length cap] w fun e W =>
      e = .returned (.tuple #[]) ∧ W.heap[gl]? = some (.cells (ni (stt syms lens ls vs.length vs.length).1).toArray 3 (0, 0)) ∧ OnlyS (fun i => i = gl ∨ w.heap.size ≤ i) w W := by
  have h1 : 1 ≤ n := by omega
  obtain ⟨psy, csy, rfl⟩ := hsy.shape
  obtain ⟨m, hm⟩ : ∃ m, m = syms.length := ⟨_, rfl⟩
  have hnl : (ni (nsy syms)).length = m := by rw [hm]; simp [nsy]
  rw [hnl] at hsy hss ⊢
  have HM := Lib.hid hm
  clear hm
  refine callsIn_of_wp_marks Tryd.func67 rfl trivial ?_ rfl
  simp only [Tryd.ntmps67, List.size_toArray, List.length_cons, List.length_nil, Nat.reduceAdd, Nat.reduceSub, Array.replicate_succ, Array.replicate_zero, List.push_toArray, List.append_toArray, List.nil_append, List.cons_append]
  have hm1 : m ≤ 1024 := by have := HM.out; omega
  gi_wp2_with (refine ⟨trivial, ?_⟩; gi_at_call 77; refine (backward_in Fence.wide (n - 1) trivial rfl _ _ _ _).mono ?_; rintro e w' ⟨rfl, rfl⟩)
  obtain ⟨w1, hw1⟩ : ∃ w1, w1 = (((w.alloc (.cells #[.slice (some ⟨gl, 0, none⟩) lens.length cl] 91)).alloc (.cells #[.slice psy m csy] 91)).alloc (.cells #[.int .i64 (2 * (m : Int) - 2)] 3)).alloc (.cells #[.slice (some ⟨b, 0, none⟩) vs.length cap] 126) := ⟨_, rfl⟩
  have hsz : w1.heap.size = w.heap.size + 1 + 1 + 1 + 1 := by rw [hw1]; simp
  have hB1 : Below w.heap.size w w1 := by rw [hw1]; exact ((((Below.refl _ _).alloc (Nat.le_refl _) _).alloc (by simp) _).alloc (by simp; omega) _).alloc (by simp; omega) _
  have hbx0 : Boxed w1 w.heap.size 91 (.slice (some ⟨gl, 0, none⟩) lens.length cl) := by rw [hw1]; exact (((Boxed.new _ _ _).alloc _).alloc _).alloc _
  have hbx1 : Boxed w1 (w.heap.size + 1) 91 (.slice psy m csy) := by
    have := Boxed.new (w.alloc (.cells #[.slice (some ⟨gl, 0, none⟩) lens.length cl] 91)) 91 (.slice psy m csy)
    rw [World.size_alloc] at this
    rw [hw1]; exact (this.alloc _).alloc _
  have hbx2 : Boxed w1 (w.heap.size + 1 + 1) 3 (.int .i64 (2 * (m : Int) - 2)) := by
    have := Boxed.new ((w.alloc (.cells #[.slice (some ⟨gl, 0, none⟩) lens.length cl] 91)).alloc (.cells #[.slice psy m csy] 91)) 3 (.int .i64 (2 * (m : Int) - 2))
    rw [World.size_alloc, World.size_alloc] at this
    rw [hw1]; exact this.alloc _
  have hbx3 : Boxed w1 (w.heap.size + 1 + 1 + 1) 126 (.slice (some ⟨b, 0, none⟩) vs.length cap) := by
    have := Boxed.new (((w.alloc (.cells #[.slice (some ⟨gl, 0, none⟩) lens.length cl] 91)).alloc (.cells #[.slice psy m csy] 91)).alloc (.cells #[.int .i64 (2 * (m : Int) - 2)] 3)) 126 (.slice (some ⟨b, 0, none⟩) vs.length cap)
    rw [World.size_alloc, World.size_alloc, World.size_alloc] at this
    rw [hw1]; exact this
  rw [← hw1]
  clear hw1
  have hglw : gl < w.heap.size := (Array.getElem?_eq_some_iff.1 hl).1
  obtain ⟨G, hG⟩ : ∃ G, G = w.heap.size := ⟨_, rfl⟩
  rw [← hG] at hsz hB1 hbx0 hbx1 hbx2 hbx3 hglw hb ⊢
  obtain ⟨S, hS⟩ : ∃ S : Nat → Prop, S = fun i => i = gl ∨ i = G + 1 + 1 ∨ w1.heap.size ≤ i := ⟨_, rfl⟩
  have hl1 : w1.heap[gl]? = some (.cells (ni lens).toArray 3 (0, 0)) := (hB1.block gl hglw).trans hl
  have hI1 : ∀ j u, vs[j]? = some u → w1.cell? ⟨b, j, none⟩ = some u := fun j u hu => (hB1.cell (p := ⟨b, j, none⟩) hb.2).trans (hI j u hu)
  have he1 : ∀ j u, vs[j]? = some u → w1.ownsRow 0 140 2 u (ls j).length (ne (ls j)) := fun j u hu => own_staysK (he j u hu) (fun i hi => hB1.block i (by rw [hG]; exact ((he j u hu).lt i hi).2))
  have hsy1 : SlV w1 (.slice psy m csy) (ni (nsy syms)) := hsy.below hB1 (by omega)
  have hsym : 2 * (m : Int) - 2 = ((2 * m - 2 : Nat) : Int) := by have := HM.out; omega
  refine wpIn_rangeRow (F := Fence.wide) rfl h1 (gf := 88) (lb := #[.pointer (some ⟨G + 1 + 1 + 1, 0, none⟩)]) rfl trivial (enters_of Tryd.func88 (by kernel_rfl) rfl)
    (Kp := OnlyS S) (N := vs.length) (encs := encB vs) (fun W hW => back_row Fence.wide (n - 1) trivial rfl (by omega) S (G + 1 + 1 + 1) b cap vs hreach w1 (by rw [hS]; omega) (by rw [hS]; omega) hbx3.cell hI1 W hW)
    (fun h k => h.trans k) (fun W l o' h => only_putObj W l o' (by rw [hS]; exact .inr (.inr h))) (fun _ => rfl)
    (fun k W => LayRel S w1 W gl (G + 1 + 1) lens.length (stt syms lens ls vs.length k))
    (LayRel.own _ (by omega) (by omega) (fun i h => by rw [hS]; exact .inr (.inr h)))
    ⟨hl1, by have := hbx2; rw [hsym] at this; have hm' := HM.out; show Boxed w1 _ 3 (.int .i64 ((2 * syms.length - 2 : Nat) : Int)); rw [← hm']; exact this, OnlyS.refl _ _, rfl⟩
    (fun k => { tmps := #[.slice (some ⟨gl, 0, none⟩) lens.length cl, .slice psy m csy, .slice (some ⟨b, 0, none⟩) vs.length cap, .pointer (some ⟨G, 0, none⟩), .pointer (some ⟨G + 1, 0, none⟩), undef, .pointer (some ⟨G + 1 + 1, 0, none⟩), undef, vs.getD (vs.length - 1 - k) undef, undef, undef, undef, undef, undef, .slice psy m csy, .int .i64 (m : Int), .int .i64 (2 * (m : Int)), .int .i64 (2 * (m : Int) - 2), .slice (some ⟨b, 0, none⟩) vs.length cap, .func (.func 88) #[] #[.pointer (some ⟨G + 1 + 1 + 1, 0, none⟩)], .int .i64 ((vs.length - 1 - k : Nat) : Int), vs.getD (vs.length - 1 - k) undef, undef, undef, undef, undef, undef, undef, undef, undef, undef, undef, undef, undef, undef, undef, undef, undef, undef, undef, undef, undef, undef, undef, undef, undef, undef, undef, undef, undef, undef, undef, undef, undef], defers := [] }) ?assign ?body ?done
  case assign =>
    intro l k W K hk hK
    unfold encB
    revert hK
    generalize vs.getD (vs.length - 1 - k) undef = u
    generalize ((vs.length - 1 - k : Nat) : Int) = q
    intro hK
    have hG' := Lib.hid hG
    clear hsym hG hS
    gi_wp2
    exact hK
  case body =>
    intro l k W hR hk
    have hj : vs.length - 1 - k < vs.length := by omega
    have hvj := List.getElem?_eq_getElem hj
    have hgd : vs.getD (vs.length - 1 - k) undef = vs[vs.length - 1 - k] := by simp [hj]
    have hOj := he1 _ _ hvj
    dsimp only
    rw [hgd]
    generalize vs[vs.length - 1 - k] = u at *
    clear hgd hvj
    obtain ⟨pu, cu, rfl⟩ := own_shape hOj
    obtain ⟨ho1, ho2, ho3, ho4⟩ := hok k hk
    have HSUC := Lib.hid (show stt syms lens ls vs.length (k + 1) = (bump (syms.take ((stt syms lens ls vs.length k).2 - pcs ((ls (vs.length - 1 - k)).take (stt syms lens ls vs.length k).2))) (stt syms lens ls vs.length k).1, 2 * pcs ((ls (vs.length - 1 - k)).take (stt syms lens ls vs.length k).2)) from rfl)
    have hOE := own_E hOj rfl
    generalize ls (vs.length - 1 - k) = es at *
    generalize hst : stt syms lens ls vs.length k = st at *
    obtain ⟨lk, tk⟩ := st
    simp only at ho1 ho2 ho3 HSUC
    have HSE := slice_toE hOE rfl tk ho1
    have HSI := slice_toI hsy1 (tk - pcs (es.take tk)) (by rw [HM.out]; exact ho2)
    have hpt : pcs (es.take tk) ≤ tk := by have := pcs_le (es.take tk); rw [List.length_take] at this; omega
    have hRR : RoundRel S w1 W W gl (G + 1 + 1) lens.length (lk, tk) := ⟨hR, OnlyS.refl _ _, KeepsFrom.refl _ _⟩
    have hct := hR.taken.cell
    have hcb0 := (Boxed.cell ((hR.only.block _ hbx0.lt (by rw [hS]; omega)).trans hbx0) : W.cell? ⟨G, 0, none⟩ = _)
    have hcb1 := (Boxed.cell ((hR.only.block _ hbx1.lt (by rw [hS]; omega)).trans hbx1) : W.cell? ⟨G + 1, 0, none⟩ = _)
    have HPB : Hid (∀ a, pu = some a → ¬ S a.block) := Lib.hid (fun a ha hSa => by
      obtain ⟨_, ⟨e1, _⟩ | ⟨g0, c0, cur, e1, e2, e3, _⟩⟩ := hOj
      · injection e1 with e1 _ _
        rw [e1] at ha; cases ha
      · injection e1 with e1 _ _
        rw [e1] at ha; cases ha
        rw [hS] at hSa
        rcases hSa with h | h | h
        · simp only at h; subst h; rw [hl1] at e3; simp at e3
        · simp only at h; subst h; rw [show w1.heap[_]? = _ from hbx2] at e3; simp at e3
        · have := (Array.getElem?_eq_some_iff.1 e3).1; simp only at h; omega)
    have HSB : Hid (∀ g0 o0, psy = some ⟨g0, o0, none⟩ → 0 < m → RowAt w g0 o0 (ni (nsy syms)) → ¬ S g0) := Lib.hid (fun g0 o0 ha hm0 hrow hSa => by
      have h1 := hss _ _ _ (by rw [ha]) hm0
      have h2 := hrow.lt (by rw [hnl]; exact hm0)
      rw [hS] at hSa
      simp only at h1
      omega)
    have HSW := Lib.hid hsy
    have HRR := Lib.hid hRR
    have HFX := Lib.hid (And.intro hG (And.intro hsz (And.intro hsym (And.intro hst (And.intro hl hl1)))))
    have HSX := Lib.hid hS
    have HES := Lib.hid hOE
    have HSY := Lib.hid hsy1
    have HO3 := Lib.hid ho3
    have HIN := Lib.hid hin
    have hglS : S gl := by rw [hS]; exact .inl rfl
    have hgtS : S (G + 1 + 1) := by rw [hS]; exact .inr (.inl rfl)
    have hSge : ∀ i, w1.heap.size ≤ i → S i := fun i h => by rw [hS]; exact .inr (.inr h)
    have HNS : Hid (¬ S G ∧ ¬ S (G + 1)) := Lib.hid (by rw [hS]; omega)
    have HB3 := Lib.hid (And.intro hbx0 hbx1)
    clear hRR hG hsz hsym hst hl hl1 hS hOE hsy1 ho3 hin hbx0 hbx1 hbx2 hbx3 hI hI1 he he1 hok hsy hss hB1 hOj hR hj
    have hmi : (m : Int) ≤ 1024 := by omega
    have htk : tk ≤ 65536 := by omega
    gi_wp2
    gi_loopw [9, 11, 26] (fun v9 _ v26 wr => ∃ q : Nat, q ≤ tk ∧ v26 = .int .i64 q ∧ v9 = .int .i64 (pcs (es.take q) : Nat) ∧ RoundRel S w1 W wr gl (G + 1 + 1) lens.length (lk, tk)) (fun _ _ v26 _ => tk - (intOf v26).toNat)
    case atStart => exact ⟨0, Nat.zero_le _, rfl, by simp [pcs], HRR.out⟩
    case round =>
      clear HRR hct hcb0 hcb1
      obtain ⟨q, hq, rfl, rfl, hR2⟩ := hrel
      have HR2 := Lib.hid hR2
      clear hR2
      by_cases hlt : q < tk
      · have hlti : (q : Int) < (tk : Int) := by omega
        have hqe : q < es.length := by omega
        obtain ⟨g0, o0, hpu, hcap, hat⟩ := HES.out.at (by omega)
        subst hpu
        have hns := HPB.out _ rfl
        have hc0 := HR2.out.lay.only.cell (hat q es[q] (List.getElem?_eq_getElem hqe)).1 hns
        have hc1 := HR2.out.lay.only.cell (hat q es[q] (List.getElem?_eq_getElem hqe)).2 hns
        have HPS := Lib.hid (pcs_take_succ es q hqe)
        have hpq : pcs (es.take q) ≤ q := by have := pcs_le (es.take q); rw [List.length_take] at this; omega
        clear hat hns
        generalize es[q] = e at *
        obtain ⟨ec, ep⟩ := e
        simp only at hc0 hc1 HPS
        generalize pcs (es.take q) = pq at *
        have HR3 := Lib.hid (HR2.out.alloc (.cells #[.int .i64 ec, .bool ep] 140))
        clear HR2
        have hw64 : wrap64 ((pq : Int) + 1) = (pq : Int) + 1 := by unfold wrap64; omega
        cases ep with
        | true =>
          gi_wp2
          go_roundw
          case rel => exact ⟨q + 1, by omega, by go_num, by rw [HPS.out, hw64, if_pos rfl]; rfl, HR3.out⟩
          case measure => simp [intOf]; omega
        | false =>
          gi_wp2
          go_roundw
          case rel => exact ⟨q + 1, by omega, by go_num, by rw [HPS.out]; rfl, HR3.out⟩
          case measure => simp [intOf]; omega
      · have hlti : (tk : Int) ≤ (q : Int) := by omega
        obtain rfl : q = tk := by omega
        obtain ⟨t2, ht2⟩ : ∃ t2, t2 = q - pcs (es.take q) := ⟨_, rfl⟩
        rw [← ht2] at HSI ho2 HSUC
        have hti : (q : Int) - (pcs (es.take q) : Nat) = (t2 : Int) := by omega
        have HT2 := Lib.hid ht2
        clear ht2
        generalize pcs (es.take q) = pq at *
        have hct := HR2.out.lay.taken.cell
        have hcb1 := (Boxed.cell ((HR2.out.lay.only.block _ HB3.out.2.lt HNS.out.2).trans HB3.out.2) : wr.cell? ⟨G + 1, 0, none⟩ = _)
        have hpq2 : pq ≤ 65536 := by omega
        gi_wp2
        gi_loopw [13, 41] (fun _ v41 wr => ∃ q2 : Nat, q2 ≤ t2 ∧ v41 = .int .i64 q2 ∧ RoundRel S w1 W wr gl (G + 1 + 1) lens.length (bump (syms.take q2) lk, q)) (fun _ v41 _ => t2 - (intOf v41).toNat)
        case atStart => exact ⟨0, Nat.zero_le _, rfl, HR2.out⟩
        case round =>
          clear HR2 hct hcb1
          obtain ⟨q2, hq2, rfl, hR4⟩ := hrel
          have HR4 := Lib.hid hR4
          clear hR4
          by_cases hlt2 : q2 < t2
          · have hlti2 : (q2 : Int) < (t2 : Int) := by omega
            have hqs : q2 < syms.length := by omega
            have hmp : 0 < m := by have := HM.out; omega
            obtain ⟨g0, o0, hpsy, hrow⟩ := HSY.out.some hmp
            obtain ⟨g9, o9, hpsy9, hrow9⟩ := HSW.out.some hmp
            have hsame : g9 = g0 ∧ o9 = o0 := by rw [hpsy] at hpsy9; cases hpsy9; exact ⟨rfl, rfl⟩
            obtain ⟨rfl, rfl⟩ := hsame
            have hns := HSB.out g9 o9 hpsy hmp hrow9
            subst hpsy
            have hcs := HSY.out.le
            have hc0 := HR4.out.lay.only.cell (hrow.ni q2 (by simp [nsy]; exact hqs)) hns
            rw [show (nsy syms).getD q2 0 = ((syms[q2] : Nat) : Int) by simp [nsy, hqs]] at hc0
            have hsm := HIN.out syms[q2] (List.getElem_mem hqs)
            have HBS : Hid (bump (syms.take (q2 + 1)) lk = (bump (syms.take q2) lk).set syms[q2] ((bump (syms.take q2) lk).getD syms[q2] 0 + 1)) := Lib.hid (by
              rw [List.take_add_one, List.getElem?_eq_getElem hqs]; exact bump_snoc _ _ _)
            generalize syms[q2] = s at *
            have hbl : s < (bump (syms.take q2) lk).length := by rw [HR4.out.lay.len]; exact hsm
            have hbb := bump_bound (syms.take q2) lk 65536 HO3.out (bump (syms.take q2) lk)[s] (List.getElem_mem hbl)
            have htl : ((syms.take q2).length : Int) ≤ 65536 := by rw [List.length_take]; omega
            have he0 : (bump (syms.take q2) lk).getD s 0 = (bump (syms.take q2) lk)[s] := by simp [hbl]
            have hc1 : wr.cell? ⟨gl, s, none⟩ = some (.int .i64 ((bump (syms.take q2) lk).getD s 0)) := by
              rw [cell_of_row _ _ _ _ _ _ HR4.out.lay.lens]; simp [ni, hbl]
            have hf1 : wr.frozen? ⟨gl, s, none⟩ = false := frozen_of_row _ _ _ _ _ HR4.out.lay.lens
            have HR5 := Lib.hid (HR4.out.bumped hglS (by omega) s ((bump (syms.take q2) lk).getD s 0 + 1))
            rw [← HBS.out] at HR5
            rw [← he0] at hbb
            generalize (bump (syms.take q2) lk).getD s 0 = z at *
            have hcb0 := (Boxed.cell ((HR4.out.lay.only.block _ HB3.out.1.lt HNS.out.1).trans HB3.out.1) : wr.cell? ⟨G, 0, none⟩ = _)
            have hsmi : (s : Int) < (lens.length : Int) := by omega
            have hw64 : wrap64 (z + 1) = z + 1 := by unfold wrap64; omega
            clear HR4 hrow hrow9 hpsy9 hbl HBS he0 hns
            gi_wp2
            go_roundw
            case rel => exact ⟨q2 + 1, by omega, by go_num, HR5.out⟩
            case measure => simp [intOf]; omega
          · have hlti2 : (t2 : Int) ≤ (q2 : Int) := by omega
            obtain rfl : q2 = t2 := by omega
            have hct := HR4.out.lay.taken.cell
            have hft := HR4.out.lay.taken.frozen
            have HR5 := Lib.hid (HR4.out.took hgtS (by omega) (2 * pq))
            clear HR4
            gi_wp2
            rw [show 2 * (pq : Int) = ((2 * pq : Nat) : Int) by omega]
            exact ⟨HR5.out.book, HR5.out.kp, by show LayRel S w1 _ gl (G + 1 + 1) lens.length (stt syms lens ls vs.length (k + 1)); rw [HSUC.out]; exact HR5.out.lay⟩
  case done =>
    intro D W hD hR hK
    gi_wp2
    refine ⟨by simp, .inl ⟨_, _, rfl, run_takeDeferred hK, ?_⟩⟩
    refine ⟨_, results_none rfl _ _ _, rfl, ?_, ?_⟩
    · rw [World.putObj_heap_other (by omega)]; exact hR.lens
    · have h2 : OnlyS (fun i => i = gl ∨ w.heap.size ≤ i) w w1 := OnlyS.of_below (by rw [← hG]; exact hB1)
      have h3 : OnlyS (fun i => i = gl ∨ w.heap.size ≤ i) w W := h2.trans' hR.only (fun i h => by rw [hS] at h; rcases h with h | h | h <;> omega)
      exact h3.trans' (only_putObj (S := (· = D)) W D _ rfl) (fun i h => by omega)
end Go.Proofs.YtphdcgioeokfbaaDoor
