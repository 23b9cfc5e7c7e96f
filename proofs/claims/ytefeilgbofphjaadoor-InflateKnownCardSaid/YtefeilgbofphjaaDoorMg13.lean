/-
  Merged, in the order in which they build: Dyn0 Dyn Rep Cat Fixed.
-/
import Derived.Shelf.Bits.Mul64
import Derived.Laws.CopyOwn
import Derived.Deep.RegionLaw
import Derived.Lib.AppendZeros
import Derived.Test.YtefeilgbofphjaaDoorMg12
/-
  Parts of rows of numbers; the books of a dynamic block, as mathematics and in memory.
-/
namespace Go.Proofs.YtefeilgbofphjaaDoor
open Go.RowKit
theorem from53 {w : World} {p : Option Addr} {n cap : Nat} {vs : List Value} (h : SlV w (.slice p n cap) vs) (i : Nat) (hj : i ≤ n) :
    ∃ p', (∀ w', (Instr.sliceAt 53 (.slice p n cap) (some (.int .i64 (i : Int))) none none).run Tryd.prog w' = .ok (.slice p' (n - i) (cap - i)) w') ∧ SlV w (.slice p' (n - i) (cap - i)) (vs.drop i) ∧ ∀ b, p' = some b → ∃ a, p = some a ∧ a.block = b.block := by
  rcases h with ⟨g, o, cap', h, h2, hB⟩ | ⟨p', h, rfl⟩
  · cases h
    have hl : (vs.drop i).length = vs.length - i := by simp
    have h1 : (0 : Int) ≤ (i : Int) := by omega
    have h3 : (i : Int) ≤ (vs.length : Int) := by omega
    have h4 : (vs.length : Int) ≤ (cap : Int) := by omega
    by_cases hck : cap = i
    · have hji : vs.length = i := by omega
      have hz : vs.length - i = 0 := by omega
      have hd : vs.drop i = [] := List.drop_eq_nil_of_le (by omega)
      have hc : cap - i = 0 := by omega
      rw [hz, hd, hc]
      refine ⟨some ⟨g, o, none⟩, fun w' => ?_, .inr ⟨some ⟨g, o, none⟩, rfl, rfl⟩, fun b hb => ⟨_, rfl, by cases hb; rfl⟩⟩
      subst hck
      rw [hji]
      go_simp
    · refine ⟨some ⟨g, o + i, none⟩, fun w' => ?_, .inl ⟨g, o + i, cap - i, by rw [hl], by rw [hl]; omega, hB.drop i⟩, fun b hb => ⟨_, rfl, by cases hb; rfl⟩⟩
      go_simp
  · have h0 : n = 0 ∧ cap = 0 ∧ p' = p := by cases h; exact ⟨rfl, rfl, rfl⟩
    obtain ⟨rfl, rfl, rfl⟩ := h0
    obtain rfl : i = 0 := by omega
    refine ⟨p', fun w' => ?_, .inr ⟨p', rfl, by simp⟩, fun b hb => ⟨b, hb, rfl⟩⟩
    show (Instr.sliceAt 53 (.slice p' 0 0) (some (.int .i64 0)) none none).run Tryd.prog w' = .ok (.slice p' 0 0) w'
    cases p' with
    | none => kernel_rfl
    | some a => kernel_rfl
theorem to53 {w : World} {p : Option Addr} {n cap : Nat} {vs : List Value} (h : SlV w (.slice p n cap) vs) (k : Nat) (hk : k ≤ n) : ∀ w', (Instr.sliceAt 53 (.slice p n cap) none (some (.int .i64 (k : Int))) none).run Tryd.prog w' = .ok (.slice p k cap) w' := by
  intro w'
  have hc := h.le
  rcases h with ⟨g, o, cap', h, _, _⟩ | ⟨p', h, _⟩
  · have hp : p = some ⟨g, o, none⟩ := by cases h; rfl
    subst hp
    clear h
    have h1 : (0 : Int) ≤ (k : Int) := by omega
    have h2 : (k : Int) ≤ (cap : Int) := by omega
    go_simp
  · have hc : cap = 0 ∧ p = p' ∧ n = 0 := by cases h; exact ⟨rfl, rfl, rfl⟩
    obtain ⟨rfl, rfl, rfl⟩ := hc
    obtain rfl : k = 0 := by omega
    show (Instr.sliceAt 53 (.slice p 0 0) none (some (.int .i64 0)) none).run Tryd.prog w' = .ok (.slice p 0 0) w'
    cases p with
    | none => kernel_rfl
    | some a => kernel_rfl

theorem lens_len (zs : List Int) (many : Nat) : ∀ (f : Nat) (ahead l : List Int) (r r' : List Bool), Inf.lens zs many f ahead r = .ok (l, r') → l.length = many
  | 0, ahead, l, r, r', h => by rw [Inf.lens] at h; cases h
  | f + 1, ahead, l, r, r', h => by
    rw [Inf.lens] at h
    split at h
    · cases hr : Inf.run zs ahead r with
      | error e => rw [hr] at h; cases h
      | ok p =>
        obtain ⟨⟨z, t⟩, r2⟩ := p
        rw [hr] at h
        exact lens_len zs many f _ l r2 r' h
    · split at h
      · cases h
      · cases h; omega
def finB (n : Nat) (all : List Int) (r : List Bool) : Inf.Res (List Int × List Int) :=
  if all.getD 256 0 = 0 then .error 20 else
  match Inf.book (all.take n) with
  | .ok _ => (match Inf.book (all.drop n) with | .ok _ => .ok ((all.take n, all.drop n), r) | .error e => .error e)
  | .error e => .error e
def lenB (n m : Nat) (zs : List Int) (r : List Bool) : Inf.Res (List Int × List Int) :=
  match Inf.lens zs (n + m) (n + m + 1) [] r with
  | .ok (all, r) => finB n all r
  | .error e => .error e
def telB (n m told : Nat) (r : List Bool) : Inf.Res (List Int × List Int) :=
  match tellR told r with
  | .ok (zs, r) => lenB n m zs r
  | .error e => .error e
def headB (l d c : Nat) (r : List Bool) : Inf.Res (List Int × List Int) := if 286 < 257 + l ∨ 30 < 1 + d then .error 20 else telB (257 + l) (1 + d) (4 + c) r
theorem heads_eq (r : List Bool) : Inf.heads r = match Inf.numb 5 r with
  | .ok (l, r) => (match Inf.numb 5 r with
    | .ok (d, r) => (match Inf.numb 4 r with
      | .ok (c, r) => headB l d c r
      | .error e => .error e)
    | .error e => .error e)
  | .error e => .error e := by
  unfold Inf.heads
  cases Inf.numb 5 r with
  | error e => rfl
  | ok p =>
    obtain ⟨l, r1⟩ := p
    simp only
    cases Inf.numb 5 r1 with
    | error e => rfl
    | ok p =>
      obtain ⟨d, r2⟩ := p
      simp only
      cases Inf.numb 4 r2 with
      | error e => rfl
      | ok p =>
        obtain ⟨c, r3⟩ := p
        simp only
        unfold headB
        split
        · rfl
        · unfold telB tellR
          cases Inf.teller (4 + c) (List.replicate 19 0) 0 r3 with
          | error e => rfl
          | ok p =>
            obtain ⟨zs, r4⟩ := p
            simp only [telFin]
            cases Inf.book zs with
            | error e => rfl
            | ok _ =>
              simp only
              unfold lenB
              cases Inf.lens zs (257 + l + (1 + d)) (257 + l + (1 + d) + 1) [] r4 with
              | error e => rfl
              | ok p =>
                obtain ⟨all, r5⟩ := p
                simp only
                unfold finB
                split
                · rfl
                · cases Inf.book (all.take (257 + l)) with
                  | error e => rfl
                  | ok _ => cases Inf.book (all.drop (257 + l)) <;> rfl
/-- A book that is made anew since a world. -/
structure BkNew (w0 w : World) (O : Nat → Prop) (gk : Nat) (zs : List Int) : Prop where
  book : ∃ lo hi, w0.heap.size ≤ lo ∧ BookAt w lo hi gk zs ∧ (∀ i, lo ≤ i → i < hi → ¬ O i) ∧ hi ≤ w.heap.size
  deep : Hf.deep zs ≤ 15
  len : zs.length ≤ 1024
theorem BkNew.at {w0 w : World} {O T : Nat → Prop} {gk : Nat} {zs : List Int} (h : BkNew w0 w O gk zs) (hT : ∀ i, T i → O i ∨ i < w0.heap.size) : BkAt w T gk zs := by
  obtain ⟨lo, hi, h0, hb, ha, hh⟩ := h.book
  exact ⟨⟨lo, hi, hb, fun i h1 h2 h3 => by rcases hT i h3 with h | h; exact ha i h1 h2 h; omega, hh⟩, h.deep, h.len⟩
theorem BkNew.same {w0 w w' : World} {O : Nat → Prop} {gk : Nat} {zs : List Int} (h : BkNew w0 w O gk zs) (ho : OnlyS (fun _ => False) w w') : BkNew w0 w' O gk zs := by
  obtain ⟨lo, hi, h0, hb, ha, hh⟩ := h.book
  exact ⟨⟨lo, hi, h0, hb.only ho (fun _ _ _ h => h), ha, Nat.le_trans hh ho.size⟩, h.deep, h.len⟩
theorem BkNew.made {w0 w w' : World} {O : Nat → Prop} {gk : Nat} {zs : List Int} (hb : BookAt w' w.heap.size w'.heap.size gk zs) (h0 : w0.heap.size ≤ w.heap.size) (hO : ∀ i, O i → i < w.heap.size) (hm : Hf.may zs = 0) : BkNew w0 w' O gk zs :=
  ⟨⟨w.heap.size, w'.heap.size, h0, hb, fun i h1 _ h3 => by have := hO i h3; omega, Nat.le_refl _⟩, deep_good (may_good hm), (may_good hm).1⟩
/-- The two books of a block, made anew since a world. -/
structure BooksNew (w0 w : World) (O : Nat → Prop) (gbk ks kd : Nat) (zs ds : List Int) : Prop where
  c0 : w.cell? ⟨gbk, 0, none⟩ = some (.pointer (some ⟨ks, 0, none⟩))
  c1 : w.cell? ⟨gbk, 1, none⟩ = some (.pointer (some ⟨kd, 0, none⟩))
  out : ¬ O gbk
  ge : w0.heap.size ≤ gbk
  s : BkNew w0 w O ks zs
  d : BkNew w0 w O kd ds
theorem BooksNew.at {w0 w : World} {O T : Nat → Prop} {gbk ks kd : Nat} {zs ds : List Int} (h : BooksNew w0 w O gbk ks kd zs ds) (hT : ∀ i, T i → O i ∨ i < w0.heap.size) : BooksAt w T gbk ks kd zs ds :=
  ⟨h.c0, h.c1, fun ht => by rcases hT _ ht with h1 | h1; exact h.out h1; have := h.ge; omega, h.s.at hT, h.d.at hT⟩
def DynPost (R0 : Inf.Res (List Int × List Int)) (B : Nat) (O : Nat → Prop) (gt gb g : Nat) (w : World) (e : Ending) (w' : World) : Prop :=
  OnlyS O w w' ∧ match R0 with
  | .ok ((zs, ds), r') => ∃ gbk ks kd O', e = .returned (.pointer (some ⟨gbk, 0, none⟩)) ∧ StB w' B O' gt gb g r' ∧ Grew w O O' ∧ BooksNew w w' O' gbk ks kd zs ds
  | .error er => e = pan er
end Go.Proofs.YtefeilgbofphjaaDoor
/-
  dynamicBooks: the books of a dynamic block.
-/
namespace Go.Proofs.YtefeilgbofphjaaDoor
open Go.RowKit
set_option maxRecDepth 100000 in
set_option maxHeartbeats 8000000 in
theorem dynamic_walk (w : World) (B : Nat) (O : Nat → Prop) (gt gb g : Nat) (r : List Bool) (h : StB w B O gt gb g r) (hB : B ≤ w.heap.size) (hB0 : 0 < B) (hord : OrdAt w) :
    Calls Tryd.prog 44 #[.pointer (some ⟨gt, 0, none⟩)] w (DynPost (Inf.heads r) B O gt gb g w) := by
  obtain ⟨R0, hR0⟩ : ∃ R0, R0 = Inf.heads r := ⟨_, rfl⟩
  rw [← hR0]
  rw [heads_eq] at hR0
  have HB := Lib.hid (And.intro hB hB0)
  have HO := Lib.hid hord
  have HO0 : Hid (¬ O 0) := Lib.hid (fun ho => by have := (h.hand.src.own _ ho).1; omega)
  have HS0 := Lib.hid h
  have HN1 := Lib.hid (number_walk w B O gt gb g 5 r h (by omega))
  unfold iv at HN1
  clear h hB hB0 hord
  cases hn1 : Inf.numb 5 r with
  | error er =>
    rw [hn1] at hR0 HN1
    have HE := Lib.hid hR0
    clear hR0 hn1
    go_enter Tryd.func44, Tryd.ntmps44
    go_wp2_with fail
    refine HN1.out.mono ?_
    rintro e w1 ⟨ho, rfl⟩
    have HOE := Lib.hid (ho)
    clear ho
    go_wp2_with fail
    exact ⟨rfl, HOE.out, by rw [HE.out]⟩
  | ok p1 =>
    obtain ⟨l, r1⟩ := p1
    have hl := numb_lt hn1
    rw [hn1] at hR0 HN1
    simp only at hR0
    have HN2 := Lib.hid (fun W O1 (hs : StB W B O1 gt gb g r1) => number_walk W B O1 gt gb g 5 r1 hs (by omega))
    unfold iv at HN2
    clear hn1
    cases hn2 : Inf.numb 5 r1 with
    | error er =>
      rw [hn2] at hR0 HN2
      have HE := Lib.hid hR0
      clear hR0 hn2
      go_enter Tryd.func44, Tryd.ntmps44
      go_wp2_with fail
      refine HN1.out.mono ?_
      rintro e w1 ⟨ho, rfl, O1, hs1, hg1⟩
      have HO1 := Lib.hid ho
      have HG1 := Lib.hid hg1
      have HN2' := Lib.hid (HN2.out w1 O1 hs1)
      clear ho hs1 hg1
      go_wp2_with fail
      refine HN2'.out.mono ?_
      rintro e w1 ⟨ho, rfl⟩
      have HOE := Lib.hid (HO1.out.trans' ho (fun i hi => HG1.out i hi))
      clear ho
      go_wp2_with fail
      exact ⟨rfl, HOE.out, by rw [HE.out]⟩
    | ok p2 =>
      obtain ⟨d, r2⟩ := p2
      have hd := numb_lt hn2
      rw [hn2] at hR0 HN2
      simp only at hR0
      have HN3 := Lib.hid (fun W O1 (hs : StB W B O1 gt gb g r2) => number_walk W B O1 gt gb g 4 r2 hs (by omega))
      unfold iv at HN3
      clear hn2
      cases hn3 : Inf.numb 4 r2 with
      | error er =>
        rw [hn3] at hR0 HN3
        have HE := Lib.hid hR0
        clear hR0 hn3
        go_enter Tryd.func44, Tryd.ntmps44
        go_wp2_with fail
        refine HN1.out.mono ?_
        rintro e w1 ⟨ho, rfl, O1, hs1, hg1⟩
        have HO1 := Lib.hid ho
        have HG1 := Lib.hid hg1
        have HN2' := Lib.hid (HN2.out w1 O1 hs1)
        clear ho hs1 hg1
        go_wp2_with fail
        refine HN2'.out.mono ?_
        rintro e w2 ⟨ho, rfl, O2, hs2, hg2⟩
        have HO2 := Lib.hid (HO1.out.trans' ho (fun i hi => HG1.out i hi))
        have HG2 := Lib.hid (HG1.out.trans hg2 HO1.out.size)
        have HN3' := Lib.hid (HN3.out w2 O2 hs2)
        clear ho hs2 hg2 HO1 HG1
        go_wp2_with fail
        refine HN3'.out.mono ?_
        rintro e w1 ⟨ho, rfl⟩
        have HOE := Lib.hid (HO2.out.trans' ho (fun i hi => HG2.out i hi))
        clear ho
        go_wp2_with fail
        exact ⟨rfl, HOE.out, by rw [HE.out]⟩
      | ok p3 =>
        obtain ⟨c, r3⟩ := p3
        have hc := numb_lt hn3
        rw [hn3] at hR0 HN3
        simp only [headB] at hR0
        have HR := Lib.hid hR0
        clear hn3 hR0
        have hl32 : l < 32 := hl
        have hd32 : d < 32 := hd
        have hc16 : c < 16 := hc
        by_cases hbad : 286 < 257 + l ∨ 30 < 1 + d
        · have HE : Hid (R0 = .error 20) := Lib.hid (by rw [HR.out, if_pos hbad])
          by_cases hl286 : 286 < 257 + l
          · have hd1 : decide ((286 : Int) < 257 + (l : Int)) = true := by simp; omega
            clear hbad
            go_enter Tryd.func44, Tryd.ntmps44
            go_wp2_with fail
            refine HN1.out.mono ?_
            rintro e w1 ⟨ho, rfl, O1, hs1, hg1⟩
            have HO1 := Lib.hid ho
            have HG1 := Lib.hid hg1
            have HN2' := Lib.hid (HN2.out w1 O1 hs1)
            clear ho hs1 hg1
            go_wp2_with fail
            refine HN2'.out.mono ?_
            rintro e w2 ⟨ho, rfl, O2, hs2, hg2⟩
            have HO2 := Lib.hid (HO1.out.trans' ho (fun i hi => HG1.out i hi))
            have HG2 := Lib.hid (HG1.out.trans hg2 HO1.out.size)
            have HN3' := Lib.hid (HN3.out w2 O2 hs2)
            clear ho hs2 hg2 HO1 HG1
            go_wp2_with fail
            refine HN3'.out.mono ?_
            rintro e w3 ⟨ho, rfl, O3, hs3, hg3⟩
            have HO3 := Lib.hid (HO2.out.trans' ho (fun i hi => HG2.out i hi))
            have HG3 := Lib.hid (HG2.out.trans hg3 HO2.out.size)
            have HS3 := Lib.hid hs3
            clear ho hs3 hg3 HO2 HG2
            go_wp2_with fail
            refine (refuse_yes _ 20).mono ?_
            rintro e w4 ⟨rfl, rfl⟩
            go_wp2_with fail
            exact ⟨rfl, HO3.out, by rw [HE.out]⟩
          · have hd1 : decide ((286 : Int) < 257 + (l : Int)) = false := by simp; omega
            have hd2 : decide ((30 : Int) < 1 + (d : Int)) = true := by simp; omega
            clear hbad hl286
            go_enter Tryd.func44, Tryd.ntmps44
            go_wp2_with fail
            refine HN1.out.mono ?_
            rintro e w1 ⟨ho, rfl, O1, hs1, hg1⟩
            have HO1 := Lib.hid ho
            have HG1 := Lib.hid hg1
            have HN2' := Lib.hid (HN2.out w1 O1 hs1)
            clear ho hs1 hg1
            go_wp2_with fail
            refine HN2'.out.mono ?_
            rintro e w2 ⟨ho, rfl, O2, hs2, hg2⟩
            have HO2 := Lib.hid (HO1.out.trans' ho (fun i hi => HG1.out i hi))
            have HG2 := Lib.hid (HG1.out.trans hg2 HO1.out.size)
            have HN3' := Lib.hid (HN3.out w2 O2 hs2)
            clear ho hs2 hg2 HO1 HG1
            go_wp2_with fail
            refine HN3'.out.mono ?_
            rintro e w3 ⟨ho, rfl, O3, hs3, hg3⟩
            have HO3 := Lib.hid (HO2.out.trans' ho (fun i hi => HG2.out i hi))
            have HG3 := Lib.hid (HG2.out.trans hg3 HO2.out.size)
            have HS3 := Lib.hid hs3
            clear ho hs3 hg3 HO2 HG2
            go_wp2_with fail
            refine (refuse_yes _ 20).mono ?_
            rintro e w4 ⟨rfl, rfl⟩
            go_wp2_with fail
            exact ⟨rfl, HO3.out, by rw [HE.out]⟩
        have hd1 : decide ((286 : Int) < 257 + (l : Int)) = false := by simp; omega
        have hd2 : decide ((30 : Int) < 1 + (d : Int)) = false := by simp; omega
        have HR1 : Hid (R0 = telB (257 + l) (1 + d) (4 + c) r3) := Lib.hid (by rw [HR.out, if_neg hbad])
        have hl286 : l ≤ 29 := by omega
        have hd30 : d ≤ 29 := by omega
        clear HR hbad
        go_enter Tryd.func44, Tryd.ntmps44
        go_wp2_with fail
        refine HN1.out.mono ?_
        rintro e w1 ⟨ho, rfl, O1, hs1, hg1⟩
        have HO1 := Lib.hid ho
        have HG1 := Lib.hid hg1
        have HN2' := Lib.hid (HN2.out w1 O1 hs1)
        clear ho hs1 hg1
        go_wp2_with fail
        refine HN2'.out.mono ?_
        rintro e w2 ⟨ho, rfl, O2, hs2, hg2⟩
        have HO2 := Lib.hid (HO1.out.trans' ho (fun i hi => HG1.out i hi))
        have HG2 := Lib.hid (HG1.out.trans hg2 HO1.out.size)
        have HN3' := Lib.hid (HN3.out w2 O2 hs2)
        clear ho hs2 hg2 HO1 HG1
        go_wp2_with fail
        refine HN3'.out.mono ?_
        rintro e w3 ⟨ho, rfl, O3, hs3, hg3⟩
        have HO3 := Lib.hid (HO2.out.trans' ho (fun i hi => HG2.out i hi))
        have HG3 := Lib.hid (HG2.out.trans hg3 HO2.out.size)
        have HS3 := Lib.hid hs3
        clear ho hs3 hg3 HO2 HG2
        go_wp2_with fail
        refine (refuse_no _ 20).mono ?_
        rintro e w4 ⟨rfl, rfl⟩
        have HTL := Lib.hid (lengthsBook_walk w4 B O3 gt gb g (4 + c) r3 HS3.out (by omega) (by have := HB.out; have := HO3.out.size; omega) HB.out.2 (HO.out.only HO3.out HO0.out))
        go_wp2_with fail
        rw [show ((4 + c : Nat) : Int) = 4 + (c : Int) by omega] at HTL
        refine HTL.out.mono ?_
        rintro e w5 ⟨ho5, hp5⟩
        have HO5 := Lib.hid (HO3.out.trans' ho5 (fun i hi => HG3.out i hi))
        clear HN2' HN3' HN1 HN2 HN3 HS0
        unfold telB at HR1
        cases htl : tellR (4 + c) r3 with
        | error er =>
          rw [htl] at hp5 HR1
          have HE : Hid (R0 = .error er) := Lib.hid HR1.out
          simp only at hp5
          subst hp5
          clear HTL htl ho5 HR1
          go_wp2_with fail
          exact ⟨rfl, HO5.out, by rw [HE.out]⟩
        | ok p4 =>
          obtain ⟨zs, r4⟩ := p4
          rw [htl] at hp5 HR1
          simp only at hp5
          have HR2 : Hid (R0 = lenB (257 + l) (1 + d) zs r4) := Lib.hid HR1.out
          obtain ⟨gk, O5, rfl, hs5, hg5, hbk5⟩ := hp5
          have HG5 := Lib.hid (HG3.out.trans hg5 HO3.out.size)
          obtain ⟨N, hN⟩ : ∃ N, N = 257 + l + (1 + d) := ⟨_, rfl⟩
          have hNi : 257 + (l : Int) + (1 + (d : Int)) = (N : Int) := by omega
          have hN1 : N ≤ 1024 := by omega
          have hN2 : 257 ≤ N := by omega
          have HNN := Lib.hid hN
          have HLN := Lib.hid (lengths_walk w5 B O5 gt gb g gk N zs r4 hs5 hbk5 hN1 (by have := HB.out; have := HO5.out.size; omega))
          clear HTL htl ho5 HR1 hs5 hg5 hbk5 HS3 HO3 HG3 hN
          go_wp2_with fail
          refine HLN.out.mono ?_
          rintro e w6 ⟨ho6, hp6⟩
          have HO6 := Lib.hid (HO5.out.trans' ho6 (fun i hi => HG5.out i hi))
          unfold lenB at HR2
          rw [← HNN.out] at HR2
          cases hln : Inf.lens zs N (N + 1) [] r4 with
          | error er =>
            rw [hln] at hp6 HR2
            have HE : Hid (R0 = .error er) := Lib.hid HR2.out
            simp only at hp6
            subst hp6
            clear HLN hln ho6 HR2
            go_wp2_with fail
            exact ⟨rfl, HO6.out, by rw [HE.out]⟩
          | ok p5 =>
            obtain ⟨all, r5⟩ := p5
            have hall := lens_len _ _ _ _ _ _ _ hln
            rw [hln] at hp6 HR2
            simp only at hp6
            have HR3 : Hid (R0 = finB (257 + l) all r5) := Lib.hid HR2.out
            obtain ⟨u, O6, rfl, hu⟩ := hp6
            have HG6 := Lib.hid (HG5.out.trans hu.grew HO5.out.size)
            obtain ⟨pu, cu, hsh⟩ := hu.slv.shape
            rw [ni_length, hall] at hsh
            subst hsh
            have hsl := hu.slv
            have HSL := Lib.hid hsl
            obtain ⟨gz, oz, hpz, hrow⟩ := hsl.some (by omega)
            have hcap := hsl.le
            subst hpz
            have hc256 := hrow.ni 256 (by omega)
            have HBb := Lib.hid hu.b
            have HALL := Lib.hid hall
            obtain ⟨z, hz⟩ : ∃ z, z = all.getD 256 0 := ⟨_, rfl⟩
            rw [← hz] at hc256
            have HZ := Lib.hid hz
            have hci : (N : Int) ≤ (cu : Int) := by omega
            have hNi2 : (257 : Int) ≤ (N : Int) := by omega
            clear HLN hln ho6 HR2 hu hsl hrow hz hall hc
            unfold finB at HR3
            rw [← HZ.out] at HR3
            by_cases hz0 : z = 0
            · have HE : Hid (R0 = .error 20) := Lib.hid (by rw [HR3.out, if_pos hz0])
              subst hz0
              clear HR3
              go_wp2_with fail
              refine (refuse_yes _ 20).mono ?_
              rintro e w7 ⟨rfl, rfl⟩
              go_wp2_with fail
              exact ⟨rfl, HO6.out, by rw [HE.out]⟩
            · have hzd : (z == 0) = false := by simpa using hz0
              have HR4 : Hid (R0 = match Inf.book (all.take (257 + l)) with | .ok _ => (match Inf.book (all.drop (257 + l)) with | .ok _ => .ok ((all.take (257 + l), all.drop (257 + l)), r5) | .error e => .error e) | .error e => .error e) := Lib.hid (by
                refine (HR3.out.trans (if_neg hz0)).trans ?_
                cases Inf.book (all.take (257 + l)) with
                | error e => rfl
                | ok _ => cases Inf.book (all.drop (257 + l)) <;> rfl)
              clear HR3 hz0
              have hk257 : 257 + l ≤ N := by have := HNN.out; omega
              have hsa := to53 HSL.out (257 + l) hk257
              obtain ⟨pf, hsb, hfs, -⟩ := from53 HSL.out (257 + l) hk257
              rw [show ((257 + l : Nat) : Int) = 257 + (l : Int) by omega] at hsa hsb
              have hts := HSL.out.take (257 + l) hk257
              rw [ni_take] at hts
              rw [ni_drop] at hfs
              have HW1 : Hid (∀ W, OnlyS (fun _ => False) w6 W → Calls Tryd.prog 69 #[.slice (some ⟨gz, oz, none⟩) (257 + l) cu] W (BookPost (all.take (257 + l)) W)) := Lib.hid (fun W hW => book_walk W _ _ (hts.only hW (fun _ _ _ _ _ h => h)))
              have HW2 : Hid (∀ W, OnlyS (fun _ => False) w6 W → Calls Tryd.prog 69 #[.slice pf (N - (257 + l)) (cu - (257 + l))] W (BookPost (all.drop (257 + l)) W)) := Lib.hid (fun W hW => book_walk W _ _ (hfs.only hW (fun _ _ _ _ _ h => h)))
              clear hts hfs
              obtain ⟨z1, hz1⟩ : ∃ z1, z1 = all.take (257 + l) := ⟨_, rfl⟩
              obtain ⟨z2, hz2⟩ : ∃ z2, z2 = all.drop (257 + l) := ⟨_, rfl⟩
              rw [← hz1] at HW1 HR4
              rw [← hz2] at HW2 HR4
              clear hz1 hz2
              obtain ⟨n1, hn1⟩ : ∃ n1, n1 = 257 + l := ⟨_, rfl⟩
              rw [← hn1] at hsa hsb HW1 HW2
              obtain ⟨n2, hn2⟩ : ∃ n2, n2 = N - n1 := ⟨_, rfl⟩
              rw [← hn2] at hsb HW2
              obtain ⟨c2, hc2⟩ : ∃ c2, c2 = cu - n1 := ⟨_, rfl⟩
              rw [← hc2] at hsb HW2
              clear hn1 hn2 hc2
              by_cases hm1 : Hf.may z1 = 0
              · by_cases hm2 : Hf.may z2 = 0
                · have HE : Hid (R0 = .ok ((z1, z2), r5)) := Lib.hid (by rw [HR4.out]; unfold Inf.book; simp only [if_pos hm1, if_pos hm2])
                  have HM := Lib.hid (And.intro hm1 hm2)
                  clear HR4 hm1 hm2
                  go_wp2_with fail
                  refine (refuse_no _ 20).mono ?_
                  rintro e w7 ⟨rfl, rfl⟩
                  go_wp2_with fail
                  go_region_law (first
                    | (go_simp; go_at_call 69; refine (HW2.out _ HO8.out).mono ?_; rintro e w9 ⟨hbel2, hp2⟩; rw [if_pos HM.out.2] at hp2; obtain ⟨k2, rfl, hb2⟩ := hp2; have HO9 : Hid (OnlyS (fun _ => False) w8 w9) := Lib.hid (OnlyS.of_below hbel2); have HB9 := Lib.hid hb2; clear hbel2 hb2)
                    | (go_simp; go_at_call 69; refine (HW1.out _ (OnlyS.drew _)).mono ?_; rintro e w8 ⟨hbel1, hp1⟩; rw [if_pos HM.out.1] at hp1; obtain ⟨k1, rfl, hb1⟩ := hp1; have HO8 : Hid (OnlyS (fun _ => False) w7 w8) := Lib.hid ((OnlyS.drew w7).trans (OnlyS.of_below hbel1)); have HB8 := Lib.hid hb1; clear hbel1 hb1 HW1))
                  go_wp2_with fail
                  go_ret
                  have ha : OnlyS (fun _ => False) w9 (w9.alloc (.cells #[.pointer (some ⟨k1, 0, none⟩), .pointer (some ⟨k2, 0, none⟩)] 127)) := OnlyS.alloc _ _
                  have hrow : (w9.alloc (.cells #[.pointer (some ⟨k1, 0, none⟩), .pointer (some ⟨k2, 0, none⟩)] 127)).heap[w9.heap.size]? = some (.cells #[.pointer (some ⟨k1, 0, none⟩), .pointer (some ⟨k2, 0, none⟩)] 127 (0, 0)) := heap_alloc_new _ _
                  have ho9 := HO8.out.trans HO9.out
                  have hown : ∀ i, O6 i → i < w7.heap.size := fun i hi => (HBb.out.hand.src.own i hi).2
                  have hs0 : w.heap.size ≤ w7.heap.size := HO6.out.size
                  have hs8 : w7.heap.size ≤ w8.heap.size := HO8.out.size
                  have hs9 : w8.heap.size ≤ w9.heap.size := HO9.out.size
                  have hb1 : BkNew w w8 O6 k1 z1 := BkNew.made HB8.out hs0 hown HM.out.1
                  have hb2 : BkNew w w9 O6 k2 z2 := BkNew.made HB9.out (by omega) (fun i hi => by have := hown i hi; omega) HM.out.2
                  generalize (w9.alloc (.cells #[.pointer (some ⟨k1, 0, none⟩), .pointer (some ⟨k2, 0, none⟩)] 127)) = wf at *
                  exact ⟨HO6.out.trans ((ho9.trans ha).mono fun _ _ h => h.elim), by rw [HE.out]; exact ⟨w9.heap.size, k1, k2, O6, rfl, HBb.out.same (ho9.trans ha), HG6.out, ⟨cell_of_row _ _ 0 _ _ _ hrow, cell_of_row _ _ 1 _ _ _ hrow, (fun ho => by have := hown _ ho; omega), by omega, (hb1.same HO9.out).same ha, hb2.same ha⟩⟩⟩
                · have HE : Hid (R0 = .error (Hf.may z2)) := Lib.hid (by rw [HR4.out]; unfold Inf.book; simp only [if_pos hm1, if_neg hm2])
                  have HM := Lib.hid (And.intro hm1 hm2)
                  clear HR4 hm1 hm2
                  go_wp2_with fail
                  refine (refuse_no _ 20).mono ?_
                  rintro e w7 ⟨rfl, rfl⟩
                  go_wp2_with fail
                  go_region_law (first
                    | (go_simp; go_at_call 69; refine (HW2.out _ HO8.out).mono ?_; rintro e w9 ⟨hbel2, hp2⟩; rw [if_neg HM.out.2] at hp2; subst hp2; refine Classical.byContradiction (fun hn => ?_); have hF : Hid False := Lib.hid (hn ⟨rfl, (HO6.out.trans (HO8.out.mono fun _ _ h => h.elim)).trans ((show OnlyS (fun _ => False) w8 w9 from OnlyS.of_below hbel2).mono fun _ _ h => h.elim), by rw [HE.out]⟩); clear hn; refine (fun (_ : (‹Act → World → Prop› : Act → World → Prop) { tmps := #[.pointer none, .pointer none, .pointer none, .pointer none, .pointer none, .pointer none, .pointer none, .pointer none, .pointer none, .pointer none, .pointer none, .pointer none, .pointer none, .pointer none, .pointer none, .pointer none, .pointer none, .pointer none, .pointer none, .pointer none, .pointer none, .pointer none, .pointer none, .pointer none, .pointer none, .pointer none, .pointer none, .pointer none, .pointer none, .pointer none, .pointer none, .pointer none, .pointer none, .pointer none, .pointer none, .pointer none, .pointer none, .pointer none, .pointer none, .pointer none, .pointer none, .pointer none, .pointer none, .pointer none, .pointer none, .pointer none], defers := [] } w9) => hF.out) ?_)
                    | (go_simp; go_at_call 69; refine (HW1.out _ (OnlyS.drew _)).mono ?_; rintro e w8 ⟨hbel1, hp1⟩; rw [if_pos HM.out.1] at hp1; obtain ⟨k1, rfl, hb1⟩ := hp1; have HO8 : Hid (OnlyS (fun _ => False) w7 w8) := Lib.hid ((OnlyS.drew w7).trans (OnlyS.of_below hbel1)); have HB8 := Lib.hid hb1; clear hbel1 hb1 HW1))
                  all_goals exact hF.out.elim
              · have HE : Hid (R0 = .error (Hf.may z1)) := Lib.hid (by rw [HR4.out]; unfold Inf.book; simp only [if_neg hm1])
                have HM := Lib.hid hm1
                clear HR4 hm1
                go_wp2_with fail
                refine (refuse_no _ 20).mono ?_
                rintro e w7 ⟨rfl, rfl⟩
                go_wp2_with fail
                go_region_dies
                all_goals (go_at_call 69; refine (HW1.out _ (OnlyS.drew _)).mono ?_; rintro e w8 ⟨hbel1, hp1⟩; rw [if_neg HM.out] at hp1; subst hp1; exact ⟨rfl, HO6.out.trans ((show OnlyS (fun _ => False) w7 w8 from (OnlyS.drew w7).trans (OnlyS.of_below hbel1)).mono fun _ _ h => h.elim), by rw [HE.out]⟩)
end Go.Proofs.YtefeilgbofphjaaDoor
/-
  slices.Repeat, of one int.
-/
namespace Go.Proofs
open Go.Shelf
def Tryd.laysMul_ren : Go.Shelf.Ren := ⟨fun | 212 => 85 | 263 => 93 | 264 => 94 | n => n, fun | 46 => 147 | 51 => 49 | 53 => 116 | 146 => 156 | 148 => 158 | n => n, fun | n => n⟩
theorem Tryd.laysMul : Go.Proofs.Lays.n212 Tryd.prog Tryd.laysMul_ren := {
  mixed := by kernel_rfl
  f212 := Tryd.func85.trans (congrArg some (by kernel_rfl))
  f263 := Tryd.func93.trans (congrArg some (by kernel_rfl))
  f264 := Tryd.func94.trans (congrArg some (by kernel_rfl))
  t46 := Tryd.underlying147
  a46 := Tryd.isAgg147
  z46 := Tryd.sizeOf147
  v46 := Tryd.zeroValue147
  t51 := Tryd.underlying49
  a51 := Tryd.isAgg49
  z51 := Tryd.sizeOf49
  v51 := Tryd.zeroValue49
  t53 := Tryd.underlying116
  a53 := Tryd.isAgg116
  z53 := Tryd.sizeOf116
  v53 := Tryd.zeroValue116
  t146 := Tryd.underlying156
  a146 := Tryd.isAgg156
  z146 := Tryd.sizeOf156
  v146 := Tryd.zeroValue156
  t148 := Tryd.underlying158
  a148 := Tryd.isAgg158
  z148 := Tryd.sizeOf158
  v148 := Tryd.zeroValue158
}
end Go.Proofs
namespace Go.Proofs.YtefeilgbofphjaaDoor
open Go.RowKit
theorem mul_one_walk (y : Nat) (hy : y < 18446744073709551616) (w : World) :
    Calls Tryd.prog 85 #[.int .u64 1, .int .u64 (y : Int)] w fun e w' => e = .returned (.tuple #[.int .u64 0, .int .u64 (y : Int)]) ∧ w' = w := by
  have h := Any.bits_Mul Tryd.laysMul 1 y (by decide) hy w
  rw [Nat.one_mul, Nat.div_eq_of_lt hy, Nat.mod_eq_of_lt hy] at h
  exact h
/-- The row that Repeat fills: bp of m numbers. -/
structure RepAt (w wr : World) (m bp : Nat) (z : Int) (cur : List Value) : Prop where
  row : wr.heap[w.heap.size]? = some (.cells cur.toArray 3 (0, 0))
  len : m ≤ cur.length
  take : cur.take bp = ni (List.replicate bp z)
  below : Below w.heap.size w wr
theorem splice_rep (z : Int) (cur : List Value) (bp k : Nat) (h : cur.take bp = ni (List.replicate bp z)) :
    (splice cur bp (ni (List.replicate k z))).take (bp + k) = ni (List.replicate (bp + k) z) := by
  unfold splice
  rw [h, ← List.append_assoc, ← ni_append, List.replicate_append_replicate, List.take_left' (by simp)]
theorem RepAt.cell {w wr : World} {m bp : Nat} {z : Int} {cur : List Value} (h : RepAt w wr m bp z cur) (i : Nat) (hi : i < bp) (hbp : bp ≤ m) : wr.cell? ⟨w.heap.size, i, none⟩ = some (.int .i64 z) := by
  have h1 : i < cur.length := by have := h.len; omega
  rw [cell_of_row _ _ _ _ _ _ h.row]
  have h2 : (cur.take bp)[i]? = some (.int .i64 z) := by
    rw [h.take]; simp [ni, hi]
  rw [List.getElem?_take, if_pos hi] at h2
  simpa using h2
set_option maxRecDepth 100000 in
set_option maxHeartbeats 1000000 in
theorem repeat_walk (w : World) (v : Value) (z : Int) (m : Nat) (hv : SlV w v (ni [z])) (hm1 : 1 ≤ m) (hm : m ≤ 8192) :
    Calls Tryd.prog 68 #[v, .int .i64 (m : Int)] w fun e w' => ∃ v', e = .returned v' ∧ SlV w' v' (ni (List.replicate m z)) ∧ Below w.heap.size w w' := by
  obtain ⟨p, cap, rfl⟩ := hv.shape
  rw [ni_length, List.length_singleton] at *
  obtain ⟨gs, os, rfl, hrs⟩ := hv.some (by omega)
  have hcs : ∀ wx, Below w.heap.size w wx → wx.cell? ⟨gs, os, none⟩ = some (.int .i64 z) := fun wx hx => by
    have h := (hrs.below hx (hrs.lt (by simp))).ni 0 (by simp)
    exact h
  have HCS := Lib.hid hcs
  clear hcs hrs hv
  have hsz3 : (Tryd.prog.info? 3).map (·.size) = some 1 := by kernel_rfl
  have hmul := mul_one_walk m (by omega) w
  have hmw : IntKind.u64.wrap (m : Int) = (m : Int) := by rw [IntKind.wrap_u64]; omega
  have hmw2 : IntKind.i64.wrap (m : Int) = (m : Int) := IntWalk.i64_in _ (by omega)
  have h0m : (0 : Int) ≤ (m : Int) := by omega
  have hm8 : (m : Int) ≤ 8192 := by omega
  have hdd1 : decide ((m : Int) < 0) = false := decide_eq_false (by omega)
  have hdd2 : decide ((9223372036854775807 : Int) < (m : Int)) = false := decide_eq_false (by omega)
  obtain ⟨i0, hi, hz0, hz1, hz2⟩ := info_parts info3
  have hmk := run_makeSlice (P := Tryd.prog) w 53 3 i0 (.int .i64 0) Tryd.underlying53 hi hz0 .i64 .i64 (m : Int) (m : Int) h0m (Int.le_refl _) (by rw [hz1]; simp only [Int.toNat_natCast]; omega) (by rw [hz2]; omega) (by omega)
  simp only [Int.toNat_natCast] at hmk
  obtain ⟨cs, hcs2⟩ : ∃ cs, cs = madeCells (Value.int .i64 0).cells (m * i0.size) := ⟨_, rfl⟩
  rw [← hcs2] at hmk
  have hle : cs.size = m := by rw [hcs2, size_madeCells, hz1, Nat.mul_one]
  clear hcs2 hz0 hz1 hz2 hi
  have HR0 : Hid (RepAt w (w.alloc (.cells cs 3)) m 0 z cs.toList) := Lib.hid ⟨by
      have h := heap_alloc_new w (.cells cs 3)
      exact h, by simp [hle], by simp [ni], (Below.refl w.heap.size w).alloc (Nat.le_refl _) (.cells cs 3)⟩
  have hn1 : (ni [z]).length = Nat.min 1 m := by show 1 = min 1 m; omega
  have HSRC0 : Hid (∀ j y, (ni [z])[j]? = some y → (w.alloc (.cells cs 3)).cell? ((⟨gs, os, none⟩ : Addr).add j) = some y) := Lib.hid (fun j y hj => by
    cases j with
    | zero => simp [ni] at hj; rw [← hj]; exact HCS.out _ HR0.out.below
    | succ j => simp [ni] at hj)
  go_enter Tryd.func68, Tryd.ntmps68
  go_wp2_with (first
    | (go_at_call 85; refine hmul.mono ?_; rintro e w' ⟨rfl, hw⟩; rw [hw])
    | (refine wpList_copy_splice rfl (.tmp 31) (.tmp 32) 53 53 rfl 3 Tryd.underlying53 hsz3 (some ⟨w.heap.size, 0, none⟩) (some ⟨gs, os, none⟩) m m 1 cap rfl rfl w.heap.size 0 cs.toList 3 HR0.out.row (ni [z]) hn1 (fun _ => ⟨rfl, _, rfl, HSRC0.out⟩) (by simp [hle]; omega) (by intro y hy; simp [ni] at hy; rw [hy]; rfl) w.heap.size w HR0.out.below (Nat.le_refl _) ?_; intro w2 hg2 hb2))
  have HR1 : Hid (RepAt w w2 m 1 z (splice cs.toList 0 (ni (List.replicate 1 z)))) := Lib.hid ⟨hg2.out, by rw [length_splice _ _ _ (by simp [hle]; omega)]; simp [hle], splice_rep z cs.toList 0 1 (by simp [ni]), hb2⟩
  clear hg2 hb2 HR0 HSRC0 hmk hmul
  obtain ⟨c1, hc1⟩ : ∃ c1, c1 = splice cs.toList 0 (ni (List.replicate 1 z)) := ⟨_, rfl⟩
  rw [← hc1] at HR1
  clear hc1
  have hone : ∀ k, ∀ y ∈ ni (List.replicate k z), y.oneCell' = true := fun k y hy => by
    obtain ⟨x, -, rfl⟩ := List.mem_map.1 hy; rfl
  have HONE := Lib.hid hone
  clear hone
  go_loopw [8] (fun v8 wr => ∃ (bp : Nat) (cur : List Value), 1 ≤ bp ∧ bp ≤ m ∧ v8 = .int .i64 (bp : Int) ∧ RepAt w wr m bp z cur) (fun v8 _ => m - (intOf v8).toNat)
  case atStart => exact ⟨1, c1, Nat.le_refl _, hm1, rfl, HR1.out⟩
  case round =>
    obtain ⟨bp, cur, hb1, hbm, rfl, hR⟩ := hrel
    have HR := Lib.hid hR
    clear hR HR1
    by_cases hlt : bp < m
    · have hlti : (bp : Int) < (m : Int) := by omega
      have hs1 : ∀ w', (Instr.sliceAt 53 (.slice (some ⟨w.heap.size, 0, none⟩) m m) (some (.int .i64 (bp : Int))) none none).run Tryd.prog w' = .ok (.slice (some ⟨w.heap.size, bp, none⟩) (m - bp) (m - bp)) w' := fun w' => by
        have h1 : (0 : Int) ≤ (bp : Int) := by omega
        have h4 : (bp : Int) ≤ (m : Int) := by omega
        have h5 : ¬ m = bp := by omega
        go_simp
      have hs2 : ∀ w', (Instr.sliceAt 53 (.slice (some ⟨w.heap.size, 0, none⟩) m m) none (some (.int .i64 (bp : Int))) none).run Tryd.prog w' = .ok (.slice (some ⟨w.heap.size, 0, none⟩) bp m) w' := fun w' => by
        have h1 : (0 : Int) ≤ (bp : Int) := by omega
        have h4 : (bp : Int) ≤ (m : Int) := by omega
        go_simp
      obtain ⟨k, hk⟩ : ∃ k, k = min bp (m - bp) := ⟨_, rfl⟩
      have hk1 : 1 ≤ k ∧ k ≤ bp ∧ bp + k ≤ m := by omega
      have hkn : k = Nat.min bp (m - bp) := hk
      have HKN := Lib.hid hkn
      clear hk hkn
      have hwr : IntKind.i64.wrap ((bp : Int) + (k : Int)) = (bp : Int) + (k : Int) := IntWalk.i64_in _ (by omega)
      have HSRC : Hid (∀ j y, (ni (List.replicate k z))[j]? = some y → wr.drew.cell? ((⟨w.heap.size, 0, none⟩ : Addr).add j) = some y) := Lib.hid (fun j y hj => by
        have hjk : j < k := by have := (List.getElem?_eq_some_iff.1 hj).1; simpa using this
        have hy : y = .int .i64 z := by simp [ni, hjk] at hj; exact hj.symm
        have hadd : (⟨w.heap.size, 0, none⟩ : Addr).add j = ⟨w.heap.size, j, none⟩ := by unfold Addr.add; split <;> simp_all
        rw [hadd, hy]
        exact HR.out.cell j (by omega) hbm)
      have HROW : Hid (wr.drew.heap[w.heap.size]? = some (.cells cur.toArray 3 (0, 0))) := Lib.hid HR.out.row
      go_wp2_with fail
      go_region_law (refine step_copy_splice rfl (.tmp 41) (.tmp 44) 53 53 rfl 3 Tryd.underlying53 hsz3 (some ⟨w.heap.size, bp, none⟩) (some ⟨w.heap.size, 0, none⟩) (m - bp) (m - bp) bp m (by go_simp) (by go_simp) w.heap.size bp cur 3 HROW.out (ni (List.replicate k z)) (by rw [ni_length, List.length_replicate]; exact HKN.out) (fun _ => ⟨rfl, _, rfl, HSRC.out⟩) (by have := HR.out.len; simp; omega) (HONE.out k) w.heap.size w (below_drewN HR.out.below 1) (Nat.le_refl _) ?_; intro w4 hg4 hb4)
      have HRN : Hid (RepAt w w4 m (bp + k) z (splice cur bp (ni (List.replicate k z)))) := Lib.hid ⟨hg4.out, by rw [length_splice _ _ _ (by have := HR.out.len; simp; omega)]; exact HR.out.len, splice_rep z cur bp k HR.out.take, hb4⟩
      clear hg4 hb4
      simp only [Act.put, List.getElem_toArray, List.getElem_cons_succ, List.getElem_cons_zero, List.setIfInBounds_toArray, List.set_cons_zero, List.set_cons_succ]
      go_wp2_with fail
      refine ⟨⟨bp + k, _, by omega, by omega, ?_, HRN.out⟩, ?_⟩
      · go_num
      · simp only [intOf]; omega
    · have hlti : (m : Int) ≤ (bp : Int) := by omega
      obtain rfl : bp = m := by omega
      go_wp2_with fail
      go_ret
      refine ⟨_, rfl, .inl ⟨w.heap.size, 0, bp, by simp, by simp, fun i v hi => ?_⟩, HR.out.below⟩
      have hib : i < bp := by have := (List.getElem?_eq_some_iff.1 hi).1; simpa using this
      have hy : v = .int .i64 z := by simp [ni, hib] at hi; exact hi.symm
      rw [Nat.zero_add, hy]
      exact HR.out.cell i hib (Nat.le_refl _)
end Go.Proofs.YtefeilgbofphjaaDoor
/-
  slices.Grow of nil, slices.Concat of rows of ints.
-/
namespace Go.Proofs.YtefeilgbofphjaaDoor
open Go.RowKit
set_option maxRecDepth 100000 in
set_option maxHeartbeats 1000000 in
theorem grow_walk (w : World) (m : Nat) (hm1 : 1 ≤ m) (hm : m ≤ 8192) :
    Calls Tryd.prog 84 #[.slice none 0 0, .int .i64 (m : Int)] w fun e w' => ∃ cap, e = .returned (.slice (some ⟨w.heap.size, 0, none⟩) 0 cap) ∧ w'.ownsRow w.heap.size 3 1 (.slice (some ⟨w.heap.size, 0, none⟩) 0 cap) 0 [] ∧ Below w.heap.size w w' := by
  obtain ⟨i0, hi, hz0, hz1, hz2⟩ := info_parts info3
  have hrun := fun ty => Lib.run_append_nil_zeros (P := Tryd.prog) w 53 3 ty 3 i0 (.int .i64 0) .i64 .i64 Tryd.underlying53 Tryd.underlying3 hi hz0 m (by omega) (by rw [hz1]; decide) (by omega) (by rw [hz2]; omega)
  obtain ⟨C, hC⟩ : ∃ C, C = grownCap w m 0 3 := ⟨_, rfl⟩
  have hge : m ≤ C := by rw [hC]; exact grownCap_ge w m 0 3
  have hle : C ≤ maxLen := by rw [hC]; exact grownCap_le_maxLen w m 0 3 (by simp [maxLen]; omega)
  rw [← hC] at hrun
  obtain ⟨cs, hcs⟩ : ∃ cs, cs = Builtin.zeroCells (Value.int .i64 0).cells m ++ Builtin.zeroCells (Value.int .i64 0).cells (C - m) := ⟨_, rfl⟩
  rw [← hcs] at hrun
  have hsz : cs.size = C * 1 := by
    rw [hcs]
    simp only [Array.size_append, size_zeroCells]
    have : (Value.int .i64 0).cells.size = 1 := rfl
    rw [this]
    omega
  have HRUN := Lib.hid hrun
  have HP : Hid ((w.drew.alloc (.cells cs 3)).ownsRow w.heap.size 3 1 (.slice (some ⟨w.heap.size, 0, none⟩) 0 C) 0 [] ∧ Below w.heap.size w (w.drew.alloc (.cells cs 3))) := Lib.hid ⟨World.ownsRow_made w.drew cs C (Nat.le_refl _) hle hsz, (below_drewN (Below.refl w.heap.size w) 1).alloc (Nat.le_refl _) (.cells cs 3)⟩
  clear hrun hcs hsz hC hz0 hz1 hz2 hi hle
  have hmw2 : IntKind.i64.wrap (m : Int) = (m : Int) := IntWalk.i64_in _ (by omega)
  have h0m : (0 : Int) ≤ (m : Int) := by omega
  have h1m : (0 : Int) < (m : Int) := by omega
  have hm8 : (m : Int) ≤ 8192 := by omega
  have hdd1 : decide ((m : Int) < 0) = false := decide_eq_false (by omega)
  have hdd2 : decide ((0 : Int) < (m : Int)) = true := decide_eq_true (by omega)
  have hC0 : (0 : Int) ≤ (C : Int) := by omega
  have hsn : ∀ w', (Instr.sliceAt 53 (.slice none 0 0) none (some (.int .i64 0)) none).run Tryd.prog w' = .ok (.slice none 0 0) w' := fun w' => by kernel_rfl
  have hsl : ∀ w', (Instr.sliceAt 53 (.slice (some ⟨w.heap.size, 0, none⟩) m C) none (some (.int .i64 0)) none).run Tryd.prog w' = .ok (.slice (some ⟨w.heap.size, 0, none⟩) 0 C) w' := fun w' => by
    have h4 : (0 : Int) ≤ (C : Int) := by omega
    go_simp
  clear hge
  go_enter Tryd.func84, Tryd.ntmps84
  go_wp2_with (refine Lib.wpList_append_run _ rfl (.tmp 20) (.tmp 21) 53 3 rfl (.slice none 0 0) (.int .i64 (m : Int)) rfl rfl _ _ (HRUN.out _) ?_)
  go_ret
  exact ⟨C, rfl, HP.out⟩
/-- The first k of some rows, one behind the other. -/
def catL (ls : Nat → List Int) : Nat → List Int
  | 0 => []
  | k + 1 => catL ls k ++ ls k
theorem catL_le (ls : Nat → List Int) {k n : Nat} (h : k ≤ n) : (catL ls k).length ≤ (catL ls n).length := by
  induction n with
  | zero => obtain rfl : k = 0 := by omega
            exact Nat.le_refl _
  | succ n ih =>
    by_cases hk : k = n + 1
    · rw [hk]; exact Nat.le_refl _
    · rw [catL, List.length_append]
      have := ih (by omega)
      omega
/-- A slice of slices of ints, in memory. -/
structure RowsAt (w : World) (g o n : Nat) (vs : Nat → Value) (ls : Nat → List Int) : Prop where
  cell : ∀ i, i < n → w.cell? ⟨g, o + i, none⟩ = some (vs i)
  slv : ∀ i, i < n → SlV w (vs i) (ni (ls i))
theorem RowsAt.below {w w' : World} {g o n : Nat} {vs : Nat → Value} {ls : Nat → List Int} (h : RowsAt w g o n vs ls) (hb : Below w.heap.size w w') : RowsAt w' g o n vs ls :=
  ⟨fun i hi => (hb.cell (block_lt_of_cell (h.cell i hi))).trans (h.cell i hi), fun i hi => (h.slv i hi).below hb (Nat.le_refl _)⟩
set_option maxRecDepth 100000 in
set_option maxHeartbeats 1000000 in
theorem concat_walk (w : World) (g o n cap : Nat) (vs : Nat → Value) (ls : Nat → List Int) (h : RowsAt w g o n vs ls) (hnc : n ≤ cap) (hn : n ≤ 64) (h1 : 1 ≤ (catL ls n).length) (h2 : (catL ls n).length ≤ 8192) :
    Calls Tryd.prog 67 #[.slice (some ⟨g, o, none⟩) n cap] w fun e w' => ∃ v', e = .returned v' ∧ SlV w' v' (ni (catL ls n)) ∧ Below w.heap.size w w' := by
  obtain ⟨i0, hi, hz0, hz1, hz2⟩ := info_parts info3
  have HI0 := Lib.hid (And.intro hi (And.intro hz0 (And.intro hz1 hz2)))
  have HR := Lib.hid h
  have HLE := Lib.hid (fun k (hk : k ≤ n) => catL_le ls hk)
  have HT := Lib.hid (And.intro h1 h2)
  have HG := Lib.hid (fun W => grow_walk W (catL ls n).length h1 h2)
  have hnci : (n : Int) ≤ (cap : Int) := by omega
  have hn64 : (n : Int) ≤ 64 := by omega
  clear h h1 h2 hi hz0 hz1 hz2
  go_enter Tryd.func67, Tryd.ntmps67
  go_wp2_with fail
  go_loopw [3, 11] (fun v3 v11 wr => ∃ k : Nat, k ≤ n ∧ v3 = .int .i64 ((catL ls k).length : Nat) ∧ v11 = .int .i64 (k : Int) ∧ wr = w) (fun _ v11 _ => n - (intOf v11).toNat)
  case atStart => exact ⟨0, Nat.zero_le _, rfl, rfl, rfl⟩
  case round =>
    obtain ⟨k, hk, rfl, rfl, hww⟩ := hrel
    obtain rfl : w = wr := hww.symm
    by_cases hkn : k < n
    · have hkni : (k : Int) < (n : Int) := by omega
      have h0k : (0 : Int) ≤ (k : Int) := by omega
      have hc := HR.out.cell k hkn
      obtain ⟨p, c, hsh⟩ := (HR.out.slv k hkn).shape
      rw [ni_length] at hsh
      rw [hsh] at hc
      have hle := HLE.out (k + 1) (by omega)
      rw [catL, List.length_append] at hle
      have ht := HT.out.2
      have hlen : (catL ls (k + 1)).length = (catL ls k).length + (ls k).length := by rw [catL, List.length_append]
      have HLEN := Lib.hid hlen
      obtain ⟨a, ha⟩ : ∃ a, a = (catL ls k).length := ⟨_, rfl⟩
      obtain ⟨b, hb⟩ : ∃ b, b = (ls k).length := ⟨_, rfl⟩
      rw [← ha, ← hb] at hle HLEN
      rw [← hb] at hc
      rw [← ha]
      have hab : (a : Int) + (b : Int) ≤ 8192 := by omega
      have ha0 : (0 : Int) ≤ (a : Int) := by omega
      have hb0 : (0 : Int) ≤ (b : Int) := by omega
      have hneg : decide ((a : Int) + (b : Int) < 0) = false := decide_eq_false (by omega)
      clear hsh ht hle hlen ha hb
      go_wp2_with fail
      refine ⟨⟨k + 1, by omega, ?_, by go_num, by first | rfl | trivial⟩, by simp only [intOf]; omega⟩
      rw [HLEN.out]
      go_num
    · have hkni : (n : Int) ≤ (k : Int) := by omega
      obtain rfl : k = n := by omega
      go_wp2_with fail
      refine (HG.out _).mono ?_
      rintro e w1 ⟨cg, rfl, hown, hbel⟩
      have HOWN := Lib.hid hown
      have HBEL := Lib.hid hbel
      clear hown hbel
      go_wp2_with fail
      go_loopw [6, 27] (fun v6 v27 wr => ∃ j : Nat, j ≤ k ∧ wr.ownsRow w.heap.size 3 1 v6 (catL ls j).length (ni (catL ls j)) ∧ v27 = .int .i64 (j : Int) ∧ Below w.heap.size w wr) (fun _ v27 _ => k - (intOf v27).toNat)
      case atStart => exact ⟨0, Nat.zero_le _, HOWN.out, rfl, HBEL.out⟩
      case round =>
        obtain ⟨j, hj, hown, rfl, hbel⟩ := hrel
        have HOW := Lib.hid hown
        have HBL := Lib.hid hbel
        obtain ⟨p6, c6, hsh6⟩ := own_shape hown
        subst hsh6
        clear hown hbel HOWN HBEL
        by_cases hjk : j < k
        · have hjki : (j : Int) < (k : Int) := by omega
          have h0j : (0 : Int) ≤ (j : Int) := by omega
          have hR := HR.out.below HBL.out
          have hc := hR.cell j hjk
          have hs := hR.slv j hjk
          obtain ⟨p, c, hsh⟩ := hs.shape
          rw [ni_length] at hsh
          rw [hsh] at hc hs
          have hsk := hs.toK
          rw [ni_length] at hsk
          have HSK := Lib.hid hsk
          have hle := HLE.out (j + 1) (by omega)
          have ht := HT.out.2
          have hlen : (catL ls (j + 1)).length = (catL ls j).length + (ls j).length := by rw [catL, List.length_append]
          have hlt : (catL ls j).length + (ls j).length ≤ 8192 := by omega
          have HLT := Lib.hid hlt
          have hone : ∀ y ∈ ni (ls j), y.oneCell' = true := fun y hy => by
            obtain ⟨x, -, rfl⟩ := List.mem_map.1 hy; rfl
          have HONE := Lib.hid hone
          clear hsh ht hle hlen hR hs hsk hlt hone
          go_wp2_with (refine wpList_appK 53 3 i0 (.int .i64 0) 1 8 Tryd.underlying53 HI0.out.1 HI0.out.2.1 HI0.out.2.2.1 HI0.out.2.2.2 rfl (by decide) (by decide) rfl (.tmp 31) (.tmp 32) rfl w.heap.size (.slice p6 (catL ls j).length c6) (.slice p (ls j).length c) (catL ls j).length (ls j).length (ni (catL ls j)) (ni (ls j)) rfl rfl HONE.out HOW.out HSK.out HBL.out.size (by have := HLT.out; omega) ?_; intro v' w9 hown hgrow _; obtain ⟨p9, cap9, hv'⟩ := own_shape hown; have HOW9 := Lib.hid hown; have HGR := Lib.hid hgrow; clear hown hgrow; subst hv')
          refine ⟨⟨j + 1, by omega, ?_, by go_num, HBL.out.grown HGR.out HBL.out.size (fun k e => (HOW.out.lt k e).1)⟩, by simp only [intOf]; omega⟩
          have h9 := HOW9.out
          rw [catL, List.length_append, ni_append]
          exact h9
        · have hjki : (k : Int) ≤ (j : Int) := by omega
          obtain rfl : j = k := by omega
          go_wp2_with fail
          go_ret
          exact ⟨_, rfl, own_toV HOW.out, HBL.out⟩
end Go.Proofs.YtefeilgbofphjaaDoor
/-
  fixedBooks.
-/
namespace Go.Proofs.YtefeilgbofphjaaDoor
open Go.RowKit
theorem may_fixS : Hf.may Inf.fixS = 0 := by kernel_rfl
theorem may_fixD : Hf.may Inf.fixD = 0 := by kernel_rfl
theorem lit1 (w : World) (x : Int) : SlV (w.alloc (.cells #[.int .i64 x] 3)) (.slice (some ⟨w.heap.size, 0, none⟩) 1 1) (ni [x]) :=
  .inl ⟨w.heap.size, 0, 1, rfl, Nat.le_refl _, fun i v hi => by rw [Nat.zero_add]; exact (cell_of_row _ _ _ _ _ _ (heap_alloc_new w _)).trans (by simpa [ni] using hi)⟩
/-- The fixed books are made now. -/
theorem StAt.fixes {w : World} {B gt gb g most : Nat} {O : Nat → Prop} {ov pl : Value} {out : List UInt8} {r : List Bool} (h : StAt w B O gt gb g ov most out pl r) (pl' : Value) :
    StAt (w.setCell ⟨gt, 4, none⟩ pl') B O gt gb g ov most out pl' r ∧ OnlyS (own3 O gt ov) w (w.setCell ⟨gt, 4, none⟩ pl') := by
  have ho2 : OnlyS (· = gt) w (w.setCell ⟨gt, 4, none⟩ pl') := OnlyS.setCell _ _ _ _ rfl
  have hrow2 : (w.setCell ⟨gt, 4, none⟩ pl').heap[gt]? = some (.cells #[.pointer (some ⟨g, 0, none⟩), hand gb, .int .i64 (most : Int), ov, pl'] 69 (0, 0)) := (heap_setCell_same _ _ _ _ _ _ h.row).trans rfl
  refine ⟨⟨⟨cell_of_row _ _ _ _ _ _ hrow2, cell_of_row _ _ _ _ _ _ hrow2, h.b.out, h.b.ge, h.b.hand.only ho2 (fun i hi => ?_) (fun hi => h.ne hi.symm)⟩, hrow2, own_stays h.own (fun k hk => heap_setCell_other _ _ _ _ (h.apart k hk).2.1), h.apart, h.ne, h.le, h.small⟩, ho2.mono (fun i _ hi => .inr (.inl hi))⟩
  rw [hi]
  exact ⟨h.b.out, h.b.ge⟩
/-- The fixed books: not made yet, or there. -/
def FixAt (w : World) (T : Nat → Prop) (pl : Value) : Prop := pl = .pointer none ∨ ∃ gbk ks kd, pl = .pointer (some ⟨gbk, 0, none⟩) ∧ BooksAt w T gbk ks kd Inf.fixS Inf.fixD
theorem FixAt.next {w w' : World} {T T' : Nat → Prop} {pl : Value} (h : FixAt w T pl) (ho : OnlyS T w w') (hg : Grew w T T') : FixAt w' T' pl := by
  rcases h with h | ⟨gbk, ks, kd, h, hb⟩
  · exact .inl h
  · exact .inr ⟨gbk, ks, kd, h, hb.next ho hg⟩
def FixPost (T : Nat → Prop) (B : Nat) (O : Nat → Prop) (gt gb g : Nat) (ov : Value) (most : Nat) (out : List UInt8) (r : List Bool) (w : World) (e : Ending) (w' : World) : Prop :=
  ∃ gbk ks kd, e = .returned (.pointer (some ⟨gbk, 0, none⟩)) ∧ OnlyS (own3 O gt ov) w w' ∧ StAt w' B O gt gb g ov most out (.pointer (some ⟨gbk, 0, none⟩)) r ∧ BooksAt w' T gbk ks kd Inf.fixS Inf.fixD
set_option maxRecDepth 100000 in
set_option maxHeartbeats 2000000 in
theorem fixed_walk (w : World) (B : Nat) (O : Nat → Prop) (gt gb g : Nat) (ov : Value) (most : Nat) (out : List UInt8) (pl : Value) (r : List Bool) (T : Nat → Prop) (h : StAt w B O gt gb g ov most out pl r) (hT : ∀ i, T i → i < w.heap.size) (hTo : ∀ i, own3 O gt ov i → T i) (hf : FixAt w T pl) :
    Calls Tryd.prog 43 #[.pointer (some ⟨gt, 0, none⟩)] w (FixPost T B O gt gb g ov most out r w) := by
  have H := Lib.hid h
  have c4 := h.c4
  have HT := Lib.hid (And.intro hT hTo)
  clear hT hTo
  rcases hf with rfl | ⟨gbk, ks, kd, rfl, hb⟩
  · clear h
    go_enter Tryd.func43, Tryd.ntmps43
    go_wp2_with fail
    refine (repeat_walk _ _ 8 144 (lit1 _ _) (by decide) (by decide)).mono ?_
    rintro e w1 ⟨v1, rfl, hv, hb⟩
    obtain ⟨p1, k1, rfl⟩ := hv.shape
    have hs : Below w.heap.size w w1 := ((Below.refl w.heap.size w).alloc (Nat.le_refl _) _).trans (hb.mono (by simp))
    have HB1 := Lib.hid hs
    have HV1 := Lib.hid hv
    clear hv hb hs
    go_wp2_with fail
    refine (repeat_walk _ _ 9 112 (lit1 _ _) (by decide) (by decide)).mono ?_
    rintro e w2 ⟨v2, rfl, hv, hb⟩
    obtain ⟨p2, k2, rfl⟩ := hv.shape
    have hs : Below w1.heap.size w1 w2 := ((Below.refl w1.heap.size w1).alloc (Nat.le_refl _) _).trans (hb.mono (by simp))
    have HB2 : Hid (Below w.heap.size w w2) := Lib.hid (HB1.out.trans (hs.mono HB1.out.size))
    have HV1_2 := Lib.hid (HV1.out.below hs (Nat.le_refl _))
    have HV2 := Lib.hid hv
    clear hv hb hs
    go_wp2_with fail
    refine (repeat_walk _ _ 7 24 (lit1 _ _) (by decide) (by decide)).mono ?_
    rintro e w3 ⟨v3, rfl, hv, hb⟩
    obtain ⟨p3, k3, rfl⟩ := hv.shape
    have hs : Below w2.heap.size w2 w3 := ((Below.refl w2.heap.size w2).alloc (Nat.le_refl _) _).trans (hb.mono (by simp))
    have HB3 : Hid (Below w.heap.size w w3) := Lib.hid (HB2.out.trans (hs.mono HB2.out.size))
    have HV1_3 := Lib.hid (HV1_2.out.below hs (Nat.le_refl _))
    have HV2_3 := Lib.hid (HV2.out.below hs (Nat.le_refl _))
    have HV3 := Lib.hid hv
    clear hv hb hs
    go_wp2_with fail
    refine (repeat_walk _ _ 8 8 (lit1 _ _) (by decide) (by decide)).mono ?_
    rintro e w4 ⟨v4, rfl, hv, hb⟩
    obtain ⟨p4, k4, rfl⟩ := hv.shape
    have hs : Below w3.heap.size w3 w4 := ((Below.refl w3.heap.size w3).alloc (Nat.le_refl _) _).trans (hb.mono (by simp))
    have HB4 : Hid (Below w.heap.size w w4) := Lib.hid (HB3.out.trans (hs.mono HB3.out.size))
    have HV1_4 := Lib.hid (HV1_3.out.below hs (Nat.le_refl _))
    have HV2_4 := Lib.hid (HV2_3.out.below hs (Nat.le_refl _))
    have HV3_4 := Lib.hid (HV3.out.below hs (Nat.le_refl _))
    have HV4 := Lib.hid hv
    clear hv hb hs
    go_wp2_with fail
    have HR : Hid (RowsAt (w4.alloc (.cells #[.slice p1 144 k1, .slice p2 112 k2, .slice p3 24 k3, .slice p4 8 k4] 53)) w4.heap.size 0 4 (fun i => ([Value.slice p1 144 k1, .slice p2 112 k2, .slice p3 24 k3, .slice p4 8 k4] : List Value).getD i (.pointer none)) (fun i => ([List.replicate 144 8, List.replicate 112 9, List.replicate 24 7, List.replicate 8 8] : List (List Int)).getD i [])) := Lib.hid (by
      have hb : Below w4.heap.size w4 (w4.alloc (.cells #[.slice p1 144 k1, .slice p2 112 k2, .slice p3 24 k3, .slice p4 8 k4] 53)) := (Below.refl _ _).alloc (Nat.le_refl _) _
      have hrow := heap_alloc_new w4 (.cells #[.slice p1 144 k1, .slice p2 112 k2, .slice p3 24 k3, .slice p4 8 k4] 53)
      refine ⟨fun i hi => ?_, fun i hi => ?_⟩
      · rw [Nat.zero_add, cell_of_row _ _ _ _ _ _ hrow]
        rcases i with _ | _ | _ | _ | i
        · rfl
        · rfl
        · rfl
        · rfl
        · omega
      · rcases i with _ | _ | _ | _ | i
        · exact HV1_4.out.below hb (Nat.le_refl _)
        · exact HV2_4.out.below hb (Nat.le_refl _)
        · exact HV3_4.out.below hb (Nat.le_refl _)
        · exact HV4.out.below hb (Nat.le_refl _)
        · omega)
    have hcat : catL (fun i => ([List.replicate 144 8, List.replicate 112 9, List.replicate 24 7, List.replicate 8 8] : List (List Int)).getD i []) 4 = Inf.fixS := by
      unfold Inf.fixS
      simp only [catL, List.nil_append]
      rfl
    have hlen : (catL (fun i => ([List.replicate 144 8, List.replicate 112 9, List.replicate 24 7, List.replicate 8 8] : List (List Int)).getD i []) 4).length = 288 := by
      rw [hcat]; unfold Inf.fixS; simp
    have HC := Lib.hid (concat_walk _ _ 0 4 4 _ _ HR.out (Nat.le_refl _) (by decide) (by rw [hlen]; decide) (by rw [hlen]; decide))
    rw [hcat] at HC
    clear hcat hlen HR HV1 HV2 HV3 HV4 HV1_2 HV1_3 HV1_4 HV2_3 HV2_4 HV3_4
    refine HC.out.mono ?_
    rintro e w5 ⟨v5, rfl, hv, hb⟩
    have hs : Below w4.heap.size w4 w5 := ((Below.refl w4.heap.size w4).alloc (Nat.le_refl _) _).trans (hb.mono (by simp))
    have HB5 : Hid (Below w.heap.size w w5) := Lib.hid (HB4.out.trans (hs.mono HB4.out.size))
    obtain ⟨p5, k5, rfl⟩ := hv.shape
    have HV5 := Lib.hid hv
    clear hv hb hs HC
    go_wp2_with fail
    refine (book_walk _ _ _ HV5.out).mono ?_
    rintro e w6 ⟨hb, hp⟩
    rw [if_pos may_fixS] at hp
    obtain ⟨g6, rfl, hbk⟩ := hp
    have HB6 : Hid (Below w.heap.size w w6) := Lib.hid (HB5.out.trans (hb.mono HB5.out.size))
    have hle5 := HB5.out.size
    have HK6 : Hid (BookAt w6 w5.heap.size w6.heap.size g6 Inf.fixS) := Lib.hid hbk
    clear hb hbk
    go_wp2_with fail
    refine (repeat_walk _ _ 5 32 (lit1 _ _) (by decide) (by decide)).mono ?_
    rintro e w7 ⟨v7, rfl, hv, hb⟩
    obtain ⟨p7, k7, rfl⟩ := hv.shape
    have hs : Below w6.heap.size w6 w7 := ((Below.refl w6.heap.size w6).alloc (Nat.le_refl _) _).trans (hb.mono (by simp))
    have HB7 : Hid (Below w.heap.size w w7) := Lib.hid (HB6.out.trans (hs.mono HB6.out.size))
    have HS7 := Lib.hid hs
    have HV7 := Lib.hid hv
    clear hv hb hs
    go_wp2_with fail
    refine (book_walk _ _ _ HV7.out).mono ?_
    rintro e w8 ⟨hb, hp⟩
    have hfd : List.replicate 32 5 = Inf.fixD := rfl
    rw [hfd, if_pos may_fixD] at hp
    obtain ⟨g8, rfl, hbk⟩ := hp
    have HB8 : Hid (Below w.heap.size w w8) := Lib.hid (HB7.out.trans (hb.mono HB7.out.size))
    have HK8 : Hid (BookAt w8 w7.heap.size w8.heap.size g8 Inf.fixD) := Lib.hid hbk
    have HS8 : Hid (Below w6.heap.size w6 w8) := Lib.hid (HS7.out.trans (hb.mono HS7.out.size))
    clear hb hbk hfd
    have HW : Hid (Below w.heap.size w (w8.alloc (.cells #[.pointer (some ⟨g6, 0, none⟩), .pointer (some ⟨g8, 0, none⟩)] 127))) := Lib.hid (HB8.out.alloc HB8.out.size _)
    have HSS : Hid (StAt (w8.alloc (.cells #[.pointer (some ⟨g6, 0, none⟩), .pointer (some ⟨g8, 0, none⟩)] 127)) B O gt gb g ov most out (.pointer none) r) := Lib.hid (H.out.same (OnlyS.of_below HW.out))
    have c4' := HSS.out.c4
    have f4' := HSS.out.free 4
    go_wp2_with fail
    go_ret
    have hrow := heap_alloc_new w8 (.cells #[.pointer (some ⟨g6, 0, none⟩), .pointer (some ⟨g8, 0, none⟩)] 127)
    have hgb : w8.heap.size < (w8.alloc (.cells #[.pointer (some ⟨g6, 0, none⟩), .pointer (some ⟨g8, 0, none⟩)] 127)).heap.size := by simp
    have ha : Below w8.heap.size w8 (w8.alloc (.cells #[.pointer (some ⟨g6, 0, none⟩), .pointer (some ⟨g8, 0, none⟩)] 127)) := (Below.refl _ _).alloc (Nat.le_refl _) _
    generalize (w8.alloc (.cells #[.pointer (some ⟨g6, 0, none⟩), .pointer (some ⟨g8, 0, none⟩)] 127)) = w9 at *
    have hT := HT.out.1
    have hle7 := HB7.out.size
    have hle8 := HB8.out.size
    have h6 : Below w6.heap.size w6 w9 := HS8.out.trans (ha.mono HS8.out.size)
    have hk6 : BookAt w9 w5.heap.size w6.heap.size g6 Inf.fixS := HK6.out.only (S := fun _ => False) (OnlyS.of_below h6) (fun _ _ _ h => h)
    have hk8 : BookAt w9 w7.heap.size w8.heap.size g8 Inf.fixD := HK8.out.only (S := fun _ => False) (OnlyS.of_below ha) (fun _ _ _ h => h)
    have hbk : BooksAt w9 T w8.heap.size g6 g8 Inf.fixS Inf.fixD :=
      ⟨cell_of_row _ _ _ _ _ _ hrow, cell_of_row _ _ _ _ _ _ hrow, fun hi => by have := hT _ hi; omega,
       ⟨⟨_, _, hk6, fun i h1 _ h3 => by have := hT i h3; omega, h6.size⟩, deep_good (may_good may_fixS), (may_good may_fixS).1⟩,
       ⟨⟨_, _, hk8, fun i h1 _ h3 => by have := hT i h3; omega, ha.size⟩, deep_good (may_good may_fixD), (may_good may_fixD).1⟩⟩
    obtain ⟨hs2, ho2⟩ := HSS.out.fixes (.pointer (some ⟨w8.heap.size, 0, none⟩))
    exact ⟨w8.heap.size, g6, g8, rfl, (OnlyS.of_below HW.out).trans ho2, hs2, hbk.next (ho2.mono fun i _ hi => HT.out.2 i hi) (Grew.refl _ _)⟩
  · have HBK := Lib.hid hb
    clear h hb
    go_enter Tryd.func43, Tryd.ntmps43
    go_wp2_with fail
    go_ret
    exact ⟨gbk, ks, kd, rfl, OnlyS.refl _ _, H.out, HBK.out⟩
end Go.Proofs.YtefeilgbofphjaaDoor
