/-
  Merged, in the order in which they build: Tel Put Copy Expand.
-/
import Derived.StillTailTactics
import Derived.Deep.LoopGhost
import Derived.Test.YtefeilgbofphjaaDoorMg4
import Derived.Test.YtefeilgbofphjaaDoorMg8
import Derived.Test.YtefeilgbofphjaaDoorMg11
/-
  lengthsBook: the book by which lengths are told.
-/
namespace Go.Proofs.YtefeilgbofphjaaDoor
open Go.RowKit
/-- The table of the order, as the program's text lays it. -/
def OrdAt (w : World) : Prop := ∀ k, k < 19 → w.cell? ⟨0, k, none⟩ = some (.int .i64 ((Inf.order.getD k 0 : Nat) : Int))
theorem order_lt (k : Nat) (h : k < 19) : Inf.order.getD k 0 < 19 := by
  have : ∀ k, k < 19 → Inf.order.getD k 0 < 19 := by decide
  exact this k h
theorem OrdAt.only {w w' : World} {S : Nat → Prop} (h : OrdAt w) (ho : OnlyS S w w') (hS : ¬ S 0) : OrdAt w' := fun k hk => ho.cell (h k hk) hS
/-- The lengths of the signs' own codes, under way. -/
structure TelAt (w wr : World) (B : Nat) (O O' : Nat → Prop) (gt gb g ga : Nat) (lens : List Int) (r : List Bool) : Prop where
  b : StB wr B O' gt gb g r
  row : wr.heap[ga]? = some (.cells (ni lens).toArray 76 (0, 0))
  len : lens.length = 19
  apart : ¬ O' ga
  ga : w.heap.size ≤ ga
  only : OnlyS O w wr
  grew : Grew w O O'
theorem TelAt.read {w wr w' : World} {B gt gb g ga : Nat} {O O' O2 : Nat → Prop} {lens : List Int} {r r' : List Bool} (h : TelAt w wr B O O' gt gb g ga lens r) (ho : OnlyS O' wr w') (hs : StB w' B O2 gt gb g r') (hg : Grew wr O' O2) : TelAt w w' B O O2 gt gb g ga lens r' :=
  ⟨hs, (ho.block ga (Array.getElem?_eq_some_iff.1 h.row).1 h.apart).trans h.row, h.len, hg.not h.apart (Array.getElem?_eq_some_iff.1 h.row).1, h.ga, h.only.trans' ho (fun i hi => h.grew i hi), h.grew.trans hg h.only.size⟩
theorem TelAt.cell {w wr : World} {B gt gb g ga : Nat} {O O' : Nat → Prop} {lens : List Int} {r : List Bool} (h : TelAt w wr B O O' gt gb g ga lens r) (y : Nat) (hy : y < 19) : wr.cell? ⟨ga, y, none⟩ = some (.int .i64 (lens.getD y 0)) := by
  rw [cell_of_row _ _ _ _ _ _ h.row]
  have := h.len
  simp [ni, show y < lens.length by omega]
theorem TelAt.set {w wr : World} {B gt gb g ga : Nat} {O O' : Nat → Prop} {lens : List Int} {r : List Bool} (h : TelAt w wr B O O' gt gb g ga lens r) (hB : B ≤ w.heap.size) (hlt : gt < w.heap.size ∧ gb < w.heap.size) (i : Nat) (z : Int) : TelAt w (wr.setCell ⟨ga, i, none⟩ (.int .i64 z)) B O O' gt gb g ga (lens.set i z) r := by
  have hga := h.ga
  have ho : OnlyS (· = ga) wr (wr.setCell ⟨ga, i, none⟩ (.int .i64 z)) := OnlyS.setCell _ _ _ _ rfl
  refine ⟨h.b.off ho (fun j hj => by rw [hj]; exact ⟨h.apart, by omega⟩) (fun e => by have : gt = ga := e; omega) (fun e => by have : gb = ga := e; omega), ?_, by rw [List.length_set]; exact h.len, h.apart, h.ga, h.only.trans' ho (fun j hj => by rw [hj]; exact .inr hga), h.grew⟩
  rw [heap_setCell_same _ _ _ _ _ _ h.row]
  simp [ni, List.map_set]
def telFin (T : Inf.Res (List Int)) : Inf.Res (List Int) :=
  match T with
  | .ok (zs, r) => (match Inf.book zs with | .ok _ => .ok (zs, r) | .error e => .error e)
  | .error e => .error e
def tellR (told : Nat) (r : List Bool) : Inf.Res (List Int) := telFin (Inf.teller told (List.replicate 19 0) 0 r)
def TelPost (R0 : Inf.Res (List Int)) (B : Nat) (O : Nat → Prop) (gt gb g : Nat) (w : World) (e : Ending) (w' : World) : Prop :=
  OnlyS O w w' ∧ match R0 with
  | .ok (zs, r') => ∃ gk O', e = .returned (.pointer (some ⟨gk, 0, none⟩)) ∧ StB w' B O' gt gb g r' ∧ Grew w O O' ∧ BkAt w' O' gk zs
  | .error er => e = pan er
theorem zeros19 : (ni (List.replicate 19 0)).toArray = #[.int .i64 0, .int .i64 0, .int .i64 0, .int .i64 0, .int .i64 0, .int .i64 0, .int .i64 0, .int .i64 0, .int .i64 0, .int .i64 0, .int .i64 0, .int .i64 0, .int .i64 0, .int .i64 0, .int .i64 0, .int .i64 0, .int .i64 0, .int .i64 0, .int .i64 0] := by rfl
set_option maxRecDepth 100000 in
set_option maxHeartbeats 1000000 in
theorem lengthsBook_walk (w : World) (B : Nat) (O : Nat → Prop) (gt gb g told : Nat) (r : List Bool) (h : StB w B O gt gb g r) (ht : told ≤ 19) (hB : B ≤ w.heap.size) (hB0 : 0 < B) (hord : OrdAt w) :
    Calls Tryd.prog 71 #[.pointer (some ⟨gt, 0, none⟩), .int .i64 (told : Int)] w (TelPost (tellR told r) B O gt gb g w) := by
  obtain ⟨R0, hR0⟩ : ∃ R0, R0 = tellR told r := ⟨_, rfl⟩
  rw [← hR0]
  have HLT : Hid (gt < w.heap.size ∧ gb < w.heap.size) := Lib.hid ⟨h.lt, h.hand.box.lt⟩
  have HB := Lib.hid (And.intro hB hB0)
  have HO := Lib.hid hord
  have HO0 : Hid (¬ O 0) := Lib.hid (fun ho => by have := (h.hand.src.own _ ho).1; omega)
  have H0 : Hid (TelAt w (w.alloc (.cells (ni (List.replicate 19 0)).toArray 76)) B O O gt gb g w.heap.size (List.replicate 19 0) r) := Lib.hid
    ⟨h.same (OnlyS.alloc _ _), heap_alloc_new _ _, by simp, fun ho => by have := (h.hand.src.own _ ho).2; omega, Nat.le_refl _, OnlyS.alloc _ _, Grew.refl _ _⟩
  rw [zeros19] at H0
  have HR0 := Lib.hid hR0
  clear h hB hB0 hord hR0
  go_enter Tryd.func71, Tryd.ntmps71
  go_wp2_with fail
  generalize hw1 : w.alloc (.cells #[.int .i64 0, .int .i64 0, .int .i64 0, .int .i64 0, .int .i64 0, .int .i64 0, .int .i64 0, .int .i64 0, .int .i64 0, .int .i64 0, .int .i64 0, .int .i64 0, .int .i64 0, .int .i64 0, .int .i64 0, .int .i64 0, .int .i64 0, .int .i64 0, .int .i64 0] 76) = w1 at *
  clear hw1
  obtain ⟨T0, hT0⟩ : ∃ T0, T0 = Inf.teller told (List.replicate 19 0) 0 r := ⟨_, rfl⟩
  have HT0 := Lib.hid hT0
  have hal : Tryd.prog.arrayLen 76 = 19 := by kernel_rfl
  clear hT0
  go_loopw [6, 8] (fun _ v8 wr => ∃ k : Nat, k ≤ told ∧ v8 = .int .i64 k ∧ ∃ O' lens rc, TelAt w wr B O O' gt gb g w.heap.size lens rc ∧ T0 = Inf.teller (told - k) lens k rc) (fun _ v8 _ => told - (intOf v8).toNat)
  case atStart => exact ⟨0, Nat.zero_le _, rfl, O, _, r, H0.out, HT0.out⟩
  case round =>
    clear H0
    obtain ⟨k, hk, rfl, O1, lens, rc, h1, he1⟩ := hrel
    have H1 := Lib.hid h1
    have HR1 : Hid (R0 = telFin T0) := Lib.hid (by rw [HR0.out, HT0.out]; rfl)
    by_cases hkt : k < told
    · have hkti : (k : Int) < (told : Int) := by omega
      have hk19 : (k : Int) < 19 := by omega
      obtain ⟨f, hf⟩ : ∃ f, told - k = f + 1 := ⟨told - k - 1, by omega⟩
      rw [hf, Inf.teller] at he1
      obtain ⟨y, hy⟩ : ∃ y, y = Inf.order.getD k 0 := ⟨_, rfl⟩
      have hy19 : y < 19 := by rw [hy]; exact order_lt k (by omega)
      have hy19i : (y : Int) < 19 := by omega
      have hO1 : ¬ O1 0 := fun h => by have := (h1.b.hand.src.own _ h).1; have := HB.out; omega
      have hOrd := HO.out.only h1.only HO0.out
      have hc := hOrd k (by omega)
      rw [← hy] at hc
      have HYY := Lib.hid hy.symm
      cases hn : Inf.numb 3 rc with
      | error er =>
        have HN : Hid (∀ W, OnlyS (fun _ => False) wr W → Calls Tryd.prog 40 #[.pointer (some ⟨gt, 0, none⟩), .int .i64 3] W (RPost (.error er : Inf.Res Nat) iv B O1 gt gb g wr)) := Lib.hid (fun W hW => by rw [← hn]; exact (number_walk W B O1 gt gb g 3 rc (h1.b.same hW) (by omega)).mono fun e w' hr => hr.before (hW.mono fun _ _ h => h.elim) (Grew.refl _ _))
        have HE : Hid (R0 = .error er) := Lib.hid (by rw [HR1.out, he1, hn]; rfl)
        clear h1 he1 hn HR1 hOrd hy
        go_wp2_with fail
        go_region_dies
        all_goals (go_at_call 40; refine (HN.out _ (OnlyS.drew _)).mono ?_; rintro e w2 ⟨ho, rfl⟩; exact ⟨rfl, H1.out.only.trans' ho (fun i hi => H1.out.grew i hi), by rw [HE.out]⟩)
      | ok p =>
        obtain ⟨x, r2⟩ := p
        have HN : Hid (∀ W, OnlyS (fun _ => False) wr W → Calls Tryd.prog 40 #[.pointer (some ⟨gt, 0, none⟩), .int .i64 3] W (RPost (.ok (x, r2) : Inf.Res Nat) iv B O1 gt gb g wr)) := Lib.hid (fun W hW => by rw [← hn]; exact (number_walk W B O1 gt gb g 3 rc (h1.b.same hW) (by omega)).mono fun e w' hr => hr.before (hW.mono fun _ _ h => h.elim) (Grew.refl _ _))
        unfold iv at HN
        rw [hn] at he1
        simp only at he1
        rw [HYY.out] at he1
        have HE := Lib.hid he1
        have HHc : Hid (∀ w2, OnlyS O1 wr w2 → w2.cell? ⟨0, k, none⟩ = some (.int .i64 (y : Int))) := Lib.hid (fun w2 h2 => h2.cell hc hO1)
        have hf' : f = told - (k + 1) := by omega
        have HF := Lib.hid hf'
        clear h1 he1 hn HR1 hOrd hy hf hf'
        go_wp2_with fail
        go_region_law (first | (go_simp; go_at_call 40; refine (HN.out _ (OnlyS.drew _)).mono ?_; rintro e w2 ⟨ho, rfl, O2, hs2, hg2⟩; have H2 := Lib.hid (H1.out.read ho hs2 hg2); have hc2 := HHc.out w2 ho; have hf2 := frozen_of_row _ _ y _ _ H2.out.row; have hcy2 := H2.out.cell y hy19; clear ho hs2 hg2))
        all_goals go_wp2_with fail
        all_goals exact ⟨⟨k + 1, by omega, by go_num, O2, _, r2, H2.out.set HB.out.1 HLT.out y (x : Int), by rw [HE.out, ← HF.out]⟩, by simp [intOf]; omega⟩
    · have hkti : (told : Int) ≤ (k : Int) := by omega
      obtain rfl : k = told := by omega
      rw [Nat.sub_self, Inf.teller] at he1
      have HBK := Lib.hid (book_walk wr (.slice (some ⟨w.heap.size, 0, none⟩) 19 19) lens (.inl ⟨w.heap.size, 0, 19, by rw [ni_length, h1.len], by rw [ni_length, h1.len]; exact Nat.le_refl _, fun i v hi => by rw [Nat.zero_add, cell_of_row _ _ _ _ _ _ h1.row]; simpa using hi⟩))
      have HR2 : Hid (R0 = telFin (.ok (lens, rc))) := Lib.hid (by rw [HR1.out, he1])
      clear h1 he1 HR1 HT0
      go_wp2_with fail
      refine HBK.out.mono ?_
      rintro e w2 ⟨hbel, hp⟩
      have hoF : OnlyS (fun _ => False) wr w2 := OnlyS.of_below hbel
      have HOW := Lib.hid (H1.out.only.trans (hoF.mono fun _ _ h => h.elim))
      by_cases hmz : Hf.may lens = 0
      · rw [if_pos hmz] at hp
        obtain ⟨gk, rfl, hbk⟩ := hp
        have HE : Hid (R0 = .ok (lens, rc)) := Lib.hid (by rw [HR2.out]; unfold telFin Inf.book; simp only [if_pos hmz])
        have HS : Hid (StB w2 B O1 gt gb g rc) := Lib.hid (H1.out.b.same hoF)
        have HBK2 : Hid (BkAt w2 O1 gk lens) := Lib.hid ⟨⟨wr.heap.size, w2.heap.size, hbk, fun i h1 h2 ho => by have := (H1.out.b.hand.src.own _ ho).2; omega, Nat.le_refl _⟩, deep_good (may_good hmz), by rw [H1.out.len]; omega⟩
        clear hbk hbel hoF HBK hmz
        go_wp2_with fail
        go_ret
        exact ⟨HOW.out, by rw [HE.out]; exact ⟨gk, O1, rfl, HS.out, H1.out.grew, HBK2.out⟩⟩
      · rw [if_neg hmz] at hp
        subst hp
        have HE : Hid (R0 = .error (Hf.may lens)) := Lib.hid (by rw [HR2.out]; unfold telFin Inf.book; simp only [if_neg hmz])
        clear hbel hoF HBK hmz
        go_wp2_with fail
        exact ⟨rfl, HOW.out, by rw [HE.out]⟩
end Go.Proofs.YtefeilgbofphjaaDoor
/-
  A stream with what went out of it; put.
-/
namespace Go.Proofs.YtefeilgbofphjaaDoor
open Go.RowKit
/-- A stream: its source, its cap, what went out, the fixed books. -/
structure StAt (w : World) (B : Nat) (O : Nat → Prop) (gt gb g : Nat) (ov : Value) (most : Nat) (out : List UInt8) (pl : Value) (r : List Bool) : Prop where
  b : StB w B O gt gb g r
  row : w.heap[gt]? = some (.cells #[.pointer (some ⟨g, 0, none⟩), hand gb, .int .i64 (most : Int), ov, pl] 69 (0, 0))
  own : w.ownsRow B 5 1 ov out.length (bl out)
  apart : ∀ j, ov.ownBlock = some j → ¬ O j ∧ j ≠ gt ∧ j ≠ gb
  ne : gt ≠ gb
  le : out.length ≤ most
  small : most ≤ 1073741824
/-- A stream's own blocks that are written. -/
def own3 (O : Nat → Prop) (gt : Nat) (ov : Value) : Nat → Prop := fun i => O i ∨ i = gt ∨ ov.ownBlock = some i
namespace StAt
variable {w w' : World} {B gt gb g most : Nat} {O O' : Nat → Prop} {ov pl : Value} {out : List UInt8} {r r' : List Bool}
theorem c2 (h : StAt w B O gt gb g ov most out pl r) : w.cell? ⟨gt, 2, none⟩ = some (.int .i64 (most : Int)) := cell_of_row _ _ _ _ _ _ h.row
theorem c3 (h : StAt w B O gt gb g ov most out pl r) : w.cell? ⟨gt, 3, none⟩ = some ov := cell_of_row _ _ _ _ _ _ h.row
theorem c4 (h : StAt w B O gt gb g ov most out pl r) : w.cell? ⟨gt, 4, none⟩ = some pl := cell_of_row _ _ _ _ _ _ h.row
theorem free (h : StAt w B O gt gb g ov most out pl r) (o : Nat) : w.frozen? ⟨gt, o, none⟩ = false := frozen_of_row _ _ _ _ _ h.row
theorem read (h : StAt w B O gt gb g ov most out pl r) (ho : OnlyS O w w') (hb : StB w' B O' gt gb g r') (hg : Grew w O O') : StAt w' B O' gt gb g ov most out pl r' :=
  ⟨hb, (ho.block gt h.b.lt h.b.out).trans h.row, own_stays h.own (fun k hk => ho.block k (own_lt h.own k hk).2 (h.apart k hk).1), fun j hj => ⟨hg.not (h.apart j hj).1 (own_lt h.own j hj).2, (h.apart j hj).2⟩, h.ne, h.le, h.small⟩
theorem same (h : StAt w B O gt gb g ov most out pl r) (ho : OnlyS (fun _ => False) w w') : StAt w' B O gt gb g ov most out pl r :=
  h.read (ho.mono fun _ _ h => h.elim) (h.b.same ho) (Grew.refl _ _)
theorem lt3 (h : StAt w B O gt gb g ov most out pl r) : ∀ i, own3 O gt ov i → B ≤ i ∧ i < w.heap.size := fun i hi => by
  rcases hi with hi | rfl | hi
  · exact h.b.hand.src.own i hi
  · exact ⟨h.b.ge, h.b.lt⟩
  · exact own_lt h.own i hi
theorem notb (h : StAt w B O gt gb g ov most out pl r) : ¬ own3 O gt ov gb := fun hi => by
  rcases hi with hi | hi | hi
  · exact h.b.hand.out hi
  · exact h.ne hi.symm
  · exact (h.apart _ hi).2.2 rfl
/-- What went out is more now. -/
theorem wrote (h : StAt w B O gt gb g ov most out pl r) {ov' : Value} {out' : List UInt8} {w1 : World} (hown : w1.ownsRow B 5 1 ov' out'.length (bl out')) (hgr : w.grownBy w1 ov.ownBlock) (hat : ov'.ownBlock = ov.ownBlock ∨ ov'.ownBlock = some w.heap.size) (hle : out'.length ≤ most) :
    StAt (w1.setCell ⟨gt, 3, none⟩ ov') B O gt gb g ov' most out' pl r ∧ OnlyS (own3 O gt ov) w (w1.setCell ⟨gt, 3, none⟩ ov') ∧ Grew w (own3 O gt ov) (own3 O gt ov') := by
  have ho1 : OnlyS (fun i => ov.ownBlock = some i) w w1 := OnlyS.grown hgr (fun k hk => hk)
  have ho2 : OnlyS (· = gt) w1 (w1.setCell ⟨gt, 3, none⟩ ov') := OnlyS.setCell _ _ _ _ rfl
  have ho3 : OnlyS (fun i => i = gt ∨ ov.ownBlock = some i) w (w1.setCell ⟨gt, 3, none⟩ ov') := (ho1.mono fun _ _ h => .inr h).trans (ho2.mono fun _ _ h => .inl h)
  have hlt := h.b.lt
  have hng : ∀ j, ov.ownBlock = some j → j ≠ gt := fun j hj => (h.apart j hj).2.1
  have hrow1 := (ho1.block gt hlt (fun e => hng gt e rfl)).trans h.row
  have hrow2 : (w1.setCell ⟨gt, 3, none⟩ ov').heap[gt]? = some (.cells #[.pointer (some ⟨g, 0, none⟩), hand gb, .int .i64 (most : Int), ov', pl] 69 (0, 0)) := (heap_setCell_same _ _ _ _ _ _ hrow1).trans rfl
  have hap : ∀ j, ov'.ownBlock = some j → ¬ O j ∧ j ≠ gt ∧ j ≠ gb := fun j hj => by
    rcases hat with h1 | h1
    · exact h.apart j (by rw [← h1]; exact hj)
    · rw [h1] at hj
      cases hj
      have := h.b.hand.box.lt
      exact ⟨fun ho => by have := (h.b.hand.src.own _ ho).2; omega, by omega, by omega⟩
  refine ⟨⟨⟨cell_of_row _ _ _ _ _ _ hrow2, cell_of_row _ _ _ _ _ _ hrow2, h.b.out, h.b.ge, h.b.hand.only ho3 (fun i hi => ?_) (fun hi => ?_)⟩, hrow2, own_stays hown (fun k hk => heap_setCell_other _ _ _ _ (hap k hk).2.1), hap, h.ne, hle, h.small⟩, ho3.mono (fun i _ hi => .inr hi), fun i hi => ?_⟩
  · rcases hi with rfl | hi
    · exact ⟨h.b.out, h.b.ge⟩
    · exact ⟨(h.apart i hi).1, (own_lt h.own i hi).1⟩
  · rcases hi with hi | hi
    · exact h.ne hi.symm
    · exact (h.apart _ hi).2.2 rfl
  · rcases hi with hi | hi | hi
    · exact .inl (.inl hi)
    · exact .inl (.inr (.inl hi))
    · rcases hat with h1 | h1
      · exact .inl (.inr (.inr (by rw [← h1]; exact hi)))
      · rw [h1] at hi; cases hi; exact .inr (Nat.le_refl _)
end StAt
/-- What a call that lets bytes go out leaves. -/
def SPost (res : Inf.Res (List UInt8)) (B : Nat) (O : Nat → Prop) (gt gb g : Nat) (ov : Value) (most : Nat) (pl : Value) (w : World) (e : Ending) (w' : World) : Prop :=
  OnlyS (own3 O gt ov) w w' ∧ match res with
  | .ok (out', r') => e = .returned (.tuple #[]) ∧ ∃ O' ov', StAt w' B O' gt gb g ov' most out' pl r' ∧ Grew w (own3 O gt ov) (own3 O' gt ov')
  | .error er => e = pan er
theorem SPost.before {res : Inf.Res (List UInt8)} {B : Nat} {O O1 : Nat → Prop} {gt gb g most : Nat} {ov ov1 pl : Value} {w w1 : World} {e : Ending} {w' : World} (h : SPost res B O1 gt gb g ov1 most pl w1 e w') (ho : OnlyS (own3 O gt ov) w w1) (hg : Grew w (own3 O gt ov) (own3 O1 gt ov1)) : SPost res B O gt gb g ov most pl w e w' := by
  refine ⟨ho.trans' h.1 (fun i hi => hg i hi), ?_⟩
  have h2 := h.2
  cases res with
  | error er => exact h2
  | ok p => obtain ⟨he, O', ov', hs, hg2⟩ := h2; exact ⟨he, O', ov', hs, hg.trans hg2 ho.size⟩
theorem grew3 {w : World} {O O' : Nat → Prop} {gt : Nat} {ov : Value} (h : Grew w O O') : Grew w (own3 O gt ov) (own3 O' gt ov) := fun i hi => by
  rcases hi with hi | hi
  · rcases h i hi with h1 | h1
    · exact .inl (.inl h1)
    · exact .inr h1
  · exact .inl (.inr hi)
theorem only3 {w w' : World} {O : Nat → Prop} {gt : Nat} {ov : Value} (h : OnlyS O w w') : OnlyS (own3 O gt ov) w w' := h.mono fun _ _ h => .inl h
def putR (most : Nat) (out bs : List UInt8) (r : List Bool) : Inf.Res (List UInt8) := if most - out.length < bs.length then .error 22 else .ok (out ++ bs, r)
theorem put_wrote {w w1 : World} {B gt gb g most n m : Nat} {O : Nat → Prop} {po : Option Addr} {co : Nat} {v' pl : Value} {out bs : List UInt8} {r : List Bool} (h : StAt w B O gt gb g (.slice po out.length co) most out pl r) (hn : n = out.length) (hm : m = bs.length)
    (hown : w1.ownsRow B 5 1 v' (n + m) (bl out ++ bl bs)) (hgr : w.grownBy w1 (Value.slice po n co).ownBlock) (hat : v'.ownBlock = (Value.slice po n co).ownBlock ∨ v'.ownBlock = some w.heap.size) (hle : n + m ≤ most) :
    (StAt (w1.setCell ⟨gt, 3, none⟩ v') B O gt gb g v' most (out ++ bs) pl r ∧ OnlyS (own3 O gt (.slice po out.length co)) w (w1.setCell ⟨gt, 3, none⟩ v') ∧ Grew w (own3 O gt (.slice po out.length co)) (own3 O gt v')) ∧ w1.heap[gt]? = some (.cells #[.pointer (some ⟨g, 0, none⟩), hand gb, .int .i64 (most : Int), .slice po n co, pl] 69 (0, 0)) := by
  subst hn hm
  refine ⟨h.wrote (by rw [List.length_append, bl_append]; exact hown) hgr hat (by rw [List.length_append]; exact hle), ?_⟩
  exact ((OnlyS.grown (S := fun i => (Value.slice po out.length co).ownBlock = some i) hgr (fun k hk => hk)).block gt h.b.lt (fun e => (h.apart gt e).2.1 rfl)).trans h.row
set_option maxRecDepth 100000 in
set_option maxHeartbeats 1000000 in
theorem put_walk (w : World) (B : Nat) (O : Nat → Prop) (gt gb g : Nat) (ov : Value) (most : Nat) (out : List UInt8) (pl : Value) (r : List Bool) (v : Value) (bs : List UInt8) (h : StAt w B O gt gb g ov most out pl r) (hv : SlV w v (bl bs)) (hbs : bs.length ≤ 65536) (hB : B ≤ w.heap.size) :
    Calls Tryd.prog 63 #[.pointer (some ⟨gt, 0, none⟩), v] w (SPost (putR most out bs r) B O gt gb g ov most pl w) := by
  have HH := Lib.hid h
  have c2 := h.c2
  have c3 := h.c3
  have f3 := h.free 3
  have hle := h.le
  have hsm := h.small
  have hshv := (own_toV h.own).shape
  rw [bl_length] at hshv
  obtain ⟨pv, cv, rfl⟩ := hv.shape
  obtain ⟨po, co, rfl⟩ := hshv
  rw [bl_length] at hv ⊢
  obtain ⟨n, hn⟩ : ∃ n, n = out.length := ⟨_, rfl⟩
  obtain ⟨m, hm⟩ : ∃ m, m = bs.length := ⟨_, rfl⟩
  rw [← hn] at c3 hle
  rw [← hm] at hv hbs ⊢
  have HN := Lib.hid hn
  have HM := Lib.hid hm
  have HV := Lib.hid hv
  have HB := Lib.hid hB
  clear h hn hm hv hB
  have hs1 : IntKind.i64.wrap ((most : Int) - (n : Int)) = (most : Int) - (n : Int) := IntWalk.i64_in _ (by omega)
  by_cases hlt : most - n < m
  · have HE : Hid (putR most out bs r = .error 22) := Lib.hid (by unfold putR; rw [if_pos (by rw [← HN.out, ← HM.out]; exact hlt)])
    have hd : decide ((most : Int) - (n : Int) < (m : Int)) = true := by simp; omega
    go_enter Tryd.func63, Tryd.ntmps63
    go_wp2_with fail
    go_still_tail 13, (by kernel_rfl)
    change wpList _ _ _ _ _ w.drew
    go_wp2_with fail
    refine (refuse_yes _ 22).mono ?_
    rintro e w1 ⟨rfl, rfl⟩
    go_wp2_with fail
    exact ⟨rfl, OnlyS.drew _, by rw [HE.out]⟩
  · have HE : Hid (putR most out bs r = .ok (out ++ bs, r)) := Lib.hid (by unfold putR; rw [if_neg (by rw [← HN.out, ← HM.out]; exact hlt)])
    have hd : decide ((most : Int) - (n : Int) < (m : Int)) = false := by simp; omega
    have HR : Hid (∀ k, Calls Tryd.prog 61 #[.bool false, .int .i64 22] (w.drewN k) fun e w' => e = .returned (.tuple #[]) ∧ w' = w.drewN k) := Lib.hid fun k => refuse_no _ 22
    obtain ⟨i0, hi, hz0, hz1, hz2⟩ := info_parts info5
    have HI0 := Lib.hid (And.intro hi (And.intro hz0 (And.intro hz1 hz2)))
    clear hi hz0 hz1 hz2
    go_enter Tryd.func63, Tryd.ntmps63
    go_wp2_with fail
    go_quiet (first | (go_at_call 61; exact Calls.quiet_of_same (HR.out _)))
    have H2 := Lib.hid (HH.out.same (w' := w.drewN nq) (OnlyS.drewN _ _))
    have HV2 : Hid (SlK 1 (w.drewN nq) (.slice pv m cv) m (bl bs)) := Lib.hid (by have := (slv_heap HV.out (OnlyS.drewN w nq)).toK; rw [bl_length, ← HM.out] at this; exact this)
    have HOW : Hid ((w.drewN nq).ownsRow B 5 1 (.slice po n co) n (bl out)) := Lib.hid (by have := H2.out.own; rw [← HN.out] at this; exact this)
    have c3' := H2.out.c3
    rw [← HN.out] at c3'
    have f3' := H2.out.free 3
    have hsz : (w.drewN nq).heap.size = w.heap.size := rfl
    have HOD : Hid (OnlyS (own3 O gt (.slice po out.length co)) w (w.drewN nq)) := Lib.hid (OnlyS.drewN _ _)
    have HBd : Hid (B ≤ (w.drewN nq).heap.size) := Lib.hid HB.out
    generalize w.drewN nq = w2 at *
    have hrow := H2.out.row
    clear c2 c3 f3
    go_wp2_with (refine wpList_appK 23 5 i0 (.int .u8 0) 1 1 Tryd.underlying23 HI0.out.1 HI0.out.2.1 HI0.out.2.2.1 HI0.out.2.2.2 rfl (by decide) (by decide) rfl (.tmp 22) (.tmp 23) rfl B (.slice po n co) (.slice pv m cv) n m (bl out) (bl bs) rfl rfl (bl_one bs) HOW.out HV2.out HBd.out (by omega) ?_; intro v' w1 hown hgrow hat; have HW := Lib.hid (put_wrote H2.out HN.out HM.out hown hgrow hat (by omega)); obtain ⟨p', c', hv'⟩ := (own_toV hown).shape; have hlen : (bl out ++ bl bs).length = n + m := (by simp [HN.out, HM.out]); rw [hlen] at hv'; subst hv'; have c4' := cell_of_row _ _ 3 _ _ _ HW.out.2; have f4' := frozen_of_row _ _ 3 _ _ HW.out.2; clear hown hgrow hat hlen)
    go_end0
    refine ⟨HOD.out.trans HW.out.1.2.1, ?_⟩
    rw [HE.out]
    exact ⟨rfl, O, _, HW.out.1.1, fun i hi => by rw [← hsz]; exact HW.out.1.2.2 i hi⟩
end Go.Proofs.YtefeilgbofphjaaDoor
/-
  copyBack: copies, byte by byte.
-/
namespace Go.Proofs.YtefeilgbofphjaaDoor
open Go.RowKit
theorem SlK_byte (w : World) (x : UInt8) : SlK 1 (w.alloc (.cells #[.int .u8 (bi x)] 5)) (.slice (some ⟨w.heap.size, 0, none⟩) 1 1) 1 (bl [x]) := by
  refine ⟨rfl, .inl ⟨w.heap.size, 0, 1, rfl, Nat.le_refl _, fun i v hi => ?_⟩⟩
  rw [Nat.zero_add]
  exact (cell_of_row _ _ _ _ _ _ (heap_alloc_new w _)).trans (by simpa [bl] using hi)
theorem BkAt.sub {w : World} {O T : Nat → Prop} {gk : Nat} {zs : List Int} (h : BkAt w T gk zs) (hs : ∀ i, O i → T i) : BkAt w O gk zs := by
  obtain ⟨lo, hi, hb, ha, hh⟩ := h.book
  exact ⟨⟨lo, hi, hb, fun i h1 h2 h3 => ha i h1 h2 (hs i h3), hh⟩, h.deep, h.len⟩
theorem far_le {ds : List Int} {r r' : List Bool} {d : Nat} (h : Inf.far ds r = .ok (d, r')) : 1 ≤ d ∧ d ≤ 131072 := by
  unfold Inf.far at h
  cases hs : Inf.symb ds r with
  | error e => rw [hs] at h; cases h
  | ok p =>
    obtain ⟨s, r1⟩ := p
    rw [hs] at h
    simp only at h
    split at h
    · cases h
    · cases hx : Inf.scal 2 s r1 with
      | error e => rw [hx] at h; cases h
      | ok q =>
        obtain ⟨x, r2⟩ := q
        rw [hx] at h
        cases h
        have := scal_lt (.inl rfl) (by omega) hx
        omega
theorem bl_app1 {cur : List UInt8} {m : Nat} {x : UInt8} (h : m = cur.length) : (bl cur ++ bl [x]).length = m + 1 := by simp [bl, h]
theorem copy_wrote {w w1 : World} {B gt gb g most m : Nat} {O : Nat → Prop} {ov v' pl : Value} {out : List UInt8} {x : UInt8} {r : List Bool} (h : StAt w B O gt gb g ov most out pl r) (hm : m = out.length)
    (hown : w1.ownsRow B 5 1 v' (m + 1) (bl out ++ bl [x])) (hgr : w.grownBy w1 ov.ownBlock) (hat : v'.ownBlock = ov.ownBlock ∨ v'.ownBlock = some w.heap.size) (hle : m + 1 ≤ most) :
    (StAt (w1.setCell ⟨gt, 3, none⟩ v') B O gt gb g v' most (out ++ [x]) pl r ∧ OnlyS (own3 O gt ov) w (w1.setCell ⟨gt, 3, none⟩ v') ∧ Grew w (own3 O gt ov) (own3 O gt v')) ∧ w1.heap[gt]? = some (.cells #[.pointer (some ⟨g, 0, none⟩), hand gb, .int .i64 (most : Int), ov, pl] 69 (0, 0)) := by
  subst hm
  refine ⟨h.wrote (by rw [List.length_append, bl_append]; exact hown) hgr hat (by rw [List.length_append]; exact hle), ?_⟩
  exact ((OnlyS.grown (S := fun i => ov.ownBlock = some i) hgr (fun k hk => hk)).block gt h.b.lt (fun e => (h.apart gt e).2.1 rfl)).trans h.row
theorem chain3 {w wr wa w7 : World} {T T2 T3 : Nat → Prop} (h : OnlyS T w wr) (hg : Grew w T T2) (ha : OnlyS (fun _ => False) wr wa) (h7 : OnlyS T2 wa w7) (hg7 : Grew wa T2 T3) : OnlyS T w w7 ∧ Grew w T T3 :=
  ⟨(h.trans (ha.mono fun _ _ h => h.elim)).trans' h7 (fun i hi => hg i hi), hg.trans hg7 (Nat.le_trans h.size ha.size)⟩
set_option maxRecDepth 100000 in
set_option maxHeartbeats 1000000 in
theorem copy_walk (w : World) (B : Nat) (O : Nat → Prop) (gt gb g : Nat) (ov : Value) (most : Nat) (out : List UInt8) (pl : Value) (r : List Bool) (n gk : Nat) (ds : List Int) (h : StAt w B O gt gb g ov most out pl r) (hk : BkAt w (own3 O gt ov) gk ds) (hn : n ≤ 258) (hB : B ≤ w.heap.size) :
    Calls Tryd.prog 65 #[.pointer (some ⟨gt, 0, none⟩), .int .i64 (n : Int), .pointer (some ⟨gk, 0, none⟩)] w (SPost (Inf.back ds most n out r) B O gt gb g ov most pl w) := by
  have HC := Lib.hid (far_walk w B O gt gb g gk ds r h.b (hk.sub fun _ h => .inl h))
  have HH := Lib.hid h
  have HB := Lib.hid hB
  have hsm := h.small
  have hle := h.le
  cases hres : Inf.far ds r with
  | error er =>
    have HE : Hid (Inf.back ds most n out r = .error er) := Lib.hid (by unfold Inf.back; rw [hres])
    rw [hres] at HC
    clear h hk hres hB
    go_enter Tryd.func65, Tryd.ntmps65
    go_wp2_with fail
    refine HC.out.mono ?_
    rintro e w1 ⟨ho, rfl⟩
    have HO := Lib.hid ho
    clear ho
    go_wp2_with fail
    exact ⟨rfl, only3 HO.out, by rw [HE.out]⟩
  | ok p =>
    obtain ⟨d, r1⟩ := p
    have hd := far_le hres
    have HE : Hid (Inf.back ds most n out r = if out.length < d then .error 20 else if most - out.length < n then .error 22 else .ok (Inf.copy out d n, r1)) := Lib.hid (by unfold Inf.back; rw [hres])
    rw [hres] at HC
    unfold iv at HC
    obtain ⟨l, hl⟩ : ∃ l, l = out.length := ⟨_, rfl⟩
    rw [← hl] at hle HE
    have HL := Lib.hid hl
    clear h hk hres hB hl
    go_enter Tryd.func65, Tryd.ntmps65
    go_wp2_with fail
    refine HC.out.mono ?_
    rintro e w1 ⟨ho, rfl, O1, hs1, hg1⟩
    have H1 := Lib.hid (HH.out.read ho hs1 hg1)
    have HO1 := Lib.hid (only3 (gt := gt) (ov := ov) ho)
    have HG1 := Lib.hid (grew3 (gt := gt) (ov := ov) hg1)
    have HB1 : Hid (B ≤ w1.heap.size) := Lib.hid (Nat.le_trans HB.out ho.size)
    clear ho hs1 hg1 HC
    obtain ⟨po, co, hov⟩ := (own_toV H1.out.own).shape
    rw [bl_length, ← HL.out] at hov
    subst hov
    have c2 := H1.out.c2
    have c3 := H1.out.c3
    by_cases h1 : l < d
    · have hd1 : decide ((l : Int) < (d : Int)) = true := by simp; omega
      have HE2 : Hid (Inf.back ds most n out r = .error 20) := Lib.hid (by rw [HE.out, if_pos h1])
      go_wp2_with fail
      refine (refuse_yes _ 20).mono ?_
      rintro e w2 ⟨rfl, rfl⟩
      go_wp2_with fail
      exact ⟨rfl, HO1.out, by rw [HE2.out]⟩
    · have hd1 : decide ((l : Int) < (d : Int)) = false := by simp; omega
      have hs1 : IntKind.i64.wrap ((most : Int) - (l : Int)) = (most : Int) - (l : Int) := IntWalk.i64_in _ (by omega)
      by_cases h2 : most - l < n
      · have hd2 : decide ((most : Int) - (l : Int) < (n : Int)) = true := by simp; omega
        have HE2 : Hid (Inf.back ds most n out r = .error 22) := Lib.hid (by rw [HE.out, if_neg h1, if_pos h2])
        go_wp2_with fail
        refine (refuse_no _ 20).mono ?_
        rintro e w2 ⟨rfl, rfl⟩
        go_wp2_with fail
        go_still_tail 12, (by kernel_rfl)
        change wpList _ _ _ _ _ w2.drew
        go_wp2_with fail
        refine (refuse_yes _ 22).mono ?_
        rintro e w3 ⟨rfl, rfl⟩
        go_wp2_with fail
        exact ⟨rfl, HO1.out.trans (OnlyS.drew _), by rw [HE2.out]⟩
      · have hd2 : decide ((most : Int) - (l : Int) < (n : Int)) = false := by simp; omega
        have HE2 : Hid (Inf.back ds most n out r = .ok (Inf.copy out d n, r1)) := Lib.hid (by rw [HE.out, if_neg h1, if_neg h2])
        go_wp2_with fail
        refine (refuse_no _ 20).mono ?_
        rintro e w2 ⟨rfl, rfl⟩
        go_wp2_with fail
        go_still_tail 12, (by kernel_rfl)
        change wpList _ _ _ _ _ w2.drew
        go_wp2_with fail
        refine (refuse_no _ 22).mono ?_
        rintro e w3 ⟨rfl, rfl⟩
        go_wp2_with fail
        have H0 : Hid (∃ O' ov', StAt w2.drew B O' gt gb g ov' most (Inf.copy out d 0) pl r1 ∧ OnlyS (own3 O gt (.slice po l co)) w w2.drew ∧ Grew w (own3 O gt (.slice po l co)) (own3 O' gt ov')) := Lib.hid ⟨O1, _, H1.out.same (OnlyS.drew _), HO1.out.trans (OnlyS.drew _), HG1.out⟩
        generalize w2.drew = w3 at *
        clear H1 HO1 HB1 c2 c3 HG1
        obtain ⟨i0, hi, hz0, hz1, hz2⟩ := info_parts info5
        have HI0 := Lib.hid (And.intro hi (And.intro hz0 (And.intro hz1 hz2)))
        clear hi hz0 hz1 hz2 hs1 hd1 hd2
        go_loopw [32] (fun v wr => ∃ k : Nat, k ≤ n ∧ v = .int .i64 k ∧ ∃ O' ov', StAt wr B O' gt gb g ov' most (Inf.copy out d k) pl r1 ∧ OnlyS (own3 O gt (.slice po l co)) w wr ∧ Grew w (own3 O gt (.slice po l co)) (own3 O' gt ov')) (fun v _ => n - (intOf v).toNat)
        case atStart => exact ⟨0, Nat.zero_le _, rfl, H0.out⟩
        case round =>
          clear H0
          obtain ⟨k, hk, rfl, O2, ov2, h2, ho2, hg2⟩ := hrel
          have H2 := Lib.hid h2
          have HO2 := Lib.hid ho2
          have HG2 := Lib.hid hg2
          have hlen := Inf.copy_length d k out
          have HCL := Lib.hid (Inf.copy_last d k out)
          rw [← HL.out] at hlen
          by_cases hlt : k < n
          · have hlti : (k : Int) < (n : Int) := by omega
            obtain ⟨cur, hcur⟩ : ∃ cur, cur = Inf.copy out d k := ⟨_, rfl⟩
            rw [← hcur] at H2 hlen HCL
            have HCU := Lib.hid hcur
            obtain ⟨m, hm⟩ : ∃ m, m = cur.length := ⟨_, rfl⟩
            rw [← hm] at hlen HCL
            have HM := Lib.hid hm
            obtain ⟨pz, cz, hov⟩ := (own_toV H2.out.own).shape
            rw [bl_length, ← HM.out] at hov
            subst hov
            have hspot := own_toV H2.out.own
            obtain ⟨gz, oz, hpz, hrow⟩ := hspot.some (by omega)
            have hcap := hspot.le
            subst hpz
            have hc := hrow.bl (m - d) (by omega)
            have c3 := H2.out.c3
            have f3 := H2.out.free 3
            have hidx : (m : Int) - (d : Int) = ((m - d : Nat) : Int) := by omega
            have hidx2 : IntKind.i64.wrap ((m : Int) - (d : Int)) = ((m - d : Nat) : Int) := by rw [hidx]; exact IntWalk.i64_in _ (by omega)
            obtain ⟨q, hq⟩ : ∃ q, q = m - d := ⟨_, rfl⟩
            rw [← hq] at hc hidx hidx2 HCL
            have hqm : (q : Int) < (m : Int) := by omega
            have hqm2 : q < m := by omega
            generalize cur.getD q 0 = x at *
            have HLE := Lib.hid hlen
            have hmm : m ≤ 1073741824 := by omega
            have hcz : (m : Int) ≤ (cz : Int) := by omega
            have HMO : Hid (m + 1 ≤ most) := Lib.hid (by omega)
            clear hcur hm h2 ho2 hg2 hspot hrow hq hlen hidx
            go_wp2_with fail
            have HOW : Hid ((wr.alloc (.cells #[.int .u8 (bi x)] 5)).drew.ownsRow B 5 1 (.slice (some ⟨gz, oz, none⟩) m cz) m (bl cur)) := Lib.hid (by have := H2.out.own; rw [← HM.out] at this; exact (World.ownsRow.alloc this _).drew)
            have HSK : Hid (SlK 1 (wr.alloc (.cells #[.int .u8 (bi x)] 5)).drew (.slice (some ⟨wr.heap.size, 0, none⟩) 1 1) 1 (bl [x])) := Lib.hid (SlK_byte wr x)
            have HBB : Hid (B ≤ (wr.alloc (.cells #[.int .u8 (bi x)] 5)).drew.heap.size) := Lib.hid (by have := HO2.out.size; have := HB.out; simp; omega)
            have HA := Lib.hid (H2.out.same (w' := (wr.alloc (.cells #[.int .u8 (bi x)] 5)).drew) ((OnlyS.alloc _ _).trans (OnlyS.drew _)))
            have HAO : Hid (OnlyS (fun _ => False) wr (wr.alloc (.cells #[.int .u8 (bi x)] 5)).drew) := Lib.hid ((OnlyS.alloc _ _).trans (OnlyS.drew _))
            have c3a : (wr.alloc (.cells #[.int .u8 (bi x)] 5)).cell? ⟨gt, 3, none⟩ = some (.slice (some ⟨gz, oz, none⟩) m cz) := HA.out.c3
            go_region_law (refine step_appK 23 5 i0 (.int .u8 0) 1 1 Tryd.underlying23 HI0.out.1 HI0.out.2.1 HI0.out.2.2.1 HI0.out.2.2.2 rfl (by decide) (by decide) rfl (.tmp 38) (.tmp 52) rfl B (.slice (some ⟨gz, oz, none⟩) m cz) (.slice (some ⟨wr.heap.size, 0, none⟩) 1 1) m 1 (bl cur) (bl [x]) (by go_simp) (by go_simp) (bl_one _) HOW.out HSK.out HBB.out (by omega) ?_; intro v' w6 hown hgrow hat; have HW := Lib.hid (copy_wrote HA.out HM.out hown hgrow hat HMO.out); obtain ⟨p', c', hv'⟩ := (own_toV hown).shape; rw [bl_app1 HM.out] at hv'; subst hv'; have c4' := cell_of_row _ _ 3 _ _ _ HW.out.2; have f4' := frozen_of_row _ _ 3 _ _ HW.out.2; clear hown hgrow hat)
            all_goals go_wp2_with fail
            all_goals exact ⟨⟨k + 1, by omega, by go_num, O2, _, by rw [HCL.out]; exact HW.out.1.1, chain3 HO2.out HG2.out HAO.out HW.out.1.2.1 HW.out.1.2.2⟩, by simp [intOf]; omega⟩
          · have hlti : (n : Int) ≤ (k : Int) := by omega
            obtain rfl : k = n := by omega
            clear h2 ho2 hg2
            go_wp2_with fail
            go_end0
            exact ⟨HO2.out, by rw [HE2.out]; exact ⟨rfl, O2, ov2, H2.out, HG2.out⟩⟩
end Go.Proofs.YtefeilgbofphjaaDoor
/-
  expand: what fixed and dynamic blocks have.
-/
namespace Go.Proofs.YtefeilgbofphjaaDoor
open Go.RowKit
theorem rd_count (zs : List Int) : ∀ f n c (bs : List Bool) s m, Hf.rd zs f n c bs = (s, 0, m) → n < m ∧ m - n ≤ bs.length
  | 0, n, c, bs, s, m, h => by rw [Hf.rd] at h; simp at h
  | f + 1, n, c, [], s, m, h => by rw [Hf.rd] at h; simp at h
  | f + 1, n, c, b :: t, s, m, h => by
    rw [Hf.rd] at h
    cases hs : Hf.sym zs (n + 1) (2 * c + b.toNat) with
    | some x => rw [hs] at h; simp at h; simp; omega
    | none =>
      rw [hs] at h
      have := rd_count zs f (n + 1) _ t s m h
      simp; omega
theorem symb_less {zs : List Int} {r r' : List Bool} {s : Nat} (h : Inf.symb zs r = .ok (s, r')) : r'.length < r.length := by
  unfold Inf.symb at h
  obtain ⟨q, hq⟩ : ∃ q, q = Hf.rd zs (Hf.deep zs) 0 0 r := ⟨_, rfl⟩
  rw [← hq] at h
  obtain ⟨q1, q2, q3⟩ := q
  simp only at h
  split at h
  · rename_i h0
    cases h
    subst h0
    have := rd_count zs _ _ _ _ _ _ hq.symm
    rw [List.length_drop]
    omega
  · cases h
theorem rd_lt (zs : List Int) : ∀ f n c (bs : List Bool) s m, Hf.rd zs f n c bs = (s, 0, m) → s < zs.length
  | 0, n, c, bs, s, m, h => by rw [Hf.rd] at h; simp at h
  | f + 1, n, c, [], s, m, h => by rw [Hf.rd] at h; simp at h
  | f + 1, n, c, b :: t, s, m, h => by
    rw [Hf.rd] at h
    cases hs : Hf.sym zs (n + 1) (2 * c + b.toNat) with
    | some x =>
      rw [hs] at h
      have := ((Hf.sym_some zs (n + 1) _ x (by omega)).1 hs).1
      simp at h; omega
    | none => rw [hs] at h; exact rd_lt zs f (n + 1) _ t s m h
theorem symb_lt {zs : List Int} {r r' : List Bool} {s : Nat} (h : Inf.symb zs r = .ok (s, r')) : s < zs.length := by
  unfold Inf.symb at h
  obtain ⟨q, hq⟩ : ∃ q, q = Hf.rd zs (Hf.deep zs) 0 0 r := ⟨_, rfl⟩
  rw [← hq] at h
  obtain ⟨q1, q2, q3⟩ := q
  simp only at h
  split at h
  · rename_i h0
    cases h
    subst h0
    exact rd_lt zs _ _ _ _ _ _ hq.symm
  · cases h
theorem numb_less {m : Nat} {r r' : List Bool} {x : Nat} (h : Inf.numb m r = .ok (x, r')) : r'.length + m = r.length := by
  unfold Inf.numb at h
  split at h
  · cases h; rw [List.length_drop]; omega
  · cases h
theorem scal_less {g s : Nat} {r r' : List Bool} {x : Nat} (h : Inf.scal g s r = .ok (x, r')) : r'.length ≤ r.length := by
  unfold Inf.scal at h
  split at h
  · cases h; omega
  · cases hn : Inf.numb (s / g - 1) r with
    | error e => rw [hn] at h; cases h
    | ok p => obtain ⟨y, r2⟩ := p; rw [hn] at h; cases h; have := numb_less hn; omega
theorem long_less {s : Nat} {r r' : List Bool} {x : Nat} (h : Inf.long s r = .ok (x, r')) : r'.length ≤ r.length ∧ x ≤ 258 := by
  unfold Inf.long at h
  split at h
  · cases h
  split at h
  · have h2 := Prod.mk.inj (Except.ok.inj h)
    exact ⟨Nat.le_of_eq (by rw [h2.2]), Nat.le_of_eq h2.1.symm⟩
  · cases hn : Inf.scal 4 (s - 257) r with
    | error e => rw [hn] at h; cases h
    | ok p =>
      obtain ⟨y, r2⟩ := p
      rw [hn] at h
      cases h
      refine ⟨scal_less hn, ?_⟩
      unfold Inf.scal at hn
      split at hn
      · have h2 := (Prod.mk.inj (Except.ok.inj hn)).1
        omega
      · obtain ⟨k, hk⟩ : ∃ k, k = s - 257 := ⟨_, rfl⟩
        rw [← hk] at hn
        cases hm : Inf.numb (k / 4 - 1) r with
        | error e => rw [hm] at hn; cases hn
        | ok p =>
          obtain ⟨z, r3⟩ := p
          rw [hm] at hn
          cases hn
          have h1 := numb_lt hm
          have h2 : 2 ^ (k / 4 - 1) ≤ 2 ^ 5 := Nat.pow_le_pow_right (by decide) (by omega)
          have h3 : (2 : Nat) ^ 5 = 32 := by decide
          have h4 : (4 + k % 4) * 2 ^ (k / 4 - 1) ≤ 7 * 2 ^ (k / 4 - 1) := Nat.mul_le_mul_right _ (by omega)
          omega
theorem far_less {ds : List Int} {r r' : List Bool} {d : Nat} (h : Inf.far ds r = .ok (d, r')) : r'.length ≤ r.length := by
  unfold Inf.far at h
  cases hs : Inf.symb ds r with
  | error e => rw [hs] at h; cases h
  | ok p =>
    obtain ⟨s, r1⟩ := p
    rw [hs] at h
    simp only at h
    split at h
    · cases h
    · cases hx : Inf.scal 2 s r1 with
      | error e => rw [hx] at h; cases h
      | ok q =>
        obtain ⟨x, r2⟩ := q
        rw [hx] at h
        cases h
        have := scal_less hx
        have := symb_less hs
        omega
theorem back_less {ds : List Int} {most n : Nat} {out out' : List UInt8} {r r' : List Bool} (h : Inf.back ds most n out r = .ok (out', r')) : r'.length ≤ r.length := by
  unfold Inf.back at h
  cases hf : Inf.far ds r with
  | error e => rw [hf] at h; cases h
  | ok p =>
    obtain ⟨d, r1⟩ := p
    rw [hf] at h
    simp only at h
    split at h
    · cases h
    split at h
    · cases h
    · cases h; exact far_less hf
/-- The two books of a block, in memory. -/
structure BooksAt (w : World) (T : Nat → Prop) (gbk ks kd : Nat) (zs ds : List Int) : Prop where
  c0 : w.cell? ⟨gbk, 0, none⟩ = some (.pointer (some ⟨ks, 0, none⟩))
  c1 : w.cell? ⟨gbk, 1, none⟩ = some (.pointer (some ⟨kd, 0, none⟩))
  out : ¬ T gbk
  s : BkAt w T ks zs
  d : BkAt w T kd ds
theorem BooksAt.next {w w' : World} {T T' : Nat → Prop} {gbk ks kd : Nat} {zs ds : List Int} (h : BooksAt w T gbk ks kd zs ds) (ho : OnlyS T w w') (hg : Grew w T T') : BooksAt w' T' gbk ks kd zs ds :=
  ⟨ho.cell h.c0 h.out, ho.cell h.c1 h.out, hg.not h.out (block_lt_of_cell h.c0), h.s.next ho hg, h.d.next ho hg⟩
theorem bi_ofNat (s : Nat) (h : s < 256) : bi (UInt8.ofNat s) = (s : Int) := by
  unfold bi
  rw [UInt8.toNat_ofNat']
  omega
set_option maxRecDepth 100000 in
set_option maxHeartbeats 1000000 in
theorem expand_walk (w : World) (B : Nat) (O : Nat → Prop) (gt gb g : Nat) (ov : Value) (most : Nat) (out : List UInt8) (pl : Value) (r : List Bool) (gbk ks kd : Nat) (zs ds : List Int) (h : StAt w B O gt gb g ov most out pl r) (hk : BooksAt w (own3 O gt ov) gbk ks kd zs ds) (hB : B ≤ w.heap.size) :
    Calls Tryd.prog 42 #[.pointer (some ⟨gt, 0, none⟩), .pointer (some ⟨gbk, 0, none⟩)] w (SPost (Inf.body zs ds most (r.length + 1) out r) B O gt gb g ov most pl w) := by
  obtain ⟨R0, hR0⟩ : ∃ R0, R0 = Inf.body zs ds most (r.length + 1) out r := ⟨_, rfl⟩
  rw [← hR0]
  have H0 : Hid (∃ O' ov' outc rc, rc.length < r.length + 1 ∧ StAt w B O' gt gb g ov' most outc pl rc ∧ BooksAt w (own3 O' gt ov') gbk ks kd zs ds ∧ OnlyS (own3 O gt ov) w w ∧ Grew w (own3 O gt ov) (own3 O' gt ov') ∧ R0 = Inf.body zs ds most (r.length + 1) outc rc) := Lib.hid ⟨O, ov, out, r, by omega, h, hk, OnlyS.refl _ _, Grew.refl _ _, hR0⟩
  have HB := Lib.hid hB
  clear h hk hB hR0
  go_enter Tryd.func42, Tryd.ntmps42
  go_wp2_with fail
  go_loopg [4] (r.length + 1) (fun gk _ wr => ∃ O' ov' outc rc, rc.length < gk ∧ StAt wr B O' gt gb g ov' most outc pl rc ∧ BooksAt wr (own3 O' gt ov') gbk ks kd zs ds ∧ OnlyS (own3 O gt ov) w wr ∧ Grew w (own3 O gt ov) (own3 O' gt ov') ∧ R0 = Inf.body zs ds most gk outc rc)
  case atStart => exact H0.out
  case round =>
    clear H0
    obtain ⟨O1, ov1, outc, rc, hlen, h1, hk1, ho1, hg1, he1⟩ := hrel
    obtain ⟨f, hf⟩ : ∃ f, gk = f + 1 := ⟨gk - 1, by omega⟩
    subst hf
    rw [Inf.body] at he1
    have H1 := Lib.hid h1
    have HK1 := Lib.hid hk1
    have HO1 := Lib.hid ho1
    have HG1 := Lib.hid hg1
    have c0 := hk1.c0
    have HC := Lib.hid (symbol_walk wr B O1 gt gb g ks zs rc h1.b (hk1.s.sub fun _ h => .inl h))
    have HBr : Hid (B ≤ wr.heap.size) := Lib.hid (Nat.le_trans HB.out ho1.size)
    cases hres : Inf.symb zs rc with
    | error er =>
      rw [hres] at HC he1
      have HE := Lib.hid he1
      clear h1 hk1 ho1 hg1 hres he1
      go_wp2_with fail
      refine HC.out.mono ?_
      rintro e w1 ⟨ho, rfl⟩
      have HO := Lib.hid (HO1.out.trans' (only3 (gt := gt) (ov := ov1) ho) (fun i hi => HG1.out i hi))
      clear ho
      go_wp2_with fail
      exact ⟨rfl, HO.out, by rw [HE.out]⟩
    | ok p =>
      obtain ⟨s, r1⟩ := p
      have hless := symb_less hres
      have hslt := symb_lt hres
      have hzl := hk1.s.len
      rw [hres] at HC he1
      simp only at he1
      unfold iv at HC
      clear h1 hk1 ho1 hg1 hres
      by_cases hs1 : s < 256
      · rw [if_pos hs1] at he1
        have hs1i : (s : Int) < 256 := by omega
        have hs8 : (s : Int) % 256 = (s : Int) := by omega
        have HBI := Lib.hid (bi_ofNat s hs1)
        have hlen2 : (outc ++ [UInt8.ofNat s]).length = outc.length + 1 := by simp
        have HE : Hid (R0 = match putR most outc [UInt8.ofNat s] r1 with | .ok (o2, r2) => Inf.body zs ds most f o2 r2 | .error e => .error e) := Lib.hid (by
          rw [he1]; unfold putR; simp only [List.length_singleton]; split <;> rfl)
        have HR1 : Hid (∀ o2 r2, putR most outc [UInt8.ofNat s] r1 = .ok (o2, r2) → r2 = r1) := Lib.hid (by
          intro o2 r2 hp; unfold putR at hp; split at hp
          · cases hp
          · cases hp; rfl)
        clear he1 hlen2
        go_wp2_with fail
        refine HC.out.mono ?_
        rintro e w1 ⟨ho, rfl, O2, hs2, hg2⟩
        have H2 := H1.out.read ho hs2 hg2
        have ho3 := only3 (gt := gt) (ov := ov1) ho
        have hg3 := grew3 (gt := gt) (ov := ov1) hg2
        have HK2 := HK1.out.next ho3 hg3
        have hoa : OnlyS (fun _ => False) w1 (w1.alloc (.cells #[.int .u8 (s : Int)] 5)) := OnlyS.alloc _ _
        have HP := Lib.hid (put_walk (w1.alloc (.cells #[.int .u8 (s : Int)] 5)) B O2 gt gb g ov1 most outc pl r1 (.slice (some ⟨w1.heap.size, 0, none⟩) 1 1) [UInt8.ofNat s] (H2.same hoa) (by have := slv_lit w1 (bl [UInt8.ofNat s]) 5; simpa [bl, HBI.out] using this) (by simp) (by have := HBr.out; have := ho.size; simp; omega))
        have HOO := Lib.hid ((HO1.out.trans' ho3 (fun i hi => HG1.out i hi)).trans (hoa.mono fun _ _ h => h.elim))
        have HGG := Lib.hid (HG1.out.trans hg3 HO1.out.size)
        have HKK := Lib.hid (HK2.next (hoa.mono fun _ _ h => h.elim) (Grew.refl _ _))
        have HSZ : Hid (w1.heap.size ≤ (w1.alloc (.cells #[.int .u8 (s : Int)] 5)).heap.size) := Lib.hid hoa.size
        clear ho hs2 hg2 H2 ho3 hg3 HK2 hoa HC
        cases hput : putR most outc [UInt8.ofNat s] r1 with
        | error er =>
          rw [hput] at HP HE
          clear hput HR1
          go_wp2_with fail
          refine HP.out.mono ?_
          rintro e w2 ⟨ho, rfl⟩
          have HO := Lib.hid (HOO.out.trans' ho (fun i hi => by rcases HGG.out i hi with h | h; exact .inl h; exact .inr h))
          clear ho HP
          go_wp2_with fail
          exact ⟨rfl, HO.out, by rw [HE.out]⟩
        | ok p =>
          obtain ⟨o2, r2⟩ := p
          obtain rfl := HR1.out o2 r2 hput
          rw [hput] at HP HE
          clear hput HR1
          go_wp2_with fail
          refine HP.out.mono ?_
          rintro e w2 ⟨ho, rfl, O3, ov3, hs3, hg3⟩
          have HO := Lib.hid (HOO.out.trans' ho (fun i hi => by rcases HGG.out i hi with h | h; exact .inl h; exact .inr h))
          have HK3 := Lib.hid (HKK.out.next ho hg3)
          have HS3 := Lib.hid hs3
          have HG3 := Lib.hid (HGG.out.trans hg3 HOO.out.size)
          clear ho HP hs3 hg3
          go_wp2_with fail
          go_roundg f
          case measure => omega
          case rel => exact ⟨O3, ov3, o2, r2, by omega, HS3.out, HK3.out, HO.out, HG3.out, HE.out⟩
      · rw [if_neg hs1] at he1
        have hs1i : (256 : Int) ≤ (s : Int) := by omega
        by_cases hs2 : s = 256
        · rw [if_pos hs2] at he1
          subst hs2
          have HE := Lib.hid he1
          clear he1
          go_wp2_with fail
          refine HC.out.mono ?_
          rintro e w1 ⟨ho, rfl, O2, hs2, hg2⟩
          have H2 := Lib.hid (H1.out.read ho hs2 hg2)
          have ho3 := only3 (gt := gt) (ov := ov1) ho
          have hg3 := grew3 (gt := gt) (ov := ov1) hg2
          have HOO := Lib.hid (HO1.out.trans' ho3 (fun i hi => HG1.out i hi))
          have HGG := Lib.hid (HG1.out.trans hg3 HO1.out.size)
          clear ho hs2 hg2 ho3 hg3 HC
          go_wp2_with fail
          refine bodyPost_ret (results_none rfl _ _ _) rfl ?_
          exact ⟨HOO.out, by rw [HE.out]; exact ⟨rfl, O2, ov1, H2.out, HGG.out⟩⟩
        · rw [if_neg hs2] at he1
          have hne : ((s : Int) == 256) = false := by simp; omega
          have hlong : 257 ≤ s := by omega
          have hs1024 : s ≤ 1024 := by omega
          cases hlg : Inf.long s r1 with
          | error er =>
            rw [hlg] at he1
            have HE := Lib.hid he1
            clear he1
            go_wp2_with fail
            refine HC.out.mono ?_
            rintro e w1 ⟨ho, rfl, O2, hs2, hg2⟩
            have HL : Hid (∀ W, OnlyS (fun _ => False) w1 W → Calls Tryd.prog 66 #[.pointer (some ⟨gt, 0, none⟩), .int .i64 (s : Int)] W (RPost (.error er : Inf.Res Nat) iv B O2 gt gb g w1)) := Lib.hid fun W hW => (by rw [← hlg]; exact (long_walk W B O2 gt gb g s r1 (hs2.same hW) hlong hs1024).mono fun e w' hr => hr.before (hW.mono (fun _ _ h => h.elim)) (Grew.refl _ _))
            have ho3 := only3 (gt := gt) (ov := ov1) ho
            have hg3 := grew3 (gt := gt) (ov := ov1) hg2
            have c1 := (HK1.out.next ho3 hg3).c1
            have HOO := Lib.hid (HO1.out.trans' ho3 (fun i hi => HG1.out i hi))
            have HGG := Lib.hid (HG1.out.trans hg3 HO1.out.size)
            clear ho hs2 hg2 ho3 hg3 HC hlg
            go_wp2_with fail
            go_region_dies
            all_goals (go_at_call 66; refine (HL.out _ (OnlyS.drew _)).mono ?_; rintro e w2 ⟨ho, rfl⟩; exact ⟨rfl, HOO.out.trans' (only3 (gt := gt) (ov := ov1) ho) (fun i hi => HGG.out i hi), by rw [HE.out]⟩)
          | ok p =>
            obtain ⟨n, r2⟩ := p
            have hll := long_less hlg
            rw [hlg] at he1
            simp only at he1
            have hn258 := hll.2
            have hless2 := hll.1
            cases hbk : Inf.back ds most n outc r2 with
            | error er =>
              rw [hbk] at he1
              have HE := Lib.hid he1
              clear he1
              go_wp2_with fail
              refine HC.out.mono ?_
              rintro e w1 ⟨ho, rfl, O2, hs2, hg2⟩
              have HS2 := Lib.hid (H1.out.read ho hs2 hg2)
              have HL : Hid (∀ W, OnlyS (fun _ => False) w1 W → Calls Tryd.prog 66 #[.pointer (some ⟨gt, 0, none⟩), .int .i64 (s : Int)] W (RPost (.ok (n, r2) : Inf.Res Nat) iv B O2 gt gb g w1)) := Lib.hid fun W hW => (by rw [← hlg]; exact (long_walk W B O2 gt gb g s r1 (hs2.same hW) hlong hs1024).mono fun e w' hr => hr.before (hW.mono (fun _ _ h => h.elim)) (Grew.refl _ _))
              unfold iv at HL
              have ho3 := only3 (gt := gt) (ov := ov1) ho
              have hg3 := grew3 (gt := gt) (ov := ov1) hg2
              have HK2 := Lib.hid (HK1.out.next ho3 hg3)
              have c1 := HK2.out.c1
              have HOO := Lib.hid (HO1.out.trans' ho3 (fun i hi => HG1.out i hi))
              have HGG := Lib.hid (HG1.out.trans hg3 HO1.out.size)
              have HBK := Lib.hid hbk
              clear ho hs2 hg2 ho3 hg3 HC hlg hbk
              go_wp2_with fail
              go_region_law (first
                | (go_simp; go_at_call 66; refine (HL.out _ (OnlyS.drew _)).mono ?_; rintro e w2 ⟨ho, rfl, O3, hs3, hg3⟩; have HCP := Lib.hid (copy_walk w2 B O3 gt gb g ov1 most outc pl r2 n kd ds (HS2.out.read ho hs3 hg3) (HK2.out.next (only3 ho) (grew3 hg3)).d hn258 (by have := HB.out; have := HOO.out.size; have := ho.size; omega)); rw [HBK.out] at HCP; have HOO2 := Lib.hid (HOO.out.trans' (only3 (gt := gt) (ov := ov1) ho) (fun i hi => HGG.out i hi)); have HGG2 := Lib.hid (HGG.out.trans (grew3 (gt := gt) (ov := ov1) hg3) HOO.out.size); have c1' := (HK2.out.next (only3 ho) (grew3 hg3)).c1; clear ho hs3 hg3)
                | (go_simp; go_at_call 65; refine HCP.out.mono ?_; rintro e w3 ⟨ho4, rfl⟩; refine Classical.byContradiction (fun hn => ?_); have hF : False := hn ⟨rfl, HOO2.out.trans' ho4 (fun i hi => HGG2.out i hi), by rw [HE.out]⟩; clear hn; refine (fun (_ : (‹Act → World → Prop› : Act → World → Prop) { tmps := #[], defers := [] } w3) => hF) ?_))
              all_goals exact hF.elim
            | ok p =>
              obtain ⟨o2, r3⟩ := p
              have hless3 := back_less hbk
              rw [hbk] at he1
              have HE := Lib.hid he1
              clear he1
              go_wp2_with fail
              refine HC.out.mono ?_
              rintro e w1 ⟨ho, rfl, O2, hs2, hg2⟩
              have HS2 := Lib.hid (H1.out.read ho hs2 hg2)
              have HL : Hid (∀ W, OnlyS (fun _ => False) w1 W → Calls Tryd.prog 66 #[.pointer (some ⟨gt, 0, none⟩), .int .i64 (s : Int)] W (RPost (.ok (n, r2) : Inf.Res Nat) iv B O2 gt gb g w1)) := Lib.hid fun W hW => (by rw [← hlg]; exact (long_walk W B O2 gt gb g s r1 (hs2.same hW) hlong hs1024).mono fun e w' hr => hr.before (hW.mono (fun _ _ h => h.elim)) (Grew.refl _ _))
              unfold iv at HL
              have ho3 := only3 (gt := gt) (ov := ov1) ho
              have hg3 := grew3 (gt := gt) (ov := ov1) hg2
              have HK2 := Lib.hid (HK1.out.next ho3 hg3)
              have c1 := HK2.out.c1
              have HOO := Lib.hid (HO1.out.trans' ho3 (fun i hi => HG1.out i hi))
              have HGG := Lib.hid (HG1.out.trans hg3 HO1.out.size)
              have HBK := Lib.hid hbk
              clear ho hs2 hg2 ho3 hg3 HC hlg hbk
              go_wp2_with fail
              go_region_law (first
                | (go_simp; go_at_call 66; refine (HL.out _ (OnlyS.drew _)).mono ?_; rintro e w2 ⟨ho, rfl, O3, hs3, hg3⟩; have HCP := Lib.hid (copy_walk w2 B O3 gt gb g ov1 most outc pl r2 n kd ds (HS2.out.read ho hs3 hg3) (HK2.out.next (only3 ho) (grew3 hg3)).d hn258 (by have := HB.out; have := HOO.out.size; have := ho.size; omega)); rw [HBK.out] at HCP; have HOO2 := Lib.hid (HOO.out.trans' (only3 (gt := gt) (ov := ov1) ho) (fun i hi => HGG.out i hi)); have HGG2 := Lib.hid (HGG.out.trans (grew3 (gt := gt) (ov := ov1) hg3) HOO.out.size); have HKK2 := Lib.hid (HK2.out.next (only3 ho) (grew3 hg3)); have c1' := HKK2.out.c1; clear ho hs3 hg3)
                | (go_simp; go_at_call 65; refine HCP.out.mono ?_; rintro e w3 ⟨ho4, rfl, O4, ov4, hs4, hg4⟩; have HO4 := Lib.hid (HOO2.out.trans' ho4 (fun i hi => HGG2.out i hi)); have HG4 := Lib.hid (HGG2.out.trans hg4 HOO2.out.size); have HS4 := Lib.hid hs4; have HK4 := Lib.hid (HKK2.out.next ho4 hg4); clear ho4 hs4 hg4))
              all_goals go_wp2_with fail
              all_goals go_roundg f
              all_goals first | omega | exact ⟨O4, ov4, o2, r3, by omega, HS4.out, HK4.out, HO4.out, HG4.out, HE.out⟩
end Go.Proofs.YtefeilgbofphjaaDoor
