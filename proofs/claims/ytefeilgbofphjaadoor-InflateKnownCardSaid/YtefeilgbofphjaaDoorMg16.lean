/-
  Merged, in the order in which they build: Toks Pack RefA Kraft.
-/
import Derived.Test.YtefeilgbofphjaaDoorMg3
import Derived.Test.YtefeilgbofphjaaDoorMg4
import Derived.Test.YtefeilgbofphjaaDoorMg9
import Derived.Test.YtefeilgbofphjaaDoorMg15
/-
  What stands in a block that has codes: literals, copies; how it is read back.
-/
namespace Go.Proofs.YtefeilgbofphjaaDoor
open Hf

/-- A sign, its number behind, of how many bits. -/
structure Sg where
  s : Nat
  x : Nat
  m : Nat
/-- Where a sign begins. -/
def lb (g s : Nat) : Nat := if s < g then s else (g + s % g) * 2 ^ (s / g - 1)
def LSg (n : Nat) (g : Sg) : Prop := (n = 258 ∧ g = ⟨285, 0, 0⟩) ∨ (257 ≤ g.s ∧ g.s ≤ 284 ∧ g.m = (g.s - 257) / 4 - 1 ∧ g.x < 2 ^ g.m ∧ n = 3 + (lb 4 (g.s - 257) + g.x))
def FSg (d : Nat) (g : Sg) : Prop := g.s ≤ 29 ∧ g.m = g.s / 2 - 1 ∧ g.x < 2 ^ g.m ∧ d = 1 + (lb 2 g.s + g.x)
theorem gets_nil {α : Type} {f : List Bool → Inf.Res α} {x : α} (h : ∀ r, f r = .ok (x, r)) : Gets f [] x := ⟨fun r => h r, fun _ _ e ht => absurd (List.append_eq_nil_iff.1 e.symm).2 ht⟩
/-- Behind what is read something is made of it. -/
theorem Gets.map {α β : Type} {f : List Bool → Inf.Res α} {h : List Bool → Inf.Res β} {L : List Bool} {x : α} {y : β} (hf : Gets f L x) (hh1 : ∀ r r', f r = .ok (x, r') → h r = .ok (y, r')) (hh2 : ∀ r e, f r = .error e → h r = .error e) : Gets h L y :=
  ⟨fun r => hh1 _ _ (hf.go r), fun P t e ht => hh2 _ _ (hf.few P t e ht)⟩
theorem gets_scal (g s x m : Nat) (hm : m = s / g - 1) (hx : x < 2 ^ m) : Gets (Inf.scal g s) (num x m) (lb g s + x) := by
  by_cases h : s < g
  · have e : s / g = 0 := Nat.div_eq_of_lt h
    rw [e] at hm
    subst hm
    obtain rfl : x = 0 := by simp at hx; exact hx
    show Gets _ [] _
    refine gets_nil fun r => ?_
    unfold Inf.scal lb
    rw [if_pos h, if_pos h]; rfl
  · subst hm
    refine (gets_numb x (s / g - 1) hx).map (fun r r' hr => ?_) (fun r e he => ?_)
    · unfold Inf.scal lb; rw [if_neg h, if_neg h, hr]
    · unfold Inf.scal; rw [if_neg h, he]
theorem gets_long {n : Nat} {g : Sg} (h : LSg n g) : Gets (Inf.long g.s) (num g.x g.m) n := by
  rcases h with ⟨rfl, rfl⟩ | ⟨h1, h2, h3, h4, h5⟩
  · exact gets_nil (fun r => rfl)
  · subst h5
    refine (gets_scal 4 (g.s - 257) g.x g.m h3 h4).map (fun r r' hr => ?_) (fun r e he => ?_)
    · unfold Inf.long; rw [if_neg (by omega), if_neg (by omega), hr]
    · unfold Inf.long; rw [if_neg (by omega), if_neg (by omega), he]
/-- Lengths by which codes can be written. -/
structure Coded (zs : List Int) : Prop where
  good : good zs
  kr : kr zs ≤ 32768
theorem gets_far {d : Nat} {g : Sg} {ds : List Int} (hc : Coded ds) (hs : 0 < ds.getD g.s 0) (h : FSg d g) : Gets (Inf.far ds) (cod ds g.s ++ num g.x g.m) d := by
  obtain ⟨h1, h2, h3, rfl⟩ := h
  refine (gets_symb hc.good hc.kr g.s hs).bnd (g := fun r => match Inf.scal 2 g.s r with | .ok (x, r) => .ok (1 + x, r) | .error e => .error e) ?_ (fun r r' hr => ?_) (fun r e he => ?_)
  · refine (gets_scal 2 g.s g.x g.m h2 h3).map (fun r r' hr => ?_) (fun r e he => ?_)
    · rw [hr]
    · rw [he]
  · unfold Inf.far; rw [hr]; simp only; rw [if_neg (by omega)]
    cases Inf.scal 2 g.s r' with
    | error e => rfl
    | ok p => rfl
  · unfold Inf.far; rw [he]
/-- A literal, or a copy, with its signs. -/
inductive Tok where
  | lit (b : Nat)
  | cpy (n d : Nat) (a b : Sg)
namespace Tok
def ok : Tok → List UInt8 → Prop
  | lit b, _ => b < 256
  | cpy n d a b, out => d ≤ out.length ∧ LSg n a ∧ FSg d b
def eff : Tok → List UInt8 → List UInt8
  | lit b, out => out ++ [UInt8.ofNat b]
  | cpy n d _ _, out => Inf.copy out d n
def words (zs ds : List Int) : Tok → List Bool
  | lit b => cod zs b
  | cpy _ _ a b => cod zs a.s ++ (num a.x a.m ++ (cod ds b.s ++ num b.x b.m))
def has (zs ds : List Int) : Tok → Prop
  | lit b => 0 < zs.getD b 0
  | cpy _ _ a b => 0 < zs.getD a.s 0 ∧ 0 < ds.getD b.s 0
/-- Its signs, a distance's marked. -/
def sgs : Tok → List (Sg × Bool)
  | lit b => [(⟨b, 0, 0⟩, false)]
  | cpy _ _ a b => [(a, false), (b, true)]
end Tok
theorem eff_le (t : Tok) (out : List UInt8) : out.length ≤ (t.eff out).length := by
  cases t with
  | lit b => simp [Tok.eff]
  | cpy n d a b => rw [Tok.eff, Inf.copy_length]; omega
/-- One step of a block's body: what went out, and whether it was the end. -/
def one (zs ds : List Int) (most : Nat) (out : List UInt8) (r : List Bool) : Inf.Res (List UInt8 × Bool) :=
  match Inf.symb zs r with
  | .ok (s, r) =>
    if s < 256 then (if most - out.length < 1 then .error 22 else .ok ((out ++ [UInt8.ofNat s], false), r))
    else if s = 256 then .ok ((out, true), r) else
    (match Inf.long s r with
    | .ok (n, r) => (match Inf.back ds most n out r with | .ok (out, r) => .ok ((out, false), r) | .error e => .error e)
    | .error e => .error e)
  | .error e => .error e
theorem body_one (zs ds : List Int) (most f : Nat) (out : List UInt8) (r : List Bool) : Inf.body zs ds most (f + 1) out r = match one zs ds most out r with
  | .ok ((out, true), r) => .ok (out, r)
  | .ok ((out, false), r) => Inf.body zs ds most f out r
  | .error e => .error e := by
  rw [Inf.body]
  unfold one
  cases Inf.symb zs r with
  | error e => rfl
  | ok p =>
    obtain ⟨s, r1⟩ := p
    simp only
    split
    · split
      · rfl
      · rfl
    · split
      · rfl
      · cases Inf.long s r1 with
        | error e => rfl
        | ok p =>
          obtain ⟨n, r2⟩ := p
          simp only
          cases Inf.back ds most n out r2 with
          | error e => rfl
          | ok p => rfl
theorem LSg.s_gt {n : Nat} {g : Sg} (h : LSg n g) : 256 < g.s ∧ g.s ≤ 285 := by
  rcases h with ⟨_, rfl⟩ | ⟨h1, h2, _⟩
  · exact ⟨by decide, by decide⟩
  · exact ⟨by omega, by omega⟩
/-- One literal, one copy is read. -/
theorem gets_tok {zs ds : List Int} {most : Nat} {out : List UInt8} (hz : Coded zs) (hd : Coded ds) (t : Tok) (ho : t.ok out) (hh : t.has zs ds) (hm : (t.eff out).length ≤ most) : Gets (one zs ds most out) (t.words zs ds) (t.eff out, false) := by
  cases t with
  | lit b =>
    have hb : b < 256 := ho
    have hm' : (out ++ [UInt8.ofNat b]).length ≤ most := hm
    rw [List.length_append, List.length_singleton] at hm'
    refine (gets_symb hz.good hz.kr b hh).map (fun r r' hr => ?_) (fun r e he => ?_)
    · unfold one; rw [hr]; simp only; rw [if_pos hb, if_neg (by omega)]; rfl
    · unfold one; rw [he]
  | cpy n d a b =>
    obtain ⟨h1, h2, h3⟩ := ho
    have hs := h2.s_gt
    have hm' : (Inf.copy out d n).length ≤ most := hm
    rw [Inf.copy_length] at hm'
    refine (gets_symb hz.good hz.kr a.s hh.1).bnd (g := fun r => match Inf.long a.s r with
      | .ok (n, r) => (match Inf.back ds most n out r with | .ok (out, r) => .ok ((out, false), r) | .error e => .error e)
      | .error e => .error e) ?_ (fun r r' hr => ?_) (fun r e he => ?_)
    · refine (gets_long h2).bnd (g := fun r => match Inf.back ds most n out r with | .ok (out, r) => .ok ((out, false), r) | .error e => .error e) ?_ (fun r r' hr => ?_) (fun r e he => ?_)
      · refine (gets_far hd hh.2 h3).map (fun r r' hr => ?_) (fun r e he => ?_)
        · unfold Inf.back; rw [hr]; simp only; rw [if_neg (by omega), if_neg (by omega)]; rfl
        · unfold Inf.back; rw [he]
      · rw [hr]
      · rw [he]
    · unfold one; rw [hr]; simp only; rw [if_neg (by omega), if_neg (by omega)]
    · unfold one; rw [he]
/-- What goes out above the cap. -/
theorem caps_tok {zs ds : List Int} {most : Nat} {out : List UInt8} (hz : Coded zs) (hd : Coded ds) (t : Tok) (ho : t.ok out) (hh : t.has zs ds) (hm : most < (t.eff out).length) (hle : out.length ≤ most) (r : List Bool) : one zs ds most out (t.words zs ds ++ r) = .error 22 := by
  cases t with
  | lit b =>
    have hb : b < 256 := ho
    have hm' : most < (out ++ [UInt8.ofNat b]).length := hm
    rw [List.length_append, List.length_singleton] at hm'
    have := (gets_symb hz.good hz.kr b hh).go r
    unfold one; rw [Tok.words, this]; simp only; rw [if_pos hb, if_pos (by omega)]
  | cpy n d a b =>
    obtain ⟨h1, h2, h3⟩ := ho
    have hs := h2.s_gt
    have hm' : most < (Inf.copy out d n).length := hm
    rw [Inf.copy_length] at hm'
    have e1 := (gets_symb hz.good hz.kr a.s hh.1).go (num a.x a.m ++ ((cod ds b.s ++ num b.x b.m) ++ r))
    have e2 := (gets_long h2).go ((cod ds b.s ++ num b.x b.m) ++ r)
    have e3 := (gets_far hd hh.2 h3).go r
    unfold one
    rw [Tok.words, List.append_assoc, List.append_assoc, e1]
    simp only
    rw [if_neg (by omega), if_neg (by omega), e2]
    simp only
    unfold Inf.back
    rw [e3]
    simp only
    rw [if_neg (by omega), if_pos (by omega)]
theorem gets_end {zs ds : List Int} {most : Nat} {out : List UInt8} (hz : Coded zs) (hs : 0 < zs.getD 256 0) : Gets (one zs ds most out) (cod zs 256) (out, true) := by
  refine (gets_symb hz.good hz.kr 256 hs).map (fun r r' hr => ?_) (fun r e he => ?_)
  · unfold one; rw [hr]; rfl
  · unfold one; rw [he]
/-- What goes out of a row. -/
def effs : List Tok → List UInt8 → List UInt8
  | [], out => out
  | t :: ts, out => effs ts (t.eff out)
def oks : List Tok → List UInt8 → Prop
  | [], _ => True
  | t :: ts, out => t.ok out ∧ oks ts (t.eff out)
def body (zs ds : List Int) : List Tok → List Bool
  | [] => cod zs 256
  | t :: ts => t.words zs ds ++ body zs ds ts
theorem effs_le : ∀ (ts : List Tok) (out : List UInt8), out.length ≤ (effs ts out).length
  | [], _ => Nat.le_refl _
  | t :: ts, out => Nat.le_trans (eff_le t out) (effs_le ts _)
theorem effs_append : ∀ (a b : List Tok) (out : List UInt8), effs (a ++ b) out = effs b (effs a out)
  | [], _, _ => rfl
  | t :: a, b, out => effs_append a b (t.eff out)
theorem oks_append : ∀ (a b : List Tok) (out : List UInt8), oks (a ++ b) out ↔ oks a out ∧ oks b (effs a out)
  | [], _, _ => by simp [oks, effs]
  | t :: a, b, out => by simp only [List.cons_append, oks, effs, oks_append a b, and_assoc]
/-- The words of a row: its bits in pieces. -/
theorem words_pos {zs ds : List Int} (t : Tok) (h : t.has zs ds) : 0 < (t.words zs ds).length := by
  cases t with
  | lit b => have h' : 0 < zs.getD b 0 := h; rw [Tok.words, cod_length]; omega
  | cpy n d a b => have h' : 0 < zs.getD a.s 0 := h.1; rw [Tok.words, List.length_append, cod_length]; omega
theorem body_go {zs ds : List Int} {most : Nat} (hz : Coded zs) (hd : Coded ds) (hs : 0 < zs.getD 256 0) : ∀ (ts : List Tok) (out : List UInt8) (f : Nat) (r : List Bool), oks ts out → (∀ t ∈ ts, t.has zs ds) → (effs ts out).length ≤ most → (body zs ds ts ++ r).length < f → Inf.body zs ds most f out (body zs ds ts ++ r) = .ok (effs ts out, r)
  | ts, out, 0, r, _, _, _, h => by omega
  | [], out, f + 1, r, ho, hh, hm, hf => by
    rw [body_one, body, (gets_end hz hs).go]; rfl
  | t :: ts, out, f + 1, r, ho, hh, hm, hf => by
    have h1 := hh t (List.mem_cons_self ..)
    have h2 := words_pos t h1
    rw [body, List.append_assoc, List.length_append] at hf
    rw [body_one, body, List.append_assoc, (gets_tok hz hd t ho.1 h1 (Nat.le_trans (effs_le ts _) hm)).go]
    exact body_go hz hd hs ts _ f r ho.2 (fun t ht => hh t (List.mem_cons_of_mem _ ht)) hm (by omega)
theorem body_few {zs ds : List Int} {most : Nat} (hz : Coded zs) (hd : Coded ds) (hs : 0 < zs.getD 256 0) : ∀ (ts : List Tok) (out : List UInt8) (f : Nat) (P t : List Bool), oks ts out → (∀ t ∈ ts, t.has zs ds) → (effs ts out).length ≤ most → body zs ds ts = P ++ t → t ≠ [] → P.length < f → Inf.body zs ds most f out P = .error 4
  | ts, out, 0, P, t, _, _, _, _, _, h => by omega
  | [], out, f + 1, P, t, ho, hh, hm, he, ht, hf => by
    rw [body_one, (gets_end (ds := ds) (most := most) (out := out) hz hs).few P t he ht]
  | a :: ts, out, f + 1, P, t, ho, hh, hm, he, ht, hf => by
    have h1 := hh a (List.mem_cons_self ..)
    have h2 := words_pos a h1
    have hg := gets_tok (most := most) hz hd a ho.1 h1 (Nat.le_trans (effs_le ts _) hm)
    rw [body_one]
    rcases List.append_eq_append_iff.1 he with ⟨b, h3, h4⟩ | ⟨b, h3, h4⟩
    · rw [h3, hg.go]
      rw [h3, List.length_append] at hf
      exact body_few hz hd hs ts _ f b t ho.2 (fun t ht => hh t (List.mem_cons_of_mem _ ht)) hm h4 ht (by omega)
    · rcases List.eq_nil_or_concat b with hb | hb
      · subst hb
        rw [List.append_nil] at h3
        rw [List.nil_append] at h4
        have := hg.go []
        rw [List.append_nil, h3] at this
        rw [this]
        rw [h3] at h2
        exact body_few hz hd hs ts _ f [] t ho.2 (fun t ht => hh t (List.mem_cons_of_mem _ ht)) hm h4.symm ht (by simp; omega)
      · rw [hg.few P b h3 (by obtain ⟨c, d, rfl⟩ := hb; simp)]
theorem body_cap {zs ds : List Int} {most : Nat} (hz : Coded zs) (hd : Coded ds) : ∀ (ts : List Tok) (out : List UInt8) (f : Nat) (r : List Bool), oks ts out → (∀ t ∈ ts, t.has zs ds) → most < (effs ts out).length → out.length ≤ most → (body zs ds ts ++ r).length < f → Inf.body zs ds most f out (body zs ds ts ++ r) = .error 22
  | ts, out, 0, r, _, _, _, _, h => by omega
  | [], out, f + 1, r, ho, hh, hm, hle, hf => by rw [effs] at hm; omega
  | t :: ts, out, f + 1, r, ho, hh, hm, hle, hf => by
    have h1 := hh t (List.mem_cons_self ..)
    have h2 := words_pos t h1
    rw [body, List.append_assoc, List.length_append] at hf
    rw [body_one, body, List.append_assoc]
    by_cases hc : (t.eff out).length ≤ most
    · rw [(gets_tok hz hd t ho.1 h1 hc).go]
      exact body_cap hz hd ts _ f r ho.2 (fun t ht => hh t (List.mem_cons_of_mem _ ht)) hm hc (by omega)
    · rw [caps_tok hz hd t ho.1 h1 (by omega) hle]
end Go.Proofs.YtefeilgbofphjaaDoor
/-
  Packages, as plain mathematics: what is taken of the lists.
-/
namespace Go.Proofs.YtefeilgbofphjaaDoor
open Go.RowKit Hf
/-- By rising counts. -/
def ris (es : List (Int × Bool)) : Prop := es.Pairwise (fun a b => a.1 ≤ b.1)
theorem pk_length : ∀ es : List (Int × Bool), (pk es).length = es.length / 2
  | [] => rfl
  | [_] => by simp [pk]
  | x :: y :: t => by
    show ((x.1 + y.1, true) :: pk t).length = _
    simp only [List.length_cons, pk_length t]; omega
theorem pk_flag : ∀ (es : List (Int × Bool)) (e : Int × Bool), e ∈ pk es → e.2 = true
  | [], _, h => by cases h
  | [_], _, h => by cases h
  | x :: y :: t, e, h => by
    have h : e ∈ (x.1 + y.1, true) :: pk t := h
    rcases List.mem_cons.1 h with rfl | h
    · rfl
    · exact pk_flag t e h
theorem pk_at : ∀ (es : List (Int × Bool)) (m : Nat) (p : Int × Bool), (pk es)[m]? = some p → ∃ x y, es[2 * m]? = some x ∧ es[2 * m + 1]? = some y ∧ p = (x.1 + y.1, true)
  | [], _, _, h => by simp [pk] at h
  | [_], _, _, h => by simp [pk] at h
  | x :: y :: t, 0, p, h => by
    have h : ((x.1 + y.1, true) :: pk t)[0]? = some p := h
    simp at h
    exact ⟨x, y, rfl, rfl, h.symm⟩
  | x :: y :: t, m + 1, p, h => by
    have h : ((x.1 + y.1, true) :: pk t)[m + 1]? = some p := h
    rw [List.getElem?_cons_succ] at h
    obtain ⟨a, b, h1, h2, h3⟩ := pk_at t m p h
    refine ⟨a, b, ?_, ?_, h3⟩
    · rw [show 2 * (m + 1) = 2 * m + 1 + 1 by omega, List.getElem?_cons_succ, List.getElem?_cons_succ]; exact h1
    · rw [show 2 * (m + 1) + 1 = 2 * m + 1 + 1 + 1 by omega, List.getElem?_cons_succ, List.getElem?_cons_succ]; exact h2
theorem pk_mem (es : List (Int × Bool)) (p : Int × Bool) (h : p ∈ pk es) : ∃ x y, x ∈ es ∧ y ∈ es ∧ p.1 = x.1 + y.1 := by
  obtain ⟨m, hm⟩ := List.mem_iff_getElem?.1 h
  obtain ⟨x, y, h1, h2, h3⟩ := pk_at es m p hm
  exact ⟨x, y, List.mem_of_getElem? h1, List.mem_of_getElem? h2, by rw [h3]⟩
theorem pk_ris : ∀ es : List (Int × Bool), ris es → ris (pk es)
  | [], _ => List.Pairwise.nil
  | [_], _ => List.Pairwise.nil
  | x :: y :: t, h => by
    show ris ((x.1 + y.1, true) :: pk t)
    have h1 := List.pairwise_cons.1 h
    have h2 := List.pairwise_cons.1 h1.2
    refine List.pairwise_cons.2 ⟨fun p hp => ?_, pk_ris t h2.2⟩
    obtain ⟨a, b, ha, hb, e⟩ := pk_mem t p hp
    have := h1.1 a (by simp [ha])
    have := h2.1 b hb
    rw [e]; simp only; omega
theorem mg_mem (items ps : List (Int × Bool)) (e : Int × Bool) (h : e ∈ mg items ps) : e ∈ items ∨ e ∈ ps := by
  induction ps generalizing items with
  | nil => exact .inl h
  | cons p t ih =>
    rw [mg] at h
    rcases List.mem_append.1 h with h | h
    · exact .inl (List.takeWhile_subset _ h)
    · rcases List.mem_cons.1 h with rfl | h
      · exact .inr (by simp)
      · rcases ih _ h with h | h
        · exact .inl (List.dropWhile_subset _ h)
        · exact .inr (by simp [h])
theorem drop_above (es : List (Int × Bool)) (v : Int) (h : ris es) : ∀ e ∈ es.dropWhile (fun e => decide (e.1 ≤ v)), v < e.1 := by
  induction es with
  | nil => intro e he; cases he
  | cons x t ih =>
    have h1 := List.pairwise_cons.1 h
    rw [List.dropWhile_cons]
    split
    · exact ih h1.2
    · rename_i hx
      simp at hx
      intro e he
      rcases List.mem_cons.1 he with rfl | he
      · exact hx
      · have := h1.1 e he; omega
theorem take_below (es : List (Int × Bool)) (v : Int) : ∀ e ∈ es.takeWhile (fun e => decide (e.1 ≤ v)), e.1 ≤ v := by
  induction es with
  | nil => intro e he; cases he
  | cons x t ih =>
    rw [List.takeWhile_cons]
    split
    · rename_i hx
      simp at hx
      intro e he
      rcases List.mem_cons.1 he with rfl | he
      · exact hx
      · exact ih e he
    · intro e he; cases he
theorem drop_ris (es : List (Int × Bool)) (q : Int × Bool → Bool) (h : ris es) : ris (es.dropWhile q) := List.Pairwise.sublist (List.dropWhile_sublist (p := q)) h
theorem take_ris (es : List (Int × Bool)) (q : Int × Bool → Bool) (h : ris es) : ris (es.takeWhile q) := List.Pairwise.sublist (List.takeWhile_sublist (p := q)) h
theorem mg_ris (items ps : List (Int × Bool)) (h : ris items) (hp : ris ps) : ris (mg items ps) := by
  induction ps generalizing items with
  | nil => exact h
  | cons p t ih =>
    have hp1 := List.pairwise_cons.1 hp
    rw [mg]
    refine List.pairwise_append.2 ⟨take_ris _ _ h, List.pairwise_cons.2 ⟨fun e he => ?_, ih _ (drop_ris _ _ h) hp1.2⟩, fun a ha b hb => ?_⟩
    · rcases mg_mem _ _ _ he with he | he
      · have := drop_above items p.1 h e he; omega
      · exact hp1.1 e he
    · have h1 := take_below items p.1 a ha
      rcases List.mem_cons.1 hb with rfl | hb
      · exact h1
      · rcases mg_mem _ _ _ hb with hb | hb
        · have := drop_above items p.1 h b hb; omega
        · have := hp1.1 b hb; omega
theorem mg_count (P : Int × Bool → Bool) (items ps : List (Int × Bool)) : (mg items ps).countP P = items.countP P + ps.countP P := by
  induction ps generalizing items with
  | nil => simp [mg]
  | cons p t ih =>
    rw [mg, List.countP_append, List.countP_cons, ih, List.countP_cons]
    have h2 := congrArg (List.countP P) (List.takeWhile_append_dropWhile (p := fun e : Int × Bool => decide (e.1 ≤ p.1)) (l := items))
    rw [List.countP_append] at h2
    omega
theorem pcs_count (es : List (Int × Bool)) : pcs es = es.countP (·.2) := by unfold pcs; rw [List.countP_eq_length_filter]
theorem pcs_not (es : List (Int × Bool)) : es.length = pcs es + es.countP (fun e => !e.2) := by
  rw [pcs_count, List.length_eq_countP_add_countP (fun e : Int × Bool => e.2)]
  congr 2
  funext e; cases e.2 <;> rfl
theorem its_flag (cs : List Int) : ∀ e ∈ its cs, e.2 = false := by
  intro e he
  obtain ⟨c, _, rfl⟩ := List.mem_map.1 he
  rfl
theorem its_length (cs : List Int) : (its cs).length = cs.length := by simp [its]
theorem none_pcs {es : List (Int × Bool)} (h : ∀ e ∈ es, e.2 = false) : pcs es = 0 := by
  rw [pcs_count, List.countP_eq_zero]; intro e he; rw [h e he]; simp
theorem all_pcs {es : List (Int × Bool)} (h : ∀ e ∈ es, e.2 = true) : pcs es = es.length := by
  rw [pcs_count, List.countP_eq_length]; exact h
theorem pcs_append (a b : List (Int × Bool)) : pcs (a ++ b) = pcs a + pcs b := by simp [pcs]
theorem mg_ahead (ps : List (Int × Bool)) : ∀ (items : List (Int × Bool)) (m T : Nat) (p : Int × Bool), ris items → (∀ e ∈ items, e.2 = false) → (∀ e ∈ ps, e.2 = true) → ps[m]? = some p → m < pcs ((mg items ps).take T) → items.countP (fun e => decide (e.1 ≤ p.1)) + m + 1 ≤ T := by
  induction ps with
  | nil => intro items m T p _ _ _ h; simp at h
  | cons x t ih =>
    intro items m T p hr hi hp hm hlt
    rw [mg] at hlt
    have h2 := List.takeWhile_append_dropWhile (p := fun e : Int × Bool => decide (e.1 ≤ x.1)) (l := items)
    have hfl : ∀ e ∈ items.takeWhile (fun e => decide (e.1 ≤ x.1)), e.2 = false := fun e he => hi e (List.takeWhile_subset _ he)
    have hdr := drop_above items x.1 hr
    have hrd : ris (items.dropWhile (fun e => decide (e.1 ≤ x.1))) := drop_ris _ _ hr
    have hid : ∀ e ∈ items.dropWhile (fun e => decide (e.1 ≤ x.1)), e.2 = false := fun e he => hi e (List.dropWhile_subset _ he)
    generalize items.takeWhile (fun e => decide (e.1 ≤ x.1)) = tw at *
    generalize items.dropWhile (fun e => decide (e.1 ≤ x.1)) = dw at *
    subst h2
    rw [List.take_append, pcs_append, none_pcs (fun e he => hfl e (List.mem_of_mem_take he)), Nat.zero_add] at hlt
    have hT : tw.length < T := by
      apply Classical.byContradiction
      intro h
      rw [show T - tw.length = 0 by omega] at hlt
      simp [pcs] at hlt
    rw [show T - tw.length = (T - tw.length - 1) + 1 by omega, List.take_succ_cons] at hlt
    have e1 : pcs (x :: (mg dw t).take (T - tw.length - 1)) = pcs ((mg dw t).take (T - tw.length - 1)) + 1 := by
      have := hp x (by simp)
      simp [pcs, this]
    rw [e1] at hlt
    rw [List.countP_append]
    have hct := List.countP_le_length (p := fun e : Int × Bool => decide (e.1 ≤ p.1)) (l := tw)
    cases m with
    | zero =>
      simp at hm
      subst hm
      have : dw.countP (fun e => decide (e.1 ≤ x.1)) = 0 := by
        rw [List.countP_eq_zero]; intro e he; have := hdr e he; simp; omega
      omega
    | succ m =>
      rw [List.getElem?_cons_succ] at hm
      have := ih dw m (T - tw.length - 1) p hrd hid (fun e he => hp e (by simp [he])) hm (by omega)
      omega
theorem lst_ris (items : List (Int × Bool)) (h : ris items) (j : Nat) : ris (lst items j) := by
  induction j with
  | zero => exact h
  | succ j ih => exact mg_ris _ _ h (pk_ris _ ih)
theorem lst_items (items : List (Int × Bool)) (_h : ∀ e ∈ items, e.2 = false) (Q : Int × Bool → Bool) (hQ : ∀ e, Q e = true → e.2 = false) (j : Nat) : (lst items j).countP Q = items.countP Q := by
  cases j with
  | zero => rfl
  | succ j =>
    show (mg items (pk (lst items j))).countP Q = _
    rw [mg_count]
    have : (pk (lst items j)).countP Q = 0 := by
      rw [List.countP_eq_zero]; intro e he h1
      have := hQ e h1
      rw [pk_flag _ _ he] at this; cases this
    omega
theorem lst_all (cs : List Int) (j : Nat) : (lst (its cs) j).countP (fun e => !e.2) = cs.length := by
  rw [lst_items _ (its_flag cs) _ (by intro e h; simpa using h), List.countP_eq_length.2, its_length]
  intro e he; simp [its_flag cs e he]
theorem take_split (es : List (Int × Bool)) (T : Nat) (hT : T ≤ es.length) : T - pcs (es.take T) = (es.take T).countP (fun e => !e.2) := by
  have := pcs_not (es.take T)
  rw [List.length_take, Nat.min_eq_left hT] at this
  omega
/-- Of the items no more are taken in a round than in the one ahead. -/
theorem items_fall (cs : List Int) (hr : ris (its cs)) (h0 : ∀ c ∈ cs, 0 ≤ c) (j T : Nat) (p : Nat) (hp : p = pcs ((lst (its cs) (j + 1)).take T)) : 2 * p - pcs ((lst (its cs) j).take (2 * p)) ≤ T - p := by
  have hple : p ≤ (pk (lst (its cs) j)).length := by
    rw [hp]
    show pcs ((mg (its cs) (pk (lst (its cs) j))).take T) ≤ _
    rw [pcs_count]
    refine Nat.le_trans ((List.take_sublist _ _).countP_le) ?_
    rw [mg_count, ← pcs_count, ← pcs_count, none_pcs (its_flag cs), Nat.zero_add]
    exact pcs_le _
  rcases Nat.eq_zero_or_pos p with h | h
  · subst h; simp
  · have hpl := pk_length (lst (its cs) j)
    rw [take_split _ _ (by omega)]
    have hm : (pk (lst (its cs) j))[p - 1]? = some (pk (lst (its cs) j))[p - 1] := List.getElem?_eq_getElem (by omega)
    generalize (pk (lst (its cs) j))[p - 1] = v at hm
    obtain ⟨x, y, hx, hy, hv⟩ := pk_at _ _ _ hm
    have ha := mg_ahead (pk (lst (its cs) j)) (its cs) (p - 1) T v hr (its_flag cs) (pk_flag _) hm (by
      have : pcs ((mg (its cs) (pk (lst (its cs) j))).take T) = p := hp.symm
      omega)
    have hri := lst_ris (its cs) hr j
    have hpos : ∀ e ∈ lst (its cs) j, 0 ≤ e.1 := (lst_facts (its cs) (by
      intro e he
      obtain ⟨c, hc, rfl⟩ := List.mem_map.1 he
      exact h0 c hc) _ (Int.le_refl _) j).1
    have hx0 := hpos x (List.mem_of_getElem? hx)
    have hall : ∀ e ∈ (lst (its cs) j).take (2 * p), e.1 ≤ v.1 := by
      intro e he
      obtain ⟨i, hi⟩ := List.mem_iff_getElem?.1 he
      have hi2 : i < 2 * p := by
        have := (List.getElem?_eq_some_iff.1 hi).1
        rw [List.length_take] at this; omega
      rw [List.getElem?_take, if_pos hi2] at hi
      have h1 : e.1 ≤ y.1 := by
        rcases Nat.lt_or_ge i (2 * (p - 1) + 1) with h2 | h2
        · obtain ⟨l1, e1⟩ := List.getElem?_eq_some_iff.1 hi
          obtain ⟨l2, e2⟩ := List.getElem?_eq_some_iff.1 hy
          have := List.pairwise_iff_getElem.1 hri i (2 * (p - 1) + 1) l1 l2 h2
          rw [e1, e2] at this; exact this
        · obtain rfl : i = 2 * (p - 1) + 1 := by omega
          rw [hy] at hi; cases hi; exact Int.le_refl _
      rw [hv]; simp only; omega
    have e1 : ((lst (its cs) j).take (2 * p)).countP (fun e => !e.2) ≤ ((lst (its cs) j).take (2 * p)).countP (fun e => !e.2 && decide (e.1 ≤ v.1)) := by
      refine List.countP_mono_left ?_
      intro e he h1
      have := hall e he
      simp at h1
      simp [h1, this]
    have e2 : ((lst (its cs) j).take (2 * p)).countP (fun e => !e.2 && decide (e.1 ≤ v.1)) ≤ (lst (its cs) j).countP (fun e => !e.2 && decide (e.1 ≤ v.1)) := (List.take_sublist _ _).countP_le
    rw [lst_items _ (its_flag cs) _ (by intro e h; simp at h; exact h.1)] at e2
    have e3 : (its cs).countP (fun e => !e.2 && decide (e.1 ≤ v.1)) ≤ (its cs).countP (fun e => decide (e.1 ≤ v.1)) := by
      refine List.countP_mono_left ?_
      intro e _ h1
      simp at h1
      simp [h1.2]
    omega
end Go.Proofs.YtefeilgbofphjaaDoor
/-
  The contracts of the document's power, State, May and Turned.
-/
namespace Go.Proofs.YtefeilgbofphjaaDoor
open Go.RowKit Hf

/-- 2 to n. -/
def p2 (n : Nat) : Nat := 2 ^ n
theorem p2_succ (k : Nat) : p2 (k + 1) = p2 k * 2 := Nat.pow_succ 2 k
theorem p2_le (k : Nat) (h : k ≤ 15) : p2 k ≤ 32768 := Nat.pow_le_pow_right (n := 2) (by decide) h
theorem sm_snoc (zs : List Int) (z : Int) (n : Nat) : sm (zs ++ [z]) n = sm zs n + (if 0 < z ∧ z ≤ (n : Int) then 2 ^ (15 - z.toNat) else 0) := by
  induction n with
  | zero => rw [sm, sm, if_neg (by omega)]
  | succ n ih =>
    rw [sm, sm, ih, List.count_append, List.count_singleton]
    by_cases h : z = ((n + 1 : Nat) : Int)
    · have e1 : (if 0 < z ∧ z ≤ (n : Int) then 2 ^ (15 - z.toNat) else 0) = 0 := if_neg (by omega)
      have e2 : (if (z == ((n + 1 : Nat) : Int)) = true then 1 else 0) = 1 := if_pos (by rw [h]; exact beq_self_eq_true _)
      have e3 : (if 0 < z ∧ z ≤ ((n + 1 : Nat) : Int) then 2 ^ (15 - z.toNat) else 0) = 2 ^ (15 - z.toNat) := if_pos (by omega)
      rw [e1, e2, e3, Nat.add_mul, Nat.one_mul, show z.toNat = n + 1 by omega]; omega
    · have e2 : (if (z == ((n + 1 : Nat) : Int)) = true then 1 else 0) = 0 := if_neg (fun e => h (eq_of_beq e))
      rw [e2, Nat.add_zero]
      by_cases h2 : 0 < z ∧ z ≤ (n : Int)
      · have e3 : 0 < z ∧ z ≤ ((n + 1 : Nat) : Int) := by omega
        rw [if_pos h2, if_pos e3]; omega
      · have e3 : ¬ (0 < z ∧ z ≤ ((n + 1 : Nat) : Int)) := by omega
        rw [if_neg h2, if_neg e3]; omega
theorem take_snoc (zs : List Int) (k : Nat) (hk : k < zs.length) : zs.take (k + 1) = zs.take k ++ [zs.getD k 0] := by
  rw [List.take_add_one, List.getElem?_eq_getElem hk]; simp [hk]
end Go.Proofs.YtefeilgbofphjaaDoor
/-
  Lengths by packages are full.
-/
namespace Go.Proofs.YtefeilgbofphjaaDoor
open Go.RowKit Hf
theorem lst_length (items : List (Int × Bool)) (j : Nat) : (lst items (j + 1)).length = items.length + (lst items j).length / 2 := by
  show (mg items (pk (lst items j))).length = _
  rw [mg_length, pk_length]
theorem lst_le (items : List (Int × Bool)) (j : Nat) : (lst items j).length ≤ 2 * items.length := by
  induction j with
  | zero => show items.length ≤ _; omega
  | succ j ih => rw [lst_length]; omega
theorem lst_ge (items : List (Int × Bool)) (j : Nat) : ∀ i, items.length ≤ 2 ^ (i + j) → 2 * items.length ≤ (lst items j).length + 2 ^ i := by
  induction j with
  | zero => intro i h; show _ ≤ items.length + _; simp at h; omega
  | succ j ih =>
    intro i h
    have := ih (i + 1) (by rw [show i + 1 + j = i + (j + 1) by omega]; exact h)
    rw [lst_length]
    rw [Nat.pow_succ] at this
    omega
/-- How many are taken of a round's list, and how many of these are symbols. -/
def tk (k : Nat) (ls : Nat → List (Int × Bool)) (L : Nat) : Nat → Nat
  | 0 => 2 * k - 2
  | d + 1 => 2 * pcs ((ls (L - 1 - d)).take (tk k ls L d))
def sq (k : Nat) (ls : Nat → List (Int × Bool)) (L d : Nat) : Nat := tk k ls L d - pcs ((ls (L - 1 - d)).take (tk k ls L d))
theorem stt_tk (syms : List Nat) (zs : List Int) (ls : Nat → List (Int × Bool)) (L d : Nat) : (stt syms zs ls L d).2 = tk syms.length ls L d := by
  induction d with
  | zero => rfl
  | succ d ih => show 2 * pcs ((ls (L - 1 - d)).take (stt syms zs ls L d).2) = _; rw [ih]; rfl
theorem stt_sq (syms : List Nat) (zs : List Int) (ls : Nat → List (Int × Bool)) (L d : Nat) : (stt syms zs ls L (d + 1)).1 = bump (syms.take (sq syms.length ls L d)) (stt syms zs ls L d).1 := by
  show bump (syms.take ((stt syms zs ls L d).2 - pcs ((ls (L - 1 - d)).take (stt syms zs ls L d).2))) _ = _
  rw [stt_tk]; rfl
theorem pcs_lst (cs : List Int) (j T : Nat) : pcs ((lst (its cs) (j + 1)).take T) ≤ (lst (its cs) j).length / 2 := by
  rw [pcs_count]
  refine Nat.le_trans ((List.take_sublist _ _).countP_le) ?_
  show (mg (its cs) (pk (lst (its cs) j))).countP _ ≤ _
  rw [mg_count, ← pcs_count, ← pcs_count, none_pcs (its_flag cs), Nat.zero_add, ← pk_length]
  exact pcs_le _
/-- What is taken is there. -/
theorem tk_le (cs : List Int) (k L : Nat) (hk : cs.length = k) (_hk1 : 1 ≤ k) (hL : k ≤ 2 ^ L) (d : Nat) (hd : d < L) : tk k (lst (its cs)) L d ≤ (lst (its cs) (L - 1 - d)).length := by
  cases d with
  | zero =>
    have := lst_ge (its cs) (L - 1) 1 (by rw [its_length, hk, show 1 + (L - 1) = L by omega]; exact hL)
    rw [its_length, hk] at this
    show 2 * k - 2 ≤ _
    simp only [Nat.sub_zero]
    omega
  | succ d =>
    have := pcs_lst cs (L - 1 - (d + 1)) (tk k (lst (its cs)) L d)
    show 2 * pcs ((lst (its cs) (L - 1 - d)).take (tk k (lst (its cs)) L d)) ≤ _
    rw [show L - 1 - d = L - 1 - (d + 1) + 1 by omega]
    omega
theorem sq_le (cs : List Int) (k L : Nat) (hk : cs.length = k) (hk1 : 1 ≤ k) (hL : k ≤ 2 ^ L) (d : Nat) (hd : d < L) : sq k (lst (its cs)) L d ≤ k := by
  unfold sq
  rw [take_split _ _ (tk_le cs k L hk hk1 hL d hd)]
  refine Nat.le_trans ((List.take_sublist _ _).countP_le) ?_
  rw [lst_all, hk]; exact Nat.le_refl _
theorem sq_fall (cs : List Int) (k L : Nat) (hr : ris (its cs)) (h0 : ∀ c ∈ cs, 0 ≤ c) (d : Nat) (hd : d + 1 < L) : sq k (lst (its cs)) L (d + 1) ≤ sq k (lst (its cs)) L d := by
  have := items_fall cs hr h0 (L - 1 - (d + 1)) (tk k (lst (its cs)) L d) _ rfl
  rw [show L - 1 - (d + 1) + 1 = L - 1 - d by omega] at this
  exact this
theorem tk_last (cs : List Int) (k L : Nat) (hL : 1 ≤ L) : tk k (lst (its cs)) L L = 0 := by
  obtain ⟨d, rfl⟩ : ∃ d, L = d + 1 := ⟨L - 1, by omega⟩
  show 2 * pcs ((lst (its cs) (d + 1 - 1 - d)).take _) = 0
  rw [show d + 1 - 1 - d = 0 by omega]
  show 2 * pcs ((its cs).take _) = 0
  rw [none_pcs (fun e he => its_flag cs e (List.mem_of_mem_take he))]
/-- Added up over a row. -/
def gs (g : Int → Int) (zs : List Int) : Int := (zs.map g).sum
theorem gs_set (g : Int → Int) (zs : List Int) (s : Nat) (hs : s < zs.length) (y : Int) : gs g (zs.set s y) = gs g zs - g (zs.getD s 0) + g y := by
  induction zs generalizing s with
  | nil => simp at hs
  | cons z t ih =>
    cases s with
    | zero => simp [gs]; omega
    | succ s =>
      have := ih s (by simpa using hs)
      simp only [gs, List.set_cons_succ, List.map_cons, List.sum_cons, List.getD_cons_succ] at this ⊢
      omega
theorem bump_cons (s : Nat) (t : List Nat) (zs : List Int) : bump (s :: t) zs = bump t (zs.set s (zs.getD s 0 + 1)) := rfl
theorem getD_set (zs : List Int) (s x : Nat) (y : Int) (hs : s < zs.length) : (zs.set s y).getD x 0 = if x = s then y else zs.getD x 0 := by
  by_cases h : x = s
  · subst h; simp [hs]
  · rw [if_neg h]
    simp only [List.getD_eq_getElem?_getD, List.getElem?_set]
    rw [if_neg (by omega)]
theorem bump_at (ss : List Nat) (zs : List Int) (x : Nat) (h : ∀ s ∈ ss, s < zs.length) : (bump ss zs).getD x 0 = zs.getD x 0 + (ss.count x : Nat) := by
  induction ss generalizing zs with
  | nil => simp [bump]
  | cons s t ih =>
    rw [bump_cons, ih _ (by intro y hy; rw [List.length_set]; exact h y (by simp [hy])), getD_set _ _ _ _ (h s (by simp)), List.count_cons]
    by_cases hx : x = s
    · subst hx; simp; omega
    · rw [if_neg hx, if_neg (by simpa using fun e => hx e.symm)]; rfl
theorem bump_gs (g : Int → Int) (ss : List Nat) (zs : List Int) (v : Int) (h : ∀ s ∈ ss, s < zs.length) (hv : ∀ s ∈ ss, zs.getD s 0 = v) (hn : ss.Nodup) : gs g (bump ss zs) = gs g zs + ss.length * (g (v + 1) - g v) := by
  induction ss generalizing zs with
  | nil => simp [bump]
  | cons s t ih =>
    have hn1 := List.nodup_cons.1 hn
    rw [bump_cons, ih _ (by intro y hy; rw [List.length_set]; exact h y (by simp [hy])) (fun y hy => by
      rw [getD_set _ _ _ _ (h s (by simp)), if_neg (by intro e; subst e; exact hn1.1 hy)]; exact hv y (by simp [hy])) hn1.2, gs_set _ _ _ (h s (by simp)), hv s (by simp), List.length_cons, Int.natCast_add, Int.add_mul]
    simp
    omega
/-- What a length has, in parts of 2 to -15. -/
def g3 (z : Int) : Int := if 0 < z ∧ z ≤ 15 then 2 ^ (15 - z.toNat) else 0
theorem kr_gs (zs : List Int) : (kr zs : Int) = gs g3 zs := by
  rw [← sm_all, ← List.reverse_reverse zs]
  generalize zs.reverse = ys
  induction ys with
  | nil => simp [sm, gs]
  | cons y t ih =>
    rw [List.reverse_cons, sm_snoc, Int.natCast_add, ih]
    simp only [gs, List.map_append, List.sum_append, List.map_cons, List.map_nil, List.sum_cons, List.sum_nil]
    by_cases h : 0 < y ∧ y ≤ 15
    · rw [if_pos (by omega), g3, if_pos h]; simp
    · rw [if_neg (by omega), g3, if_neg h]; simp
theorem g3_pos (z : Int) : 0 ≤ g3 z := by
  unfold g3; split
  · exact Int.le_of_lt (Int.pow_pos (by decide))
  · exact Int.le_refl _
theorem gs_pos (g : Int → Int) (hg : ∀ z, 0 ≤ g z) (zs : List Int) : 0 ≤ gs g zs := by
  induction zs with
  | nil => exact Int.le_refl _
  | cons z t ih => have := hg z; simp only [gs, List.map_cons, List.sum_cons] at ih ⊢; omega
theorem gs_mem (g : Int → Int) (hg : ∀ z, 0 ≤ g z) (zs : List Int) (z : Int) (hz : z ∈ zs) : g z ≤ gs g zs := by
  induction zs with
  | nil => cases hz
  | cons y t ih =>
    have h1 := hg y
    have h2 := gs_pos g hg t
    simp only [gs, List.map_cons, List.sum_cons] at ih h2 ⊢
    rcases List.mem_cons.1 hz with rfl | hz
    · omega
    · have := ih hz; omega
theorem g3_up (d : Nat) (h : 1 ≤ d) (h2 : d ≤ 14) : g3 ((d : Int) + 1) - g3 d = - 2 ^ (14 - d) := by
  unfold g3
  rw [if_pos (by omega), if_pos (by omega)]
  rw [show ((d : Int) + 1).toNat = d + 1 by omega, Int.toNat_natCast, show 15 - d = 14 - d + 1 by omega, show 15 - (d + 1) = 14 - d by omega, Int.pow_succ]
  omega
theorem zeros_gs (n : Nat) (g : Int → Int) (h : g 0 = 0) : gs g (List.replicate n 0) = 0 := by
  induction n with
  | zero => rfl
  | succ n ih => rw [List.replicate_succ]; simp only [gs, List.map_cons, List.sum_cons] at ih ⊢; omega
/-- What holds behind d rounds. -/
structure Rounds (syms : List Nat) (n k L : Nat) (ls : Nat → List (Int × Bool)) (d : Nat) (zs : List Int) : Prop where
  len : zs.length = n
  bound : ∀ x, 0 ≤ zs.getD x 0 ∧ zs.getD x 0 ≤ d
  top : ∀ x ∈ syms.take (if d = 0 then k else sq k ls L (d - 1)), zs.getD x 0 = d
  out : ∀ x, x ∉ syms → zs.getD x 0 = 0
  some : 0 < d → ∀ x ∈ syms.take (sq k ls L 0), 1 ≤ zs.getD x 0
  fall : ∀ i j, i < j → j < k → zs.getD (syms.getD j 0) 0 ≤ zs.getD (syms.getD i 0) 0
  sum : if d = 0 then gs g3 zs = 0 else 2 * gs g3 zs + (k - 1 : Nat) * 2 ^ 16 = sq k ls L 0 * 2 ^ 16 + tk k ls L d * 2 ^ (15 - d)
theorem count_nodup {l : List Nat} (h : l.Nodup) (x : Nat) : l.count x = if x ∈ l then 1 else 0 := h.count
theorem take_sub {l : List Nat} {a b : Nat} (h : a ≤ b) {x : Nat} (hx : x ∈ l.take a) : x ∈ l.take b := by
  rw [show a = min a b by omega, ← List.take_take] at hx
  exact List.mem_of_mem_take hx
theorem mem_take_iff {l : List Nat} (hn : l.Nodup) (i a : Nat) (hi : i < l.length) : l.getD i 0 ∈ l.take a ↔ i < a := by
  have e : l.getD i 0 = l[i] := by simp [hi]
  rw [e]
  constructor
  · intro h
    obtain ⟨j, hj, h1⟩ := List.getElem_of_mem h
    rw [List.getElem_take] at h1
    rw [List.length_take] at hj
    have := (List.getElem_inj hn).1 h1
    omega
  · intro h
    rw [List.mem_iff_getElem]
    exact ⟨i, by rw [List.length_take]; omega, by rw [List.getElem_take]⟩
theorem rounds (cs : List Int) (syms : List Nat) (n k L : Nat) (hk : syms.length = k) (hc : cs.length = k) (hk1 : 2 ≤ k) (hL : k ≤ 2 ^ L) (hL15 : L ≤ 15) (hr : ris (its cs)) (h0 : ∀ c ∈ cs, 0 ≤ c) (hs : ∀ x ∈ syms, x < n) (hn : syms.Nodup) (d : Nat) (hd : d ≤ L) :
    Rounds syms n k L (lst (its cs)) d (stt syms (List.replicate n 0) (lst (its cs)) L d).1 := by
  induction d with
  | zero =>
    have e : ∀ x, (List.replicate n (0 : Int)).getD x 0 = 0 := by
      intro x; simp only [List.getD_eq_getElem?_getD, List.getElem?_replicate]; split <;> rfl
    show Rounds _ _ _ _ _ _ (List.replicate n 0)
    refine ⟨by simp, fun x => by rw [e x]; omega, fun x _ => by rw [e x]; rfl, fun x _ => e x, fun h => by omega, fun i j _ _ => by rw [e, e]; exact Int.le_refl _, ?_⟩
    rw [if_pos rfl]; exact zeros_gs _ _ (by simp [g3])
  | succ d ih =>
    have ih := ih (by omega)
    rw [stt_sq, hk]
    generalize (stt syms (List.replicate n 0) (lst (its cs)) L d).1 = zs at *
    have hsq := sq_le cs k L hc (by omega) hL d (by omega)
    have htop : ∀ x ∈ syms.take (sq k (lst (its cs)) L d), zs.getD x 0 = d := by
      intro x hx
      refine ih.top x ?_
      split
      · exact take_sub hsq hx
      · refine take_sub ?_ hx
        have := sq_fall cs k L hr h0 (d - 1) (by omega)
        rw [show d - 1 + 1 = d by omega] at this; exact this
    have hlt : ∀ s ∈ syms.take (sq k (lst (its cs)) L d), s < zs.length := fun s h => by rw [ih.len]; exact hs s (List.mem_of_mem_take h)
    have hnt : (syms.take (sq k (lst (its cs)) L d)).Nodup := List.Pairwise.sublist (List.take_sublist _ _) hn
    have hat := fun x => bump_at (syms.take (sq k (lst (its cs)) L d)) zs x hlt
    have hcn := fun x => count_nodup hnt x
    refine ⟨by rw [bump_length, ih.len], fun x => ?_, fun x hx => ?_, fun x hx => ?_, fun _ x hx => ?_, fun i j hij hj => ?_, ?_⟩
    · rw [hat, hcn]
      have := ih.bound x
      split
      · rename_i h; have := htop x h; omega
      · omega
    · rw [if_neg (by omega), Nat.add_sub_cancel] at hx
      rw [hat, hcn, if_pos hx, htop x hx]; simp
    · rw [hat, hcn, if_neg (fun h => hx (List.mem_of_mem_take h)), ih.out x hx]; simp
    · rw [hat, hcn]
      rcases Nat.eq_zero_or_pos d with h | h
      · subst h; rw [if_pos hx]; have := ih.bound x; omega
      · have := ih.some h x hx; split <;> omega
    · have := ih.fall i j hij hj
      rw [hat, hat, hcn, hcn]
      have m1 := mem_take_iff hn i (sq k (lst (its cs)) L d) (by omega)
      have m2 := mem_take_iff hn j (sq k (lst (its cs)) L d) (by omega)
      by_cases h1 : j < sq k (lst (its cs)) L d
      · rw [if_pos (m2.2 h1), if_pos (m1.2 (by omega))]; omega
      · rw [if_neg (fun h => h1 (m2.1 h))]; split <;> omega
    · rw [if_neg (by omega), bump_gs g3 _ _ d hlt htop hnt, List.length_take, Nat.min_eq_left (by omega)]
      have e2 : tk k (lst (its cs)) L (d + 1) = 2 * (tk k (lst (its cs)) L d - sq k (lst (its cs)) L d) ∧ sq k (lst (its cs)) L d ≤ tk k (lst (its cs)) L d := by
        have h2 : pcs ((lst (its cs) (L - 1 - d)).take (tk k (lst (its cs)) L d)) ≤ tk k (lst (its cs)) L d := by
          have := pcs_le ((lst (its cs) (L - 1 - d)).take (tk k (lst (its cs)) L d)); rw [List.length_take] at this; omega
        unfold sq
        refine ⟨?_, by omega⟩
        show 2 * pcs ((lst (its cs) (L - 1 - d)).take (tk k (lst (its cs)) L d)) = _
        omega
      have hsum := ih.sum
      rcases Nat.eq_zero_or_pos d with h | h
      · subst h
        rw [if_pos rfl] at hsum
        rw [hsum]
        have e3 : tk k (lst (its cs)) L 0 = 2 * k - 2 := rfl
        have e4 : g3 (((0 : Nat) : Int) + 1) - g3 ((0 : Nat) : Int) = 16384 := by decide
        rw [e4]
        simp only [Nat.zero_add] at e2 ⊢
        obtain ⟨e2, e5⟩ := e2
        rw [e2, e3]
        rw [e3] at e5
        simp only [Nat.reduceSub, Int.reducePow]
        omega
      · rw [if_neg (by omega)] at hsum
        rw [g3_up d h (by omega)]
        obtain ⟨e2, e5⟩ := e2
        rw [e2, show 15 - (d + 1) = 14 - d by omega]
        rw [show 15 - d = 14 - d + 1 by omega, show (2 : Int) ^ (14 - d + 1) = 2 ^ (14 - d) * 2 from Int.pow_succ _ _] at hsum
        have e6 : ((2 * (tk k (lst (its cs)) L d - sq k (lst (its cs)) L d) : Nat) : Int) = 2 * ((tk k (lst (its cs)) L d : Int) - (sq k (lst (its cs)) L d : Int)) := by omega
        rw [e6]
        generalize (2 : Int) ^ (14 - d) = q at *
        generalize (tk k (lst (its cs)) L d : Int) = t at *
        generalize (sq k (lst (its cs)) L d : Int) = s at *
        have a1 : 2 * (gs g3 zs + s * -q) = 2 * gs g3 zs - 2 * (s * q) := by rw [Int.mul_neg]; omega
        have a2 : 2 * (t - s) * q = 2 * (t * q) - 2 * (s * q) := by rw [Int.mul_assoc, Int.sub_mul]; omega
        have a3 : t * (q * 2) = 2 * (t * q) := by rw [← Int.mul_assoc]; omega
        rw [a1, a2]
        rw [a3] at hsum
        omega
theorem fin_sum (cs : List Int) (syms : List Nat) (n k L : Nat) (hk : syms.length = k) (hc : cs.length = k) (hk1 : 2 ≤ k) (hL : k ≤ 2 ^ L) (hL1 : 1 ≤ L) (hL15 : L ≤ 15) (hr : ris (its cs)) (h0 : ∀ c ∈ cs, 0 ≤ c) (hs : ∀ x ∈ syms, x < n) (hn : syms.Nodup) :
    kr (stt syms (List.replicate n 0) (lst (its cs)) L L).1 = 32768 ∧ ∀ x ∈ syms, 1 ≤ (stt syms (List.replicate n 0) (lst (its cs)) L L).1.getD x 0 := by
  have hR := rounds cs syms n k L hk hc hk1 hL hL15 hr h0 hs hn L (Nat.le_refl _)
  generalize (stt syms (List.replicate n 0) (lst (its cs)) L L).1 = zs at *
  have h1 := hR.sum
  rw [if_neg (by omega), tk_last cs k L hL1, ← kr_gs] at h1
  have h2 := sq_le cs k L hc (by omega) hL 0 (by omega)
  have h3 := hR.some (by omega)
  have h4 : sq k (lst (its cs)) L 0 = k := by
    apply Classical.byContradiction
    intro h
    simp only [Int.reducePow] at h1
    have e0 : (kr zs : Int) = 0 := by omega
    have e1 : sq k (lst (its cs)) L 0 = k - 1 := by omega
    have h5 := h3 (syms.getD 0 0) (by rw [mem_take_iff hn _ _ (by omega)]; omega)
    have h6 := hR.bound (syms.getD 0 0)
    have h7 : syms.getD 0 0 < zs.length := by
      rw [hR.len]; refine hs _ ?_
      rw [List.getD_eq_getElem?_getD, List.getElem?_eq_getElem (by omega)]; exact List.getElem_mem _
    have h8 : zs.getD (syms.getD 0 0) 0 ∈ zs := by
      rw [List.getD_eq_getElem?_getD, List.getElem?_eq_getElem h7]; exact List.getElem_mem _
    have h9 := gs_mem g3 g3_pos zs _ h8
    rw [← kr_gs, e0] at h9
    unfold g3 at h9
    rw [if_pos (by omega)] at h9
    have : (0 : Int) < 2 ^ (15 - (zs.getD (syms.getD 0 0) 0).toNat) := Int.pow_pos (by decide)
    omega
  refine ⟨?_, fun x hx => h3 x (by rw [h4, ← hk, List.take_length]; exact hx)⟩
  rw [h4] at h1
  simp only [Int.reducePow] at h1
  omega
theorem fin_bound (cs : List Int) (syms : List Nat) (n k L : Nat) (hk : syms.length = k) (hc : cs.length = k) (hk1 : 2 ≤ k) (hL : k ≤ 2 ^ L) (hL15 : L ≤ 15) (hr : ris (its cs)) (h0 : ∀ c ∈ cs, 0 ≤ c) (hs : ∀ x ∈ syms, x < n) (hn : syms.Nodup) :
    (stt syms (List.replicate n 0) (lst (its cs)) L L).1.length = n ∧ (∀ x, 0 ≤ (stt syms (List.replicate n 0) (lst (its cs)) L L).1.getD x 0 ∧ (stt syms (List.replicate n 0) (lst (its cs)) L L).1.getD x 0 ≤ L) ∧
    (∀ x, x ∉ syms → (stt syms (List.replicate n 0) (lst (its cs)) L L).1.getD x 0 = 0) ∧ (∀ i j, i < j → j < k → (stt syms (List.replicate n 0) (lst (its cs)) L L).1.getD (syms.getD j 0) 0 ≤ (stt syms (List.replicate n 0) (lst (its cs)) L L).1.getD (syms.getD i 0) 0) := by
  have hR := rounds cs syms n k L hk hc hk1 hL hL15 hr h0 hs hn L (Nat.le_refl _)
  exact ⟨hR.len, hR.bound, hR.out, hR.fall⟩
theorem sttOk_all (cs : List Int) (syms : List Nat) (n k L : Nat) (hk : syms.length = k) (hc : cs.length = k) (hk1 : 2 ≤ k) (hk2 : k ≤ 1024) (hL : k ≤ 2 ^ L) (hL15 : L ≤ 15) (hr : ris (its cs)) (h0 : ∀ c ∈ cs, 0 ≤ c) (hs : ∀ x ∈ syms, x < n) (hn : syms.Nodup) :
    sttOk syms (List.replicate n 0) (lst (its cs)) L := by
  intro d hd
  have hR := rounds cs syms n k L hk hc hk1 hL hL15 hr h0 hs hn d (by omega)
  have h1 := tk_le cs k L hc (by omega) hL d hd
  have h2 := sq_le cs k L hc (by omega) hL d hd
  have h3 := lst_le (its cs) (L - 1 - d)
  rw [its_length] at h3
  rw [stt_tk, hk]
  refine ⟨h1, h2, fun z hz => ?_, by omega⟩
  obtain ⟨i, hi, rfl⟩ := List.getElem_of_mem hz
  have := hR.bound i
  rw [List.getD_eq_getElem?_getD, List.getElem?_eq_getElem hi] at this
  simp only [Option.getD_some] at this
  omega
end Go.Proofs.YtefeilgbofphjaaDoor
