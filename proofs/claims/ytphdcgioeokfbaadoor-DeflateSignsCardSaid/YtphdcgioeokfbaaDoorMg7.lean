/-
  Merged, in the order in which they build: Toks.
-/
import Derived.Test.YtphdcgioeokfbaaDoorMg6
/-
  What stands in a block that has codes: literals, copies; how it is read back.
-/
namespace Go.Proofs.YtphdcgioeokfbaaDoor
open Hf

/-- A sign, its number behind, of how many bits. -/
structure Sg where
  s : Nat
  x : Nat
  m : Nat
/-- Where a sign begins. -/
def lb (g s : Nat) : Nat := if s < g then s else (g + s % g) * 2 ^ (s / g - 1)
def LSg (n : Nat) (g : Sg) : Prop := (n = 258 ∧ g = ⟨285, 0, 0⟩) ∨ (257 ≤ g.s ∧ g.s ≤ 284 ∧ g.m = (g.s - 257) / 4 - 1 ∧ g.x < 2 ^ g.m ∧ n = 3 + (lb 4 (g.s - 257) + g.x))
def FSg (d : Nat) (g : Sg) : Prop := g.s ≤ 29 ∧ g.m = g.s / 2 - 1 ∧ g.x < 2 ^ g.m ∧ d = 1 + (lb 2 g.s + g.x)
theorem gets_nil {α : Type} {f : List Bool → Inf.Res α} {x : α} (h : ∀ r, f r = .ok (x, r)) : Gets f [] x := ⟨fun r => h r, fun _ _ e ht => absurd (List.append_eq_nil_iff.1 e.symm).2 ht⟩
/-- Behind what is read something is made of it. -/
theorem Gets.map {α β : Type} {f : List Bool → Inf.Res α} {h : List Bool → Inf.Res β} {L : List Bool} {x : α} {y : β} (hf : Gets f L x) (hh1 : ∀ r r', f r = .ok (x, r') → h r = .ok (y, r')) (hh2 : ∀ r e, f r = .error e → h r = .error e) : Gets h L y :=
  ⟨fun r => hh1 _ _ (hf.go r), fun P t e ht => hh2 _ _ (hf.few P t e ht)⟩
theorem gets_scal (g s x m : Nat) (hm : m = s / g - 1) (hx : x < 2 ^ m) : Gets (Inf.scal g s) (num x m) (lb g s + x) := by
  by_cases h : s < g
  · have e : s / g = 0 := Nat.div_eq_of_lt h
    rw [e] at hm
    subst hm
    obtain rfl : x = 0 := by simp at hx; exact hx
    show Gets _ [] _
    refine gets_nil fun r => ?_
    unfold Inf.scal lb
    rw [if_pos h, if_pos h]; rfl
  · subst hm
    refine (gets_numb x (s / g - 1) hx).map (fun r r' hr => ?_) (fun r e he => ?_)
    · unfold Inf.scal lb; rw [if_neg h, if_neg h, hr]
    · unfold Inf.scal; rw [if_neg h, he]
theorem gets_long {n : Nat} {g : Sg} (h : LSg n g) : Gets (Inf.long g.s) (num g.x g.m) n := by
  rcases h with ⟨rfl, rfl⟩ | ⟨h1, h2, h3, h4, h5⟩
  · exact gets_nil (fun r => rfl)
  · subst h5
    refine (gets_scal 4 (g.s - 257) g.x g.m h3 h4).map (fun r r' hr => ?_) (fun r e he => ?_)
    · unfold Inf.long; rw [if_neg (by omega), if_neg (by omega), hr]
    · unfold Inf.long; rw [if_neg (by omega), if_neg (by omega), he]
/-- Lengths by which codes can be written. -/
structure Coded (zs : List Int) : Prop where
  good : good zs
  kr : kr zs ≤ 32768
theorem gets_far {d : Nat} {g : Sg} {ds : List Int} (hc : Coded ds) (hs : 0 < ds.getD g.s 0) (h : FSg d g) : Gets (Inf.far ds) (cod ds g.s ++ num g.x g.m) d := by
  obtain ⟨h1, h2, h3, rfl⟩ := h
  refine (gets_symb hc.good hc.kr g.s hs).bnd (g := fun r => match Inf.scal 2 g.s r with | .ok (x, r) => .ok (1 + x, r) | .error e => .error e) ?_ (fun r r' hr => ?_) (fun r e he => ?_)
  · refine (gets_scal 2 g.s g.x g.m h2 h3).map (fun r r' hr => ?_) (fun r e he => ?_)
    · rw [hr]
    · rw [he]
  · unfold Inf.far; rw [hr]; simp only; rw [if_neg (by omega)]
    cases Inf.scal 2 g.s r' with
    | error e => rfl
    | ok p => rfl
  · unfold Inf.far; rw [he]
/-- A literal, or a copy, with its signs. -/
inductive Tok where
  | lit (b : Nat)
  | cpy (n d : Nat) (a b : Sg)
namespace Tok
def ok : Tok → List UInt8 → Prop
  | lit b, _ => b < 256
  | cpy n d a b, out => d ≤ out.length ∧ LSg n a ∧ FSg d b
def eff : Tok → List UInt8 → List UInt8
  | lit b, out => out ++ [UInt8.ofNat b]
  | cpy n d _ _, out => Inf.copy out d n
def words (zs ds : List Int) : Tok → List Bool
  | lit b => cod zs b
  | cpy _ _ a b => cod zs a.s ++ (num a.x a.m ++ (cod ds b.s ++ num b.x b.m))
def has (zs ds : List Int) : Tok → Prop
  | lit b => 0 < zs.getD b 0
  | cpy _ _ a b => 0 < zs.getD a.s 0 ∧ 0 < ds.getD b.s 0
/-- Its signs, a distance's marked. -/
def sgs : Tok → List (Sg × Bool)
  | lit b => [(⟨b, 0, 0⟩, false)]
  | cpy _ _ a b => [(a, false), (b, true)]
end Tok
theorem eff_le (t : Tok) (out : List UInt8) : out.length ≤ (t.eff out).length := by
  cases t with
  | lit b => simp [Tok.eff]
  | cpy n d a b => rw [Tok.eff, Inf.copy_length]; omega
/-- One step of a block's body: what went out, and whether it was the end. -/
def one (zs ds : List Int) (most : Nat) (out : List UInt8) (r : List Bool) : Inf.Res (List UInt8 × Bool) :=
  match Inf.symb zs r with
  | .ok (s, r) =>
    if s < 256 then (if most - out.length < 1 then .error 22 else .ok ((out ++ [UInt8.ofNat s], false), r))
    else if s = 256 then .ok ((out, true), r) else
    (match Inf.long s r with
    | .ok (n, r) => (match Inf.back ds most n out r with | .ok (out, r) => .ok ((out, false), r) | .error e => .error e)
    | .error e => .error e)
  | .error e => .error e
theorem body_one (zs ds : List Int) (most f : Nat) (out : List UInt8) (r : List Bool) : Inf.body zs ds most (f + 1) out r = match one zs ds most out r with
  | .ok ((out, true), r) => .ok (out, r)
  | .ok ((out, false), r) => Inf.body zs ds most f out r
  | .error e => .error e := by
  rw [Inf.body]
  unfold one
  cases Inf.symb zs r with
  | error e => rfl
  | ok p =>
    obtain ⟨s, r1⟩ := p
    simp only
    split
    · split
      · rfl
      · rfl
    · split
      · rfl
      · cases Inf.long s r1 with
        | error e => rfl
        | ok p =>
          obtain ⟨n, r2⟩ := p
          simp only
          cases Inf.back ds most n out r2 with
          | error e => rfl
          | ok p => rfl
theorem LSg.s_gt {n : Nat} {g : Sg} (h : LSg n g) : 256 < g.s ∧ g.s ≤ 285 := by
  rcases h with ⟨_, rfl⟩ | ⟨h1, h2, _⟩
  · exact ⟨by decide, by decide⟩
  · exact ⟨by omega, by omega⟩
/-- One literal, one copy is read. -/
theorem gets_tok {zs ds : List Int} {most : Nat} {out : List UInt8} (hz : Coded zs) (hd : Coded ds) (t : Tok) (ho : t.ok out) (hh : t.has zs ds) (hm : (t.eff out).length ≤ most) : Gets (one zs ds most out) (t.words zs ds) (t.eff out, false) := by
  cases t with
  | lit b =>
    have hb : b < 256 := ho
    have hm' : (out ++ [UInt8.ofNat b]).length ≤ most := hm
    rw [List.length_append, List.length_singleton] at hm'
    refine (gets_symb hz.good hz.kr b hh).map (fun r r' hr => ?_) (fun r e he => ?_)
    · unfold one; rw [hr]; simp only; rw [if_pos hb, if_neg (by omega)]; rfl
    · unfold one; rw [he]
  | cpy n d a b =>
    obtain ⟨h1, h2, h3⟩ := ho
    have hs := h2.s_gt
    have hm' : (Inf.copy out d n).length ≤ most := hm
    rw [Inf.copy_length] at hm'
    refine (gets_symb hz.good hz.kr a.s hh.1).bnd (g := fun r => match Inf.long a.s r with
      | .ok (n, r) => (match Inf.back ds most n out r with | .ok (out, r) => .ok ((out, false), r) | .error e => .error e)
      | .error e => .error e) ?_ (fun r r' hr => ?_) (fun r e he => ?_)
    · refine (gets_long h2).bnd (g := fun r => match Inf.back ds most n out r with | .ok (out, r) => .ok ((out, false), r) | .error e => .error e) ?_ (fun r r' hr => ?_) (fun r e he => ?_)
      · refine (gets_far hd hh.2 h3).map (fun r r' hr => ?_) (fun r e he => ?_)
        · unfold Inf.back; rw [hr]; simp only; rw [if_neg (by omega), if_neg (by omega)]; rfl
        · unfold Inf.back; rw [he]
      · rw [hr]
      · rw [he]
    · unfold one; rw [hr]; simp only; rw [if_neg (by omega), if_neg (by omega)]
    · unfold one; rw [he]
/-- What goes out above the cap. -/
theorem caps_tok {zs ds : List Int} {most : Nat} {out : List UInt8} (hz : Coded zs) (hd : Coded ds) (t : Tok) (ho : t.ok out) (hh : t.has zs ds) (hm : most < (t.eff out).length) (hle : out.length ≤ most) (r : List Bool) : one zs ds most out (t.words zs ds ++ r) = .error 22 := by
  cases t with
  | lit b =>
    have hb : b < 256 := ho
    have hm' : most < (out ++ [UInt8.ofNat b]).length := hm
    rw [List.length_append, List.length_singleton] at hm'
    have := (gets_symb hz.good hz.kr b hh).go r
    unfold one; rw [Tok.words, this]; simp only; rw [if_pos hb, if_pos (by omega)]
  | cpy n d a b =>
    obtain ⟨h1, h2, h3⟩ := ho
    have hs := h2.s_gt
    have hm' : most < (Inf.copy out d n).length := hm
    rw [Inf.copy_length] at hm'
    have e1 := (gets_symb hz.good hz.kr a.s hh.1).go (num a.x a.m ++ ((cod ds b.s ++ num b.x b.m) ++ r))
    have e2 := (gets_long h2).go ((cod ds b.s ++ num b.x b.m) ++ r)
    have e3 := (gets_far hd hh.2 h3).go r
    unfold one
    rw [Tok.words, List.append_assoc, List.append_assoc, e1]
    simp only
    rw [if_neg (by omega), if_neg (by omega), e2]
    simp only
    unfold Inf.back
    rw [e3]
    simp only
    rw [if_neg (by omega), if_pos (by omega)]
theorem gets_end {zs ds : List Int} {most : Nat} {out : List UInt8} (hz : Coded zs) (hs : 0 < zs.getD 256 0) : Gets (one zs ds most out) (cod zs 256) (out, true) := by
  refine (gets_symb hz.good hz.kr 256 hs).map (fun r r' hr => ?_) (fun r e he => ?_)
  · unfold one; rw [hr]; rfl
  · unfold one; rw [he]
/-- What goes out of a row. -/
def effs : List Tok → List UInt8 → List UInt8
  | [], out => out
  | t :: ts, out => effs ts (t.eff out)
def oks : List Tok → List UInt8 → Prop
  | [], _ => True
  | t :: ts, out => t.ok out ∧ oks ts (t.eff out)
def body (zs ds : List Int) : List Tok → List Bool
  | [] => cod zs 256
  | t :: ts => t.words zs ds ++ body zs ds ts
theorem effs_le : ∀ (ts : List Tok) (out : List UInt8), out.length ≤ (effs ts out).length
  | [], _ => Nat.le_refl _
  | t :: ts, out => Nat.le_trans (eff_le t out) (effs_le ts _)
theorem effs_append : ∀ (a b : List Tok) (out : List UInt8), effs (a ++ b) out = effs b (effs a out)
  | [], _, _ => rfl
  | t :: a, b, out => effs_append a b (t.eff out)
theorem oks_append : ∀ (a b : List Tok) (out : List UInt8), oks (a ++ b) out ↔ oks a out ∧ oks b (effs a out)
  | [], _, _ => by simp [oks, effs]
  | t :: a, b, out => by simp only [List.cons_append, oks, effs, oks_append a b, and_assoc]
/-- The words of a row: its bits in pieces. -/
theorem words_pos {zs ds : List Int} (t : Tok) (h : t.has zs ds) : 0 < (t.words zs ds).length := by
  cases t with
  | lit b => have h' : 0 < zs.getD b 0 := h; rw [Tok.words, cod_length]; omega
  | cpy n d a b => have h' : 0 < zs.getD a.s 0 := h.1; rw [Tok.words, List.length_append, cod_length]; omega
theorem body_go {zs ds : List Int} {most : Nat} (hz : Coded zs) (hd : Coded ds) (hs : 0 < zs.getD 256 0) : ∀ (ts : List Tok) (out : List UInt8) (f : Nat) (r : List Bool), oks ts out → (∀ t ∈ ts, t.has zs ds) → (effs ts out).length ≤ most → (body zs ds ts ++ r).length < f → Inf.body zs ds most f out (body zs ds ts ++ r) = .ok (effs ts out, r)
  | ts, out, 0, r, _, _, _, h => by omega
  | [], out, f + 1, r, ho, hh, hm, hf => by
    rw [body_one, body, (gets_end hz hs).go]; rfl
  | t :: ts, out, f + 1, r, ho, hh, hm, hf => by
    have h1 := hh t (List.mem_cons_self ..)
    have h2 := words_pos t h1
    rw [body, List.append_assoc, List.length_append] at hf
    rw [body_one, body, List.append_assoc, (gets_tok hz hd t ho.1 h1 (Nat.le_trans (effs_le ts _) hm)).go]
    exact body_go hz hd hs ts _ f r ho.2 (fun t ht => hh t (List.mem_cons_of_mem _ ht)) hm (by omega)
theorem body_few {zs ds : List Int} {most : Nat} (hz : Coded zs) (hd : Coded ds) (hs : 0 < zs.getD 256 0) : ∀ (ts : List Tok) (out : List UInt8) (f : Nat) (P t : List Bool), oks ts out → (∀ t ∈ ts, t.has zs ds) → (effs ts out).length ≤ most → body zs ds ts = P ++ t → t ≠ [] → P.length < f → Inf.body zs ds most f out P = .error 4
  | ts, out, 0, P, t, _, _, _, _, _, h => by omega
  | [], out, f + 1, P, t, ho, hh, hm, he, ht, hf => by
    rw [body_one, (gets_end (ds := ds) (most := most) (out := out) hz hs).few P t he ht]
  | a :: ts, out, f + 1, P, t, ho, hh, hm, he, ht, hf => by
    have h1 := hh a (List.mem_cons_self ..)
    have h2 := words_pos a h1
    have hg := gets_tok (most := most) hz hd a ho.1 h1 (Nat.le_trans (effs_le ts _) hm)
    rw [body_one]
    rcases List.append_eq_append_iff.1 he with ⟨b, h3, h4⟩ | ⟨b, h3, h4⟩
    · rw [h3, hg.go]
      rw [h3, List.length_append] at hf
      exact body_few hz hd hs ts _ f b t ho.2 (fun t ht => hh t (List.mem_cons_of_mem _ ht)) hm h4 ht (by omega)
    · rcases List.eq_nil_or_concat b with hb | hb
      · subst hb
        rw [List.append_nil] at h3
        rw [List.nil_append] at h4
        have := hg.go []
        rw [List.append_nil, h3] at this
        rw [this]
        rw [h3] at h2
        exact body_few hz hd hs ts _ f [] t ho.2 (fun t ht => hh t (List.mem_cons_of_mem _ ht)) hm h4.symm ht (by simp; omega)
      · rw [hg.few P b h3 (by obtain ⟨c, d, rfl⟩ := hb; simp)]
theorem body_cap {zs ds : List Int} {most : Nat} (hz : Coded zs) (hd : Coded ds) : ∀ (ts : List Tok) (out : List UInt8) (f : Nat) (r : List Bool), oks ts out → (∀ t ∈ ts, t.has zs ds) → most < (effs ts out).length → out.length ≤ most → (body zs ds ts ++ r).length < f → Inf.body zs ds most f out (body zs ds ts ++ r) = .error 22
  | ts, out, 0, r, _, _, _, _, h => by omega
  | [], out, f + 1, r, ho, hh, hm, hle, hf => by rw [effs] at hm; omega
  | t :: ts, out, f + 1, r, ho, hh, hm, hle, hf => by
    have h1 := hh t (List.mem_cons_self ..)
    have h2 := words_pos t h1
    rw [body, List.append_assoc, List.length_append] at hf
    rw [body_one, body, List.append_assoc]
    by_cases hc : (t.eff out).length ≤ most
    · rw [(gets_tok hz hd t ho.1 h1 hc).go]
      exact body_cap hz hd ts _ f r ho.2 (fun t ht => hh t (List.mem_cons_of_mem _ ht)) hm hc (by omega)
    · rw [caps_tok hz hd t ho.1 h1 (by omega) hle]
end Go.Proofs.YtphdcgioeokfbaaDoor
