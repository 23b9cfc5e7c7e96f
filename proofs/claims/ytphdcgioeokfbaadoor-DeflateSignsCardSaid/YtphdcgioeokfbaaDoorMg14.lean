/-
  Merged, in the order in which they build: Hds.
-/
import Derived.Test.YtphdcgioeokfbaaDoorMg7
import Derived.Test.YtphdcgioeokfbaaDoorMg13
/-
  The head of a block with books of its own: how it is written, and read back.
-/
namespace Go.Proofs.YtphdcgioeokfbaaDoor
open Hf

/-- Which length, how often. -/
def runV (ahead : List Int) (g : Sg) : Int × Nat := if g.s = 16 then (ahead.getD (ahead.length - 1) 0, 3 + g.x) else if g.s = 17 then (0, 3 + g.x) else if g.s = 18 then (0, 11 + g.x) else ((g.s : Int), 1)
structure okG (ahead : List Int) (g : Sg) : Prop where
  s : g.s ≤ 18
  x : g.x < 2 ^ g.m
  m : g.m = if g.s = 16 then 2 else if g.s = 17 then 3 else if g.s = 18 then 7 else 0
  a : g.s = 16 → ahead ≠ []
def dec1 (ahead : List Int) (g : Sg) : List Int := ahead ++ List.replicate (runV ahead g).2 (runV ahead g).1
def dec : List Sg → List Int → List Int
  | [], a => a
  | g :: gs, a => dec gs (dec1 a g)
def okGs : List Sg → List Int → Prop
  | [], _ => True
  | g :: gs, a => okG a g ∧ okGs gs (dec1 a g)
def runs (zs : List Int) : List Sg → List Bool
  | [] => []
  | g :: gs => cod zs g.s ++ num g.x g.m ++ runs zs gs
theorem dec_append : ∀ (a b : List Sg) (l : List Int), dec (a ++ b) l = dec b (dec a l)
  | [], _, _ => rfl
  | _ :: a, b, _ => dec_append a b _
theorem okGs_append : ∀ (a b : List Sg) (l : List Int), okGs (a ++ b) l ↔ okGs a l ∧ okGs b (dec a l)
  | [], _, _ => by simp [okGs, dec]
  | g :: a, b, _ => by simp only [List.cons_append, okGs, dec, okGs_append a b, and_assoc]
theorem runs_append (zs : List Int) : ∀ (a b : List Sg), runs zs (a ++ b) = runs zs a ++ runs zs b
  | [], _ => rfl
  | g :: a, b => by rw [List.cons_append, runs, runs, runs_append zs a b]; simp only [List.append_assoc]
theorem runV_pos (ahead : List Int) (g : Sg) : 1 ≤ (runV ahead g).2 := by
  unfold runV; split
  · simp only; omega
  split
  · simp only; omega
  split
  · simp only; omega
  · exact Nat.le_refl _
theorem dec1_length (ahead : List Int) (g : Sg) : (dec1 ahead g).length = ahead.length + (runV ahead g).2 := by simp [dec1]
theorem dec_le : ∀ (gs : List Sg) (a : List Int), a.length + gs.length ≤ (dec gs a).length
  | [], a => Nat.le_refl _
  | g :: gs, a => by
    have := dec_le gs (dec1 a g)
    have h1 := runV_pos a g
    rw [dec1_length] at this
    rw [dec, List.length_cons]; omega
theorem gets_run {zs ahead : List Int} {g : Sg} (hz : Coded zs) (hs : 0 < zs.getD g.s 0) (h : okG ahead g) : Gets (Inf.run zs ahead) (cod zs g.s ++ num g.x g.m) (runV ahead g) := by
  have hm := h.m
  have hx := h.x
  by_cases h16 : g.s = 16
  · rw [if_pos h16] at hm
    rw [hm] at hx ⊢
    have ha := h.a h16
    have hl : ahead.length ≠ 0 := fun e => ha (List.eq_nil_of_length_eq_zero e)
    refine (gets_symb hz.good hz.kr g.s hs).bnd (g := fun r => (match Inf.numb 2 r with | .ok (x, r) => .ok ((ahead.getD (ahead.length - 1) 0, 3 + x), r) | .error e => .error e : Inf.Res (Int × Nat))) ?_ (fun r r' hr => ?_) (fun r e he => ?_)
    · refine (gets_numb g.x 2 hx).map (fun r r' hr => ?_) (fun r e he => ?_)
      · rw [hr]; unfold runV; rw [if_pos h16]
      · rw [he]
    · unfold Inf.run; rw [hr]; simp only; rw [if_pos h16]
      cases Inf.numb 2 r' with
      | error e => rfl
      | ok p => simp only; rw [if_neg hl]
    · unfold Inf.run; rw [he]
  · rw [if_neg h16] at hm
    by_cases h17 : g.s = 17
    · rw [if_pos h17] at hm
      rw [hm] at hx ⊢
      refine (gets_symb hz.good hz.kr g.s hs).bnd (g := fun r => (match Inf.numb 3 r with | .ok (x, r) => .ok ((0, 3 + x), r) | .error e => .error e : Inf.Res (Int × Nat))) ?_ (fun r r' hr => ?_) (fun r e he => ?_)
      · refine (gets_numb g.x 3 hx).map (fun r r' hr => ?_) (fun r e he => ?_)
        · rw [hr]; unfold runV; rw [if_neg h16, if_pos h17]
        · rw [he]
      · unfold Inf.run; rw [hr]; simp only; rw [if_neg h16, if_pos h17]
        cases Inf.numb 3 r' with
        | error e => rfl
        | ok p => rfl
      · unfold Inf.run; rw [he]
    · rw [if_neg h17] at hm
      by_cases h18 : g.s = 18
      · rw [if_pos h18] at hm
        rw [hm] at hx ⊢
        refine (gets_symb hz.good hz.kr g.s hs).bnd (g := fun r => (match Inf.numb 7 r with | .ok (x, r) => .ok ((0, 11 + x), r) | .error e => .error e : Inf.Res (Int × Nat))) ?_ (fun r r' hr => ?_) (fun r e he => ?_)
        · refine (gets_numb g.x 7 hx).map (fun r r' hr => ?_) (fun r e he => ?_)
          · rw [hr]; unfold runV; rw [if_neg h16, if_neg h17, if_pos h18]
          · rw [he]
        · unfold Inf.run; rw [hr]; simp only; rw [if_neg h16, if_neg h17, if_pos h18]
          cases Inf.numb 7 r' with
          | error e => rfl
          | ok p => rfl
        · unfold Inf.run; rw [he]
      · rw [if_neg h18] at hm
        rw [hm, num_zero, List.append_nil]
        refine (gets_symb hz.good hz.kr g.s hs).map (fun r r' hr => ?_) (fun r e he => ?_)
        · unfold Inf.run runV; rw [hr]; simp only; rw [if_neg h16, if_neg h17, if_neg h18, if_neg h16, if_neg h17, if_neg h18]
        · unfold Inf.run; rw [he]
theorem lens_go {zs : List Int} (hz : Coded zs) (many : Nat) : ∀ (gs : List Sg) (a : List Int) (f : Nat) (r : List Bool), okGs gs a → (∀ g ∈ gs, 0 < zs.getD g.s 0) → (dec gs a).length = many → many - a.length < f → Inf.lens zs many f a (runs zs gs ++ r) = .ok (dec gs a, r)
  | gs, a, 0, r, _, _, _, h => by omega
  | [], a, f + 1, r, ho, hh, hm, hf => by
    rw [dec] at hm ⊢
    rw [runs, Inf.lens, if_neg (by omega), if_neg (by omega)]; rfl
  | g :: gs, a, f + 1, r, ho, hh, hm, hf => by
    have h1 := dec_le (g :: gs) a
    rw [hm, List.length_cons] at h1
    have h2 := runV_pos a g
    have hg := gets_run hz (hh g (List.mem_cons_self ..)) ho.1
    have h4 := ho.2
    obtain ⟨⟨z, t⟩, hq⟩ : ∃ q, q = runV a g := ⟨_, rfl⟩
    have hd : dec1 a g = a ++ List.replicate t z := by unfold dec1; rw [← hq]
    rw [← hq] at hg h2
    rw [hd] at h4
    rw [dec, hd] at hm ⊢
    rw [runs, Inf.lens, if_pos (by omega), List.append_assoc, hg.go]
    exact lens_go hz many gs _ f r h4 (fun g hg => hh g (List.mem_cons_of_mem _ hg)) hm (by rw [List.length_append, List.length_replicate]; simp only at h2; omega)
theorem lens_few {zs : List Int} (hz : Coded zs) (many : Nat) : ∀ (gs : List Sg) (a : List Int) (f : Nat) (P t : List Bool), okGs gs a → (∀ g ∈ gs, 0 < zs.getD g.s 0) → (dec gs a).length = many → many - a.length < f → runs zs gs = P ++ t → t ≠ [] → Inf.lens zs many f a P = .error 4
  | gs, a, 0, P, t, _, _, _, h, _, _ => by omega
  | [], a, f + 1, P, t, ho, hh, hm, hf, he, ht => absurd (List.append_eq_nil_iff.1 he.symm).2 ht
  | g :: gs, a, f + 1, P, t, ho, hh, hm, hf, he, ht => by
    have h1 := dec_le (g :: gs) a
    rw [hm, List.length_cons] at h1
    have h2 := runV_pos a g
    have hg := gets_run hz (hh g (List.mem_cons_self ..)) ho.1
    have h4 := ho.2
    obtain ⟨⟨z, u⟩, hq⟩ : ∃ q, q = runV a g := ⟨_, rfl⟩
    have hd : dec1 a g = a ++ List.replicate u z := by unfold dec1; rw [← hq]
    rw [← hq] at hg h2
    rw [hd] at h4
    rw [dec, hd] at hm
    simp only at h2
    rw [Inf.lens, if_pos (by omega)]
    rcases List.append_eq_append_iff.1 he with ⟨b, h3, h5⟩ | ⟨b, h3, h5⟩
    · rw [h3, hg.go]
      exact lens_few hz many gs _ f b t h4 (fun g hg => hh g (List.mem_cons_of_mem _ hg)) hm (by rw [List.length_append, List.length_replicate]; omega) h5 ht
    · rcases List.eq_nil_or_concat b with hb | hb
      · subst hb
        rw [List.append_nil] at h3
        rw [List.nil_append] at h5
        have := hg.go []
        rw [List.append_nil, h3] at this
        rw [this]
        exact lens_few hz many gs _ f [] t h4 (fun g hg => hh g (List.mem_cons_of_mem _ hg)) hm (by rw [List.length_append, List.length_replicate]; omega) h5.symm ht
      · rw [hg.few P b h3 (by obtain ⟨c, d, rfl⟩ := hb; simp)]
theorem gets_lens {zs : List Int} (hz : Coded zs) (many : Nat) (gs : List Sg) (ho : okGs gs []) (hh : ∀ g ∈ gs, 0 < zs.getD g.s 0) (hm : (dec gs []).length = many) : Gets (Inf.lens zs many (many + 1) []) (runs zs gs) (dec gs []) :=
  ⟨fun r => lens_go hz many gs [] _ r ho hh hm (by simp), fun P t he ht => lens_few hz many gs [] _ P t ho hh hm (by simp) he ht⟩
/-- The lengths of the signs' own codes, in their order, from a place on. -/
def telS (v : Nat → Nat) : Nat → Nat → List Int → List Int
  | 0, _, l => l
  | n + 1, k, l => telS v n (k + 1) (l.set (Inf.order.getD k 0) (v k : Int))
def telBits (v : Nat → Nat) : Nat → Nat → List Bool
  | 0, _ => []
  | n + 1, k => num (v k) 3 ++ telBits v n (k + 1)
theorem gets_teller (v : Nat → Nat) (hv : ∀ k, v k < 8) : ∀ (n k : Nat) (l : List Int), Gets (Inf.teller n l k) (telBits v n k) (telS v n k l)
  | 0, k, l => gets_nil (fun r => rfl)
  | n + 1, k, l => by
    refine (gets_numb (v k) 3 (hv k)).bnd (g := Inf.teller n (l.set (Inf.order.getD k 0) (v k : Int)) (k + 1)) (gets_teller v hv n (k + 1) _) (fun r r' hr => ?_) (fun r e he => ?_)
    · rw [Inf.teller, hr]
    · rw [Inf.teller, he]
theorem telS_length (v : Nat → Nat) : ∀ (n k : Nat) (l : List Int), (telS v n k l).length = l.length
  | 0, k, l => rfl
  | n + 1, k, l => by rw [telS, telS_length v n]; simp
def place (i : Nat) : Nat := [3, 17, 15, 13, 11, 9, 7, 5, 4, 6, 8, 10, 12, 14, 16, 18, 0, 1, 2].getD i 0
theorem place_lt : ∀ i, i < 19 → place i < 19 ∧ Inf.order.getD (place i) 0 = i := by decide
theorem order_place : ∀ k, k < 19 → Inf.order.getD k 0 < 19 ∧ place (Inf.order.getD k 0) = k := by decide
theorem telS_getD (v : Nat → Nat) : ∀ (n k : Nat) (l : List Int), l.length = 19 → n + k ≤ 19 → ∀ i, i < 19 → (telS v n k l).getD i 0 = if k ≤ place i ∧ place i < k + n then (v (place i) : Int) else l.getD i 0
  | 0, k, l, hl, hn, i, hi => by rw [if_neg (by omega)]; rfl
  | n + 1, k, l, hl, hn, i, hi => by
    rw [telS, telS_getD v n (k + 1) _ (by simpa using hl) (by omega) i hi]
    have ho := order_place k (by omega)
    have hp := place_lt i hi
    have hs : (l.set (Inf.order.getD k 0) (v k : Int)).getD i 0 = if i = Inf.order.getD k 0 then (v k : Int) else l.getD i 0 := getD_set _ _ _ _ (by omega)
    rw [hs]
    by_cases e : i = Inf.order.getD k 0
    · have : place i = k := by rw [e]; exact ho.2
      rw [if_neg (by omega), if_pos e, if_pos (by omega), this]
    · have : place i ≠ k := fun h => e (by rw [← h]; exact hp.2.symm)
      rw [if_neg e]
      by_cases h : k + 1 ≤ place i ∧ place i < k + 1 + n
      · rw [if_pos h, if_pos (by omega)]
      · rw [if_neg h, if_neg (by omega)]
/-- The first c lengths in their order tell all of them, if the others are 0. -/
theorem telS_all (zs : List Int) (c : Nat) (hl : zs.length = 19) (hc : c ≤ 19) (h0 : ∀ i, 0 ≤ zs.getD i 0) (hz : ∀ k, c ≤ k → k < 19 → zs.getD (Inf.order.getD k 0) 0 = 0) : telS (fun k => (zs.getD (Inf.order.getD k 0) 0).toNat) c 0 (List.replicate 19 0) = zs := by
  apply List.ext_getElem
  · rw [telS_length, hl]; rfl
  · intro i h1 h2
    have hi : i < 19 := by omega
    have h := telS_getD (fun k => (zs.getD (Inf.order.getD k 0) 0).toNat) c 0 (List.replicate 19 0) rfl (by omega) i hi
    have e1 : ∀ (l : List Int) (h : i < l.length), l[i] = l.getD i 0 := fun l h => by simp [h]
    rw [e1 _ h1, e1 _ h2, h]
    have hp := place_lt i hi
    by_cases hc : place i < c
    · rw [if_pos (by omega), hp.2]
      have := h0 i
      omega
    · rw [if_neg (by omega)]
      have := hz (place i) (by omega) hp.1
      rw [hp.2] at this
      rw [this]
      simp only [List.getD_eq_getElem?_getD, List.getElem?_replicate]; split <;> rfl
theorem book_ok {zs : List Int} (h : may zs = 0) : Inf.book zs = .ok () := by unfold Inf.book; rw [if_pos h]
/-- What the head of a dynamic block needs. -/
structure HeadOk (a b first : List Int) (c : Nat) (gs : List Sg) : Prop where
  fl : first.length = 19
  f7 : ∀ i, 0 ≤ first.getD i 0 ∧ first.getD i 0 < 8
  c4 : 4 ≤ c
  c19 : c ≤ 19
  cz : ∀ k, c ≤ k → k < 19 → first.getD (Inf.order.getD k 0) 0 = 0
  fm : may first = 0
  fk : kr first ≤ 32768
  ok : okGs gs []
  has : ∀ g ∈ gs, 0 < first.getD g.s 0
  dec : dec gs [] = a ++ b
  al : 257 ≤ a.length ∧ a.length ≤ 286
  bl : 1 ≤ b.length ∧ b.length ≤ 30
  ae : a.getD 256 0 ≠ 0
  am : may a = 0
  bm : may b = 0
def headBits (a b first : List Int) (c : Nat) (gs : List Sg) : List Bool :=
  num (a.length - 257) 5 ++ (num (b.length - 1) 5 ++ (num (c - 4) 4 ++ (telBits (fun k => (first.getD (Inf.order.getD k 0) 0).toNat) c 0 ++ runs first gs)))
theorem gets_heads {a b first : List Int} {c : Nat} {gs : List Sg} (h : HeadOk a b first c gs) : Gets Inf.heads (headBits a b first c gs) (a, b) := by
  have hal := h.al
  have hbl := h.bl
  have hc4 := h.c4
  have hc19 := h.c19
  have hco : Coded first := ⟨may_good h.fm, h.fk⟩
  have e1 : 257 + (a.length - 257) = a.length := by omega
  have e2 : 1 + (b.length - 1) = b.length := by omega
  have e3 : 4 + (c - 4) = c := by omega
  have g5 : Gets (lenB a.length b.length first) (runs first gs) (a, b) := by
    refine (gets_lens hco (a.length + b.length) gs h.ok h.has (by rw [h.dec, List.length_append])).map (fun r r' hr => ?_) (fun r e he => ?_)
    · unfold lenB; rw [hr]
      simp only
      unfold finB
      rw [h.dec, List.take_left, List.drop_left, book_ok h.am, book_ok h.bm]
      have : (a ++ b).getD 256 0 = a.getD 256 0 := by
        simp only [List.getD_eq_getElem?_getD]
        rw [List.getElem?_append_left (by omega)]
      rw [if_neg (by rw [this]; exact h.ae)]
    · unfold lenB; rw [he]
  have g4 : Gets (telB a.length b.length c) (telBits (fun k => (first.getD (Inf.order.getD k 0) 0).toNat) c 0 ++ runs first gs) (a, b) := by
    refine (gets_teller _ (fun k => by have := h.f7 (Inf.order.getD k 0); omega) c 0 (List.replicate 19 0)).bnd g5 (fun r r' hr => ?_) (fun r e he => ?_)
    · rw [telS_all first c h.fl h.c19 (fun i => (h.f7 i).1) h.cz] at hr
      unfold telB tellR
      rw [hr]
      simp only [telFin]
      rw [book_ok h.fm]
    · unfold telB tellR
      rw [he]; rfl
  have g3 : Gets (fun r => match Inf.numb 4 r with | .ok (c, r) => headB (a.length - 257) (b.length - 1) c r | .error e => .error e) (num (c - 4) 4 ++ (telBits (fun k => (first.getD (Inf.order.getD k 0) 0).toNat) c 0 ++ runs first gs)) (a, b) := by
    refine (gets_numb (c - 4) 4 (by omega)).bnd g4 (fun r r' hr => ?_) (fun r e he => ?_)
    · rw [hr]; simp only; unfold headB; rw [if_neg (by omega), e1, e2, e3]
    · rw [he]
  have g2 : Gets (fun r => match Inf.numb 5 r with
    | .ok (d, r) => (match Inf.numb 4 r with | .ok (c, r) => headB (a.length - 257) d c r | .error e => .error e)
    | .error e => .error e) (num (b.length - 1) 5 ++ (num (c - 4) 4 ++ (telBits (fun k => (first.getD (Inf.order.getD k 0) 0).toNat) c 0 ++ runs first gs))) (a, b) := by
    refine (gets_numb (b.length - 1) 5 (by omega)).bnd g3 (fun r r' hr => ?_) (fun r e he => ?_)
    · rw [hr]
    · rw [he]
  refine (gets_numb (a.length - 257) 5 (by omega)).bnd g2 (fun r r' hr => ?_) (fun r e he => ?_)
  · rw [heads_eq, hr]
    simp only
    cases Inf.numb 5 r' with
    | error e => rfl
    | ok p =>
      simp only
      cases Inf.numb 4 p.2 with
      | error e => rfl
      | ok p => rfl
  · rw [heads_eq, he]
end Go.Proofs.YtphdcgioeokfbaaDoor
