/-
  Merged, in the order in which they build: Hds Strm Pen.
-/
import Derived.Test.YtefeilgbofphjaaDoorMg16
/-
  The head of a block with books of its own: how it is written, and read back.
-/
namespace Go.Proofs.YtefeilgbofphjaaDoor
open Hf

/-- Which length, how often. -/
def runV (ahead : List Int) (g : Sg) : Int × Nat := if g.s = 16 then (ahead.getD (ahead.length - 1) 0, 3 + g.x) else if g.s = 17 then (0, 3 + g.x) else if g.s = 18 then (0, 11 + g.x) else ((g.s : Int), 1)
structure okG (ahead : List Int) (g : Sg) : Prop where
  s : g.s ≤ 18
  x : g.x < 2 ^ g.m
  m : g.m = if g.s = 16 then 2 else if g.s = 17 then 3 else if g.s = 18 then 7 else 0
  a : g.s = 16 → ahead ≠ []
def dec1 (ahead : List Int) (g : Sg) : List Int := ahead ++ List.replicate (runV ahead g).2 (runV ahead g).1
def dec : List Sg → List Int → List Int
  | [], a => a
  | g :: gs, a => dec gs (dec1 a g)
def okGs : List Sg → List Int → Prop
  | [], _ => True
  | g :: gs, a => okG a g ∧ okGs gs (dec1 a g)
def runs (zs : List Int) : List Sg → List Bool
  | [] => []
  | g :: gs => cod zs g.s ++ num g.x g.m ++ runs zs gs
theorem dec_append : ∀ (a b : List Sg) (l : List Int), dec (a ++ b) l = dec b (dec a l)
  | [], _, _ => rfl
  | _ :: a, b, _ => dec_append a b _
theorem okGs_append : ∀ (a b : List Sg) (l : List Int), okGs (a ++ b) l ↔ okGs a l ∧ okGs b (dec a l)
  | [], _, _ => by simp [okGs, dec]
  | g :: a, b, _ => by simp only [List.cons_append, okGs, dec, okGs_append a b, and_assoc]
theorem runs_append (zs : List Int) : ∀ (a b : List Sg), runs zs (a ++ b) = runs zs a ++ runs zs b
  | [], _ => rfl
  | g :: a, b => by rw [List.cons_append, runs, runs, runs_append zs a b]; simp only [List.append_assoc]
theorem runV_pos (ahead : List Int) (g : Sg) : 1 ≤ (runV ahead g).2 := by
  unfold runV; split
  · simp only; omega
  split
  · simp only; omega
  split
  · simp only; omega
  · exact Nat.le_refl _
theorem dec1_length (ahead : List Int) (g : Sg) : (dec1 ahead g).length = ahead.length + (runV ahead g).2 := by simp [dec1]
theorem dec_le : ∀ (gs : List Sg) (a : List Int), a.length + gs.length ≤ (dec gs a).length
  | [], a => Nat.le_refl _
  | g :: gs, a => by
    have := dec_le gs (dec1 a g)
    have h1 := runV_pos a g
    rw [dec1_length] at this
    rw [dec, List.length_cons]; omega
theorem gets_run {zs ahead : List Int} {g : Sg} (hz : Coded zs) (hs : 0 < zs.getD g.s 0) (h : okG ahead g) : Gets (Inf.run zs ahead) (cod zs g.s ++ num g.x g.m) (runV ahead g) := by
  have hm := h.m
  have hx := h.x
  by_cases h16 : g.s = 16
  · rw [if_pos h16] at hm
    rw [hm] at hx ⊢
    have ha := h.a h16
    have hl : ahead.length ≠ 0 := fun e => ha (List.eq_nil_of_length_eq_zero e)
    refine (gets_symb hz.good hz.kr g.s hs).bnd (g := fun r => (match Inf.numb 2 r with | .ok (x, r) => .ok ((ahead.getD (ahead.length - 1) 0, 3 + x), r) | .error e => .error e : Inf.Res (Int × Nat))) ?_ (fun r r' hr => ?_) (fun r e he => ?_)
    · refine (gets_numb g.x 2 hx).map (fun r r' hr => ?_) (fun r e he => ?_)
      · rw [hr]; unfold runV; rw [if_pos h16]
      · rw [he]
    · unfold Inf.run; rw [hr]; simp only; rw [if_pos h16]
      cases Inf.numb 2 r' with
      | error e => rfl
      | ok p => simp only; rw [if_neg hl]
    · unfold Inf.run; rw [he]
  · rw [if_neg h16] at hm
    by_cases h17 : g.s = 17
    · rw [if_pos h17] at hm
      rw [hm] at hx ⊢
      refine (gets_symb hz.good hz.kr g.s hs).bnd (g := fun r => (match Inf.numb 3 r with | .ok (x, r) => .ok ((0, 3 + x), r) | .error e => .error e : Inf.Res (Int × Nat))) ?_ (fun r r' hr => ?_) (fun r e he => ?_)
      · refine (gets_numb g.x 3 hx).map (fun r r' hr => ?_) (fun r e he => ?_)
        · rw [hr]; unfold runV; rw [if_neg h16, if_pos h17]
        · rw [he]
      · unfold Inf.run; rw [hr]; simp only; rw [if_neg h16, if_pos h17]
        cases Inf.numb 3 r' with
        | error e => rfl
        | ok p => rfl
      · unfold Inf.run; rw [he]
    · rw [if_neg h17] at hm
      by_cases h18 : g.s = 18
      · rw [if_pos h18] at hm
        rw [hm] at hx ⊢
        refine (gets_symb hz.good hz.kr g.s hs).bnd (g := fun r => (match Inf.numb 7 r with | .ok (x, r) => .ok ((0, 11 + x), r) | .error e => .error e : Inf.Res (Int × Nat))) ?_ (fun r r' hr => ?_) (fun r e he => ?_)
        · refine (gets_numb g.x 7 hx).map (fun r r' hr => ?_) (fun r e he => ?_)
          · rw [hr]; unfold runV; rw [if_neg h16, if_neg h17, if_pos h18]
          · rw [he]
        · unfold Inf.run; rw [hr]; simp only; rw [if_neg h16, if_neg h17, if_pos h18]
          cases Inf.numb 7 r' with
          | error e => rfl
          | ok p => rfl
        · unfold Inf.run; rw [he]
      · rw [if_neg h18] at hm
        rw [hm, num_zero, List.append_nil]
        refine (gets_symb hz.good hz.kr g.s hs).map (fun r r' hr => ?_) (fun r e he => ?_)
        · unfold Inf.run runV; rw [hr]; simp only; rw [if_neg h16, if_neg h17, if_neg h18, if_neg h16, if_neg h17, if_neg h18]
        · unfold Inf.run; rw [he]
theorem lens_go {zs : List Int} (hz : Coded zs) (many : Nat) : ∀ (gs : List Sg) (a : List Int) (f : Nat) (r : List Bool), okGs gs a → (∀ g ∈ gs, 0 < zs.getD g.s 0) → (dec gs a).length = many → many - a.length < f → Inf.lens zs many f a (runs zs gs ++ r) = .ok (dec gs a, r)
  | gs, a, 0, r, _, _, _, h => by omega
  | [], a, f + 1, r, ho, hh, hm, hf => by
    rw [dec] at hm ⊢
    rw [runs, Inf.lens, if_neg (by omega), if_neg (by omega)]; rfl
  | g :: gs, a, f + 1, r, ho, hh, hm, hf => by
    have h1 := dec_le (g :: gs) a
    rw [hm, List.length_cons] at h1
    have h2 := runV_pos a g
    have hg := gets_run hz (hh g (List.mem_cons_self ..)) ho.1
    have h4 := ho.2
    obtain ⟨⟨z, t⟩, hq⟩ : ∃ q, q = runV a g := ⟨_, rfl⟩
    have hd : dec1 a g = a ++ List.replicate t z := by unfold dec1; rw [← hq]
    rw [← hq] at hg h2
    rw [hd] at h4
    rw [dec, hd] at hm ⊢
    rw [runs, Inf.lens, if_pos (by omega), List.append_assoc, hg.go]
    exact lens_go hz many gs _ f r h4 (fun g hg => hh g (List.mem_cons_of_mem _ hg)) hm (by rw [List.length_append, List.length_replicate]; simp only at h2; omega)
theorem lens_few {zs : List Int} (hz : Coded zs) (many : Nat) : ∀ (gs : List Sg) (a : List Int) (f : Nat) (P t : List Bool), okGs gs a → (∀ g ∈ gs, 0 < zs.getD g.s 0) → (dec gs a).length = many → many - a.length < f → runs zs gs = P ++ t → t ≠ [] → Inf.lens zs many f a P = .error 4
  | gs, a, 0, P, t, _, _, _, h, _, _ => by omega
  | [], a, f + 1, P, t, ho, hh, hm, hf, he, ht => absurd (List.append_eq_nil_iff.1 he.symm).2 ht
  | g :: gs, a, f + 1, P, t, ho, hh, hm, hf, he, ht => by
    have h1 := dec_le (g :: gs) a
    rw [hm, List.length_cons] at h1
    have h2 := runV_pos a g
    have hg := gets_run hz (hh g (List.mem_cons_self ..)) ho.1
    have h4 := ho.2
    obtain ⟨⟨z, u⟩, hq⟩ : ∃ q, q = runV a g := ⟨_, rfl⟩
    have hd : dec1 a g = a ++ List.replicate u z := by unfold dec1; rw [← hq]
    rw [← hq] at hg h2
    rw [hd] at h4
    rw [dec, hd] at hm
    simp only at h2
    rw [Inf.lens, if_pos (by omega)]
    rcases List.append_eq_append_iff.1 he with ⟨b, h3, h5⟩ | ⟨b, h3, h5⟩
    · rw [h3, hg.go]
      exact lens_few hz many gs _ f b t h4 (fun g hg => hh g (List.mem_cons_of_mem _ hg)) hm (by rw [List.length_append, List.length_replicate]; omega) h5 ht
    · rcases List.eq_nil_or_concat b with hb | hb
      · subst hb
        rw [List.append_nil] at h3
        rw [List.nil_append] at h5
        have := hg.go []
        rw [List.append_nil, h3] at this
        rw [this]
        exact lens_few hz many gs _ f [] t h4 (fun g hg => hh g (List.mem_cons_of_mem _ hg)) hm (by rw [List.length_append, List.length_replicate]; omega) h5.symm ht
      · rw [hg.few P b h3 (by obtain ⟨c, d, rfl⟩ := hb; simp)]
theorem gets_lens {zs : List Int} (hz : Coded zs) (many : Nat) (gs : List Sg) (ho : okGs gs []) (hh : ∀ g ∈ gs, 0 < zs.getD g.s 0) (hm : (dec gs []).length = many) : Gets (Inf.lens zs many (many + 1) []) (runs zs gs) (dec gs []) :=
  ⟨fun r => lens_go hz many gs [] _ r ho hh hm (by simp), fun P t he ht => lens_few hz many gs [] _ P t ho hh hm (by simp) he ht⟩
/-- The lengths of the signs' own codes, in their order, from a place on. -/
def telS (v : Nat → Nat) : Nat → Nat → List Int → List Int
  | 0, _, l => l
  | n + 1, k, l => telS v n (k + 1) (l.set (Inf.order.getD k 0) (v k : Int))
def telBits (v : Nat → Nat) : Nat → Nat → List Bool
  | 0, _ => []
  | n + 1, k => num (v k) 3 ++ telBits v n (k + 1)
theorem gets_teller (v : Nat → Nat) (hv : ∀ k, v k < 8) : ∀ (n k : Nat) (l : List Int), Gets (Inf.teller n l k) (telBits v n k) (telS v n k l)
  | 0, k, l => gets_nil (fun r => rfl)
  | n + 1, k, l => by
    refine (gets_numb (v k) 3 (hv k)).bnd (g := Inf.teller n (l.set (Inf.order.getD k 0) (v k : Int)) (k + 1)) (gets_teller v hv n (k + 1) _) (fun r r' hr => ?_) (fun r e he => ?_)
    · rw [Inf.teller, hr]
    · rw [Inf.teller, he]
theorem telS_length (v : Nat → Nat) : ∀ (n k : Nat) (l : List Int), (telS v n k l).length = l.length
  | 0, k, l => rfl
  | n + 1, k, l => by rw [telS, telS_length v n]; simp
def place (i : Nat) : Nat := [3, 17, 15, 13, 11, 9, 7, 5, 4, 6, 8, 10, 12, 14, 16, 18, 0, 1, 2].getD i 0
theorem place_lt : ∀ i, i < 19 → place i < 19 ∧ Inf.order.getD (place i) 0 = i := by decide
theorem order_place : ∀ k, k < 19 → Inf.order.getD k 0 < 19 ∧ place (Inf.order.getD k 0) = k := by decide
theorem telS_getD (v : Nat → Nat) : ∀ (n k : Nat) (l : List Int), l.length = 19 → n + k ≤ 19 → ∀ i, i < 19 → (telS v n k l).getD i 0 = if k ≤ place i ∧ place i < k + n then (v (place i) : Int) else l.getD i 0
  | 0, k, l, hl, hn, i, hi => by rw [if_neg (by omega)]; rfl
  | n + 1, k, l, hl, hn, i, hi => by
    rw [telS, telS_getD v n (k + 1) _ (by simpa using hl) (by omega) i hi]
    have ho := order_place k (by omega)
    have hp := place_lt i hi
    have hs : (l.set (Inf.order.getD k 0) (v k : Int)).getD i 0 = if i = Inf.order.getD k 0 then (v k : Int) else l.getD i 0 := getD_set _ _ _ _ (by omega)
    rw [hs]
    by_cases e : i = Inf.order.getD k 0
    · have : place i = k := by rw [e]; exact ho.2
      rw [if_neg (by omega), if_pos e, if_pos (by omega), this]
    · have : place i ≠ k := fun h => e (by rw [← h]; exact hp.2.symm)
      rw [if_neg e]
      by_cases h : k + 1 ≤ place i ∧ place i < k + 1 + n
      · rw [if_pos h, if_pos (by omega)]
      · rw [if_neg h, if_neg (by omega)]
/-- The first c lengths in their order tell all of them, if the others are 0. -/
theorem telS_all (zs : List Int) (c : Nat) (hl : zs.length = 19) (hc : c ≤ 19) (h0 : ∀ i, 0 ≤ zs.getD i 0) (hz : ∀ k, c ≤ k → k < 19 → zs.getD (Inf.order.getD k 0) 0 = 0) : telS (fun k => (zs.getD (Inf.order.getD k 0) 0).toNat) c 0 (List.replicate 19 0) = zs := by
  apply List.ext_getElem
  · rw [telS_length, hl]; rfl
  · intro i h1 h2
    have hi : i < 19 := by omega
    have h := telS_getD (fun k => (zs.getD (Inf.order.getD k 0) 0).toNat) c 0 (List.replicate 19 0) rfl (by omega) i hi
    have e1 : ∀ (l : List Int) (h : i < l.length), l[i] = l.getD i 0 := fun l h => by simp [h]
    rw [e1 _ h1, e1 _ h2, h]
    have hp := place_lt i hi
    by_cases hc : place i < c
    · rw [if_pos (by omega), hp.2]
      have := h0 i
      omega
    · rw [if_neg (by omega)]
      have := hz (place i) (by omega) hp.1
      rw [hp.2] at this
      rw [this]
      simp only [List.getD_eq_getElem?_getD, List.getElem?_replicate]; split <;> rfl
theorem book_ok {zs : List Int} (h : may zs = 0) : Inf.book zs = .ok () := by unfold Inf.book; rw [if_pos h]
/-- What the head of a dynamic block needs. -/
structure HeadOk (a b first : List Int) (c : Nat) (gs : List Sg) : Prop where
  fl : first.length = 19
  f7 : ∀ i, 0 ≤ first.getD i 0 ∧ first.getD i 0 < 8
  c4 : 4 ≤ c
  c19 : c ≤ 19
  cz : ∀ k, c ≤ k → k < 19 → first.getD (Inf.order.getD k 0) 0 = 0
  fm : may first = 0
  fk : kr first ≤ 32768
  ok : okGs gs []
  has : ∀ g ∈ gs, 0 < first.getD g.s 0
  dec : dec gs [] = a ++ b
  al : 257 ≤ a.length ∧ a.length ≤ 286
  bl : 1 ≤ b.length ∧ b.length ≤ 30
  ae : a.getD 256 0 ≠ 0
  am : may a = 0
  bm : may b = 0
def headBits (a b first : List Int) (c : Nat) (gs : List Sg) : List Bool :=
  num (a.length - 257) 5 ++ (num (b.length - 1) 5 ++ (num (c - 4) 4 ++ (telBits (fun k => (first.getD (Inf.order.getD k 0) 0).toNat) c 0 ++ runs first gs)))
theorem gets_heads {a b first : List Int} {c : Nat} {gs : List Sg} (h : HeadOk a b first c gs) : Gets Inf.heads (headBits a b first c gs) (a, b) := by
  have hal := h.al
  have hbl := h.bl
  have hc4 := h.c4
  have hc19 := h.c19
  have hco : Coded first := ⟨may_good h.fm, h.fk⟩
  have e1 : 257 + (a.length - 257) = a.length := by omega
  have e2 : 1 + (b.length - 1) = b.length := by omega
  have e3 : 4 + (c - 4) = c := by omega
  have g5 : Gets (lenB a.length b.length first) (runs first gs) (a, b) := by
    refine (gets_lens hco (a.length + b.length) gs h.ok h.has (by rw [h.dec, List.length_append])).map (fun r r' hr => ?_) (fun r e he => ?_)
    · unfold lenB; rw [hr]
      simp only
      unfold finB
      rw [h.dec, List.take_left, List.drop_left, book_ok h.am, book_ok h.bm]
      have : (a ++ b).getD 256 0 = a.getD 256 0 := by
        simp only [List.getD_eq_getElem?_getD]
        rw [List.getElem?_append_left (by omega)]
      rw [if_neg (by rw [this]; exact h.ae)]
    · unfold lenB; rw [he]
  have g4 : Gets (telB a.length b.length c) (telBits (fun k => (first.getD (Inf.order.getD k 0) 0).toNat) c 0 ++ runs first gs) (a, b) := by
    refine (gets_teller _ (fun k => by have := h.f7 (Inf.order.getD k 0); omega) c 0 (List.replicate 19 0)).bnd g5 (fun r r' hr => ?_) (fun r e he => ?_)
    · rw [telS_all first c h.fl h.c19 (fun i => (h.f7 i).1) h.cz] at hr
      unfold telB tellR
      rw [hr]
      simp only [telFin]
      rw [book_ok h.fm]
    · unfold telB tellR
      rw [he]; rfl
  have g3 : Gets (fun r => match Inf.numb 4 r with | .ok (c, r) => headB (a.length - 257) (b.length - 1) c r | .error e => .error e) (num (c - 4) 4 ++ (telBits (fun k => (first.getD (Inf.order.getD k 0) 0).toNat) c 0 ++ runs first gs)) (a, b) := by
    refine (gets_numb (c - 4) 4 (by omega)).bnd g4 (fun r r' hr => ?_) (fun r e he => ?_)
    · rw [hr]; simp only; unfold headB; rw [if_neg (by omega), e1, e2, e3]
    · rw [he]
  have g2 : Gets (fun r => match Inf.numb 5 r with
    | .ok (d, r) => (match Inf.numb 4 r with | .ok (c, r) => headB (a.length - 257) d c r | .error e => .error e)
    | .error e => .error e) (num (b.length - 1) 5 ++ (num (c - 4) 4 ++ (telBits (fun k => (first.getD (Inf.order.getD k 0) 0).toNat) c 0 ++ runs first gs))) (a, b) := by
    refine (gets_numb (b.length - 1) 5 (by omega)).bnd g3 (fun r r' hr => ?_) (fun r e he => ?_)
    · rw [hr]
    · rw [he]
  refine (gets_numb (a.length - 257) 5 (by omega)).bnd g2 (fun r r' hr => ?_) (fun r e he => ?_)
  · rw [heads_eq, hr]
    simp only
    cases Inf.numb 5 r' with
    | error e => rfl
    | ok p =>
      simp only
      cases Inf.numb 4 p.2 with
      | error e => rfl
      | ok p => rfl
  · rw [heads_eq, he]
end Go.Proofs.YtefeilgbofphjaaDoor
/-
  Blocks, streams that are written, and how they are read back; bytes of bits.
-/
namespace Go.Proofs.YtefeilgbofphjaaDoor
open Hf

theorem testBit_val : ∀ (L : List Bool) (i : Nat), (Inf.val L).testBit i = L.getD i false
  | [], i => by simp [Inf.val]
  | b :: t, 0 => by
    rw [Inf.val, Nat.testBit_zero, List.getD_cons_zero]
    cases b <;> simp <;> omega
  | b :: t, i + 1 => by
    rw [Inf.val, Nat.testBit_succ, List.getD_cons_succ, ← testBit_val t i]
    congr 1
    cases b <;> simp <;> omega
theorem num_val (L : List Bool) (k : Nat) (h : k ≤ L.length) : num (Inf.val L) k = L.take k := by
  apply List.ext_getElem
  · simp; omega
  · intro i h1 h2
    simp only [num, List.getElem_map, List.getElem_range, testBit_val, List.getElem_take]
    simp at h1
    simp [show i < L.length by omega]
theorem val_pad (L : List Bool) : ∀ k, Inf.val (L ++ List.replicate k false) = Inf.val L := by
  intro k
  induction k with
  | zero => simp
  | succ k ih => rw [List.replicate_succ', ← List.append_assoc, Inf.val_snoc, ih]; simp
theorem bit8_num (x : UInt8) : Inf.bit8 x = num x.toNat 8 := rfl
theorem bits_cons8 (x : UInt8) (b : List UInt8) : Inf.bits (x :: b) = num x.toNat 8 ++ Inf.bits b := rfl
theorem val8 (L : List Bool) (h : L.length ≤ 8) : (UInt8.ofNat (Inf.val L)).toNat = Inf.val L := by
  rw [UInt8.toNat_ofNat']
  have h1 := Inf.val_lt L
  have h2 : 2 ^ L.length ≤ 2 ^ 8 := Nat.pow_le_pow_right (by decide) h
  exact Nat.mod_eq_of_lt (by omega)
/-- The bits of bytes out of bits. -/
theorem bits_byts : ∀ (n : Nat) (r : List Bool), 8 * n ≤ r.length → Inf.bits (Inf.byts n r) = r.take (8 * n)
  | 0, r, _ => by simp [Inf.byts, Inf.bits]
  | n + 1, r, h => by
    rw [Inf.byts, bits_cons8, val8 _ (by simp; omega), num_val _ 8 (by simp; omega), bits_byts n _ (by simp; omega), List.take_take, Nat.min_self, show 8 * (n + 1) = 8 + 8 * n by omega, List.take_add]
theorem byts_all : ∀ (b : List UInt8) (r : List Bool), Inf.byts b.length (Inf.bits b ++ r) = b
  | [], r => rfl
  | x :: b, r => by
    rw [List.length_cons, Inf.byts, bits_cons8, List.append_assoc, List.take_append_of_le_length (by simp), List.drop_append_of_le_length (by simp), List.take_of_length_le (by simp), List.drop_of_length_le (by simp), List.nil_append, byts_all b r, val_num, Nat.mod_eq_of_lt (by have := x.toNat_lt; omega), UInt8.ofNat_toNat]
theorem byts_pad : ∀ (n : Nat) (r : List Bool) (k : Nat), Inf.byts n (r ++ List.replicate k false) = Inf.byts n r
  | 0, r, k => rfl
  | n + 1, r, k => by
    rw [Inf.byts, Inf.byts]
    have e1 : Inf.val ((r ++ List.replicate k false).take 8) = Inf.val (r.take 8) := by
      rw [List.take_append, List.take_replicate, val_pad]
    have e2 : ∃ j, (r ++ List.replicate k false).drop 8 = r.drop 8 ++ List.replicate j false := ⟨k - (8 - r.length), by rw [List.drop_append, List.drop_replicate]⟩
    obtain ⟨j, e2⟩ := e2
    rw [e1, e2, byts_pad n]
/-- Bits in bytes. -/
def pack (L : List Bool) : List UInt8 := Inf.byts ((L.length + 7) / 8) L
theorem pack_length (L : List Bool) : (pack L).length = (L.length + 7) / 8 := Inf.byts_length _ _
theorem bits_pack (L : List Bool) : Inf.bits (pack L) = L ++ List.replicate (8 * ((L.length + 7) / 8) - L.length) false := by
  unfold pack
  rw [← byts_pad _ L (8 * ((L.length + 7) / 8) - L.length), bits_byts _ _ (by simp; omega), List.take_of_length_le (by simp; omega)]
/-- The bits of what a stream lacks its last byte. -/
theorem bits_less (L : List Bool) (h : 0 < L.length) : Inf.bits ((pack L).take ((pack L).length - 1)) = L.take (8 * ((pack L).length - 1)) := by
  have hn : ∃ n, (L.length + 7) / 8 = n + 1 := ⟨(L.length + 7) / 8 - 1, by omega⟩
  obtain ⟨n, hn⟩ := hn
  rw [pack_length, hn, Nat.add_sub_cancel]
  have e : (pack L).take n = Inf.byts n L := by
    unfold pack
    rw [hn, Inf.byts_add n 1, List.take_append_of_le_length (by rw [Inf.byts_length]; exact Nat.le_refl _), List.take_of_length_le (by rw [Inf.byts_length]; exact Nat.le_refl _)]
  rw [e, bits_byts _ _ (by omega)]
theorem byts_getD : ∀ (n : Nat) (r : List Bool) (j : Nat), j < n → (Inf.byts n r).getD j 0 = UInt8.ofNat (Inf.val ((r.drop (8 * j)).take 8))
  | 0, r, j, h => by omega
  | n + 1, r, 0, _ => by rw [Inf.byts, List.getD_cons_zero]; simp
  | n + 1, r, j + 1, h => by rw [Inf.byts, List.getD_cons_succ, byts_getD n _ j (by omega), List.drop_drop, show 8 + 8 * j = 8 * (j + 1) by omega]
/-- One bit more. -/
theorem pack_more (L : List Bool) (b : Bool) (q : List UInt8) (hq : q = if L.length % 8 = 0 then pack L ++ [0] else pack L) : pack (L ++ [b]) = q.set (L.length / 8) (q.getD (L.length / 8) 0 ||| UInt8.ofNat (b.toNat * 2 ^ (L.length % 8))) ∧ L.length / 8 < q.length := by
  have hl : q.length = L.length / 8 + 1 := by
    subst hq
    split
    · rw [List.length_append, pack_length, List.length_singleton]; omega
    · rw [pack_length]; omega
  have hg : ∀ j, j ≤ L.length / 8 → q.getD j 0 = UInt8.ofNat (Inf.val ((L.drop (8 * j)).take 8)) := by
    intro j hj
    subst hq
    split
    · rename_i h8
      rcases Nat.lt_or_ge j (L.length / 8) with h | h
      · have : (pack L ++ [0]).getD j 0 = (pack L).getD j 0 := by
          simp only [List.getD_eq_getElem?_getD]
          rw [List.getElem?_append_left (by rw [pack_length]; omega)]
        rw [this]
        exact byts_getD _ _ _ (by omega)
      · obtain rfl : j = L.length / 8 := by omega
        have hd : L.drop (8 * (L.length / 8)) = [] := List.drop_of_length_le (by omega)
        have hp : (pack L).length = L.length / 8 := by rw [pack_length]; omega
        rw [hd]
        simp only [List.getD_eq_getElem?_getD]
        rw [List.getElem?_append_right (by omega), hp]
        simp [Inf.val]
    · exact byts_getD _ _ _ (by omega)
  refine ⟨?_, by omega⟩
  have hpl : (pack (L ++ [b])).length = L.length / 8 + 1 := by rw [pack_length, List.length_append, List.length_singleton]; omega
  apply List.ext_getElem
  · rw [List.length_set, hpl, hl]
  · intro j h1 h2
    have e1 : ∀ (l : List UInt8) (h : j < l.length), l[j] = l.getD j 0 := fun l h => by simp [h]
    rw [e1 _ h1, e1 _ h2]
    have ep : (pack (L ++ [b])).getD j 0 = UInt8.ofNat (Inf.val (((L ++ [b]).drop (8 * j)).take 8)) := byts_getD _ _ _ (by rw [pack_length] at h1; exact h1)
    rw [ep]
    have es : (q.set (L.length / 8) (q.getD (L.length / 8) 0 ||| UInt8.ofNat (b.toNat * 2 ^ (L.length % 8)))).getD j 0 = if j = L.length / 8 then q.getD (L.length / 8) 0 ||| UInt8.ofNat (b.toNat * 2 ^ (L.length % 8)) else q.getD j 0 := by
      simp only [List.getD_eq_getElem?_getD, List.getElem?_set]
      by_cases e : L.length / 8 = j
      · rw [if_pos e, if_pos (by omega), if_pos e.symm]; rfl
      · rw [if_neg e, if_neg (fun h => e h.symm)]
    rw [es]
    rw [hpl] at h1
    by_cases e : j = L.length / 8
    · rw [if_pos e, hg _ (Nat.le_refl _), e]
      have hdl : (L.drop (8 * (L.length / 8))).length = L.length % 8 := by rw [List.length_drop]; omega
      have hd2 : (L ++ [b]).drop (8 * (L.length / 8)) = L.drop (8 * (L.length / 8)) ++ [b] := List.drop_append_of_le_length (by omega)
      rw [hd2, List.take_of_length_le (by rw [List.length_append, hdl, List.length_singleton]; omega), List.take_of_length_le (by omega), Inf.val_snoc, hdl]
      have hv := Inf.val_lt (L.drop (8 * (L.length / 8)))
      rw [hdl] at hv
      have hb : b.toNat ≤ 1 := by cases b <;> decide
      have hp8 : 2 ^ (L.length % 8) ≤ 2 ^ 7 := Nat.pow_le_pow_right (by decide) (by omega)
      have hb2 : b.toNat * 2 ^ (L.length % 8) ≤ 1 * 2 ^ (L.length % 8) := Nat.mul_le_mul_right _ hb
      have hor := or_add (Inf.val (L.drop (8 * (L.length / 8)))) (L.length % 8) b.toNat hv
      generalize Inf.val (L.drop (8 * (L.length / 8))) = v at hv hor ⊢
      generalize b.toNat * 2 ^ (L.length % 8) = y at hb2 hor ⊢
      generalize 2 ^ (L.length % 8) = z at hv hp8 hb2
      have m1 : (v + y) % 2 ^ 8 = v + y := Nat.mod_eq_of_lt (by omega)
      have m2 : v % 2 ^ 8 = v := Nat.mod_eq_of_lt (by omega)
      have m3 : y % 2 ^ 8 = y := Nat.mod_eq_of_lt (by omega)
      apply UInt8.toNat_inj.1
      rw [UInt8.toNat_or, UInt8.toNat_ofNat', UInt8.toNat_ofNat', UInt8.toNat_ofNat', m1, m2, m3, hor]
    · rw [if_neg e, hg j (by omega)]
      have : ((L ++ [b]).drop (8 * j)).take 8 = (L.drop (8 * j)).take 8 := by
        rw [List.drop_append_of_le_length (by omega), List.take_append_of_le_length (by rw [List.length_drop]; omega)]
      rw [this]
/-- What a block of a kind has, that is written: behind p bits, from what went out to what did then. -/
structure KindW (p kind : Nat) (M : List Bool) (out out2 : List UInt8) : Prop where
  go : ∀ most, out2.length ≤ most → GetsA p (fun r => kindB most out kind r) M out2
  cap : ∀ most, out.length ≤ most → most < out2.length → Caps p (fun r => kindB most out kind r) M
  le : out.length ≤ out2.length
theorem kindw_fixed {zs ds : List Int} {ts : List Tok} {out : List UInt8} (p : Nat) (ez : zs = Inf.fixS) (ed : ds = Inf.fixD) (hz : Coded zs) (hd : Coded ds) (hs : 0 < zs.getD 256 0) (ho : oks ts out) (hh : ∀ t ∈ ts, t.has zs ds) : KindW p 1 (body zs ds ts) out (effs ts out) := by
  have e : ∀ most r, kindB most out 1 r = Inf.body zs ds most (r.length + 1) out r := fun most r => by unfold kindB; rw [if_neg (by decide), if_pos rfl, ez, ed]
  refine ⟨fun most hm => ⟨fun r _ => ?_, fun P t he ht _ => ?_⟩, fun most hle hm r _ => ?_, effs_le _ _⟩
  · rw [e]; exact body_go hz hd hs ts out _ r ho hh hm (by omega)
  · rw [e]; exact body_few hz hd hs ts out _ P t ho hh hm he ht (by omega)
  · refine (e _ _).trans ?_; exact body_cap hz hd ts out _ r ho hh hm hle (by omega)
theorem kindw_dyn {a b first : List Int} {c : Nat} {gs : List Sg} {ts : List Tok} {out : List UInt8} (p : Nat) (h : HeadOk a b first c gs) (ha : kr a ≤ 32768) (hb : kr b ≤ 32768) (hs : 0 < a.getD 256 0) (ho : oks ts out) (hh : ∀ t ∈ ts, t.has a b) : KindW p 2 (headBits a b first c gs ++ body a b ts) out (effs ts out) := by
  have hz : Coded a := ⟨may_good h.am, ha⟩
  have hd : Coded b := ⟨may_good h.bm, hb⟩
  have e : ∀ most r, kindB most out 2 r = match Inf.heads r with | .ok ((zs, ds), r) => Inf.body zs ds most (r.length + 1) out r | .error e => .error e := fun most r => by unfold kindB; rw [if_neg (by decide), if_neg (by decide), if_pos rfl]; cases Inf.heads r with | error e => rfl | ok p => rfl
  have e1 : ∀ most r r', Inf.heads r = .ok ((a, b), r') → kindB most out 2 r = Inf.body a b most (r'.length + 1) out r' := fun most r r' hr => by rw [e, hr]
  have e2 : ∀ most r e', Inf.heads r = .error e' → kindB most out 2 r = .error e' := fun most r e' hr => by rw [e, hr]
  refine ⟨fun most hm => ?_, fun most hle hm => ?_, effs_le _ _⟩
  · exact ((gets_heads h).at p).bnd (g := fun r => Inf.body a b most (r.length + 1) out r) ⟨fun r _ => body_go hz hd hs ts out _ r ho hh hm (by omega), fun P t he ht _ => body_few hz hd hs ts out _ P t ho hh hm he ht (by omega)⟩ (e1 most) (e2 most)
  · exact ((gets_heads h).at p).caps (g := fun r => Inf.body a b most (r.length + 1) out r) (fun r _ => body_cap hz hd ts out _ r ho hh hm hle (by omega)) (e1 most)
theorem xor_16 (n : Nat) (h : n < 65536) : n ^^^ 65535 = 65535 - n := by
  apply Nat.eq_of_testBit_eq
  intro i
  have e : (65535 : Nat) - n = 2 ^ 16 - (n + 1) := by omega
  rw [Nat.testBit_xor, e, Nat.testBit_two_pow_sub_succ (by omega : n < 2 ^ 16), show (65535 : Nat) = 2 ^ 16 - 1 by decide, Nat.testBit_two_pow_sub_one]
  by_cases hi : i < 16
  · simp [hi]
  · simp [hi]
    exact Nat.testBit_lt_two_pow (Nat.lt_of_lt_of_le h (by have := Nat.pow_le_pow_right (show 0 < 2 by decide) (show 16 ≤ i by omega); omega))
theorem kindw_stored (p : Nat) (pad : List Bool) (bs out : List UInt8) (hp : pad.length < 8) (hpp : (p + pad.length) % 8 = 0) (hb : bs.length ≤ 65535) : KindW p 0 (pad ++ (num bs.length 16 ++ (num (65535 - bs.length) 16 ++ Inf.bits bs))) out (out ++ bs) := by
  have e : ∀ most r, kindB most out 0 r = Inf.stored most out r := fun most r => by unfold kindB; rw [if_pos rfl]
  have hbl : (Inf.bits bs).length = 8 * bs.length := bits_length bs
  have n1 : ∀ r, Inf.numb 16 (num bs.length 16 ++ r) = .ok (bs.length, r) := (gets_numb bs.length 16 (by omega)).go
  have n2 : ∀ r, Inf.numb 16 (num (65535 - bs.length) 16 ++ r) = .ok (65535 - bs.length, r) := (gets_numb (65535 - bs.length) 16 (by omega)).go
  have hs : ∀ most r r', r = pad ++ r' → (p + r.length) % 8 = 0 → Inf.stored most out r = match Inf.numb 16 r' with
    | .ok (n, r) => (match Inf.numb 16 r with | .ok (m, r) => if m ≠ 65535 - n then .error 20 else Inf.take most n out r | .error e => .error e)
    | .error e => .error e := by
    intro most r r' hr ha
    have h1 : r.length % 8 = pad.length := by
      have := congrArg List.length hr
      rw [List.length_append] at this
      omega
    unfold Inf.stored
    rw [h1, hr, List.drop_left]
    cases Inf.numb 16 r' with
    | error e => rfl
    | ok p =>
      obtain ⟨n, r2⟩ := p
      simp only
      cases Inf.numb 16 r2 with
      | error e => rfl
      | ok p => rfl
  have hgo : ∀ most r, (p + (pad ++ (num bs.length 16 ++ (num (65535 - bs.length) 16 ++ Inf.bits bs))).length + r.length) % 8 = 0 → Inf.stored most out (pad ++ (num bs.length 16 ++ (num (65535 - bs.length) 16 ++ Inf.bits bs)) ++ r) = Inf.take most bs.length out (Inf.bits bs ++ r) := by
    intro most r ha
    rw [hs most _ (num bs.length 16 ++ (num (65535 - bs.length) 16 ++ (Inf.bits bs ++ r))) (by simp only [List.append_assoc]) (by rw [List.length_append]; omega), n1]
    simp only
    rw [n2]
    simp only
    rw [if_neg (by simp)]
  have hdiv : ∀ r : List Bool, (Inf.bits bs ++ r).length / 8 = bs.length + r.length / 8 := fun r => by rw [List.length_append, hbl]; omega
  refine ⟨fun most hm => ⟨fun r hr => ?_, fun P t he ht hr => ?_⟩, fun most hle hm r hr => ?_, by rw [List.length_append]; omega⟩
  · rw [List.length_append] at hm
    rw [e, hgo most r hr]
    unfold Inf.take
    rw [hdiv, Nat.min_eq_left (by omega), if_neg (by omega), if_neg (by omega), byts_all]
    rw [show 8 * bs.length = (Inf.bits bs).length from hbl.symm, List.drop_left]
  · rw [List.length_append] at hm
    rw [e]
    have hlen := congrArg List.length he
    simp only [List.length_append, num_length, hbl] at hlen
    have htl : 0 < t.length := List.length_pos_iff.2 ht
    rcases List.append_eq_append_iff.1 he with ⟨a, h1, h2⟩ | ⟨a, h1, h2⟩
    · rw [hs most P a h1 hr]
      rcases List.append_eq_append_iff.1 h2 with ⟨c, h3, h4⟩ | ⟨c, h3, h4⟩
      · rw [h3, n1]
        simp only
        rcases List.append_eq_append_iff.1 h4 with ⟨d, h5, h6⟩ | ⟨d, h5, h6⟩
        · rw [h5, n2]
          simp only
          rw [if_neg (by simp)]
          have hl6 := congrArg List.length h6
          rw [hbl, List.length_append] at hl6
          unfold Inf.take
          rw [if_neg (by omega), if_pos (by omega)]
        · have hl5 := congrArg List.length h5
          rw [num_length, List.length_append] at hl5
          rcases List.eq_nil_or_concat d with hd | hd
          · subst hd
            rw [List.append_nil] at h5
            rw [← h5]
            have := n2 []
            rw [List.append_nil] at this
            rw [this]
            simp only
            rw [if_neg (by simp)]
            have hl6 := congrArg List.length h6
            rw [List.nil_append, hbl] at hl6
            unfold Inf.take
            rw [if_neg (by simp), if_pos (by simp; omega)]
          · rw [(gets_numb (65535 - bs.length) 16 (by omega)).few c d h5 (by obtain ⟨x, y, rfl⟩ := hd; simp)]
      · rcases List.eq_nil_or_concat c with hc | hc
        · subst hc
          rw [List.append_nil] at h3
          rw [← h3]
          have := n1 []
          rw [List.append_nil] at this
          rw [this]
          rfl
        · rw [(gets_numb bs.length 16 (by omega)).few a c h3 (by obtain ⟨x, y, rfl⟩ := hc; simp)]
    · rcases List.eq_nil_or_concat a with ha | ha
      · subst ha
        rw [List.append_nil] at h1
        rw [hs most P [] (by rw [h1, List.append_nil]) hr]
        rfl
      · exfalso
        have hl1 := congrArg List.length h1
        have : 0 < a.length := by obtain ⟨x, y, rfl⟩ := ha; simp
        rw [List.length_append] at hl1
        omega
  · rw [List.length_append] at hm
    refine (e _ _).trans ?_
    rw [hgo most r hr]
    unfold Inf.take
    rw [hdiv, Nat.min_eq_left (by omega), if_pos (by omega)]
/-- A block that is written. -/
structure BlkW (p : Nat) (M : List Bool) (out out2 : List UInt8) (k : Inf.Blk) : Prop where
  go : ∀ most, out2.length ≤ most → GetsA p (Inf.block most out) M (k, out2)
  cap : ∀ most, out.length ≤ most → most < out2.length → Caps p (Inf.block most out) M
  pos : 0 < M.length
  le : out.length ≤ out2.length
theorem num_bit (l : Bool) : num l.toNat 1 = [l] := by cases l <;> rfl
theorem blkw_of {p kind : Nat} {M : List Bool} {out out2 : List UInt8} (l : Bool) (hk : kind < 4) (h : KindW (p + 3) kind M out out2) : BlkW p (l :: (num kind 2 ++ M)) out out2 ⟨kind, l, out.length, out2.length⟩ := by
  have e1 : (l :: (num kind 2 ++ M)) = num l.toNat 1 ++ (num kind 2 ++ M) := by rw [num_bit]; rfl
  have hl : l.toNat < 2 := by cases l <;> decide
  have hd : decide (l.toNat = 1) = l := by cases l <;> rfl
  have a1 : ∀ most r r', Inf.numb 1 r = .ok (l.toNat, r') → Inf.block most out r = match Inf.numb 2 r' with | .ok (k, r) => finK k l.toNat out.length (kindB most out k r) | .error e => .error e := fun most r r' hr => by
    rw [block_eq, hr]
    simp only
    cases Inf.numb 2 r' with
    | error e => rfl
    | ok p => rfl
  have a2 : ∀ most r e, Inf.numb 1 r = .error e → Inf.block most out r = .error e := fun most r e hr => by rw [block_eq, hr]
  have b1 : ∀ most (r r' : List Bool), Inf.numb 2 r = .ok (kind, r') → (match Inf.numb 2 r with | .ok (k, r) => finK k l.toNat out.length (kindB most out k r) | .error e => .error e) = finK kind l.toNat out.length (kindB most out kind r') := fun most r r' hr => by simp only [hr]
  have b2 : ∀ most (r : List Bool) e, Inf.numb 2 r = .error e → (match Inf.numb 2 r with | .ok (k, r) => finK k l.toNat out.length (kindB most out k r) | .error e => .error e) = .error e := fun most r e hr => by simp only [hr]
  rw [e1]
  refine ⟨fun most hm => ?_, fun most hle hm => ?_, by simp; omega, h.le⟩
  · refine ((gets_numb l.toNat 1 hl).at p).bnd ?_ (a1 most) (a2 most)
    refine ((gets_numb kind 2 hk).at _).bnd ?_ (b1 most) (b2 most)
    have hg := h.go most hm
    rw [num_length, num_length]
    refine ⟨fun r hr => ?_, fun P t he ht hr => ?_⟩
    · have := hg.go r (by omega)
      rw [this]
      simp only [finK, hd]
    · have := hg.few P t he ht (by omega)
      rw [this]
      rfl
  · have hcap := h.cap most hle hm
    refine ((gets_numb l.toNat 1 hl).at p).caps ?_ (a1 most)
    refine ((gets_numb kind 2 hk).at _).caps ?_ (b1 most)
    intro r hr
    rw [num_length, num_length] at hr
    have := hcap r (by omega)
    simp only at this ⊢
    rw [this]
    rfl
/-- Blocks that are written, none of which is the last one. -/
structure StrW (L : List Bool) (out : List UInt8) (ks : List Inf.Blk) : Prop where
  go : ∀ most f r, out.length ≤ most → (L.length + r.length) % 8 = 0 → L.length + r.length < f → ∃ f', r.length < f' ∧ Inf.blocks most f [] [] (L ++ r) = Inf.blocks most f' ks out r
  few : ∀ most f P t, L = P ++ t → t ≠ [] → out.length ≤ most → P.length % 8 = 0 → P.length < f → Inf.blocks most f [] [] P = .error 4
  cap : ∀ most f r, most < out.length → (L.length + r.length) % 8 = 0 → L.length + r.length < f → Inf.blocks most f [] [] (L ++ r) = .error 22
/-- A whole stream. -/
structure StrE (L : List Bool) (out : List UInt8) (ks : List Inf.Blk) : Prop where
  go : ∀ most f r, out.length ≤ most → (L.length + r.length) % 8 = 0 → L.length + r.length < f → Inf.blocks most f [] [] (L ++ r) = .ok ((ks, out), r)
  few : ∀ most f P t, L = P ++ t → t ≠ [] → out.length ≤ most → P.length % 8 = 0 → P.length < f → Inf.blocks most f [] [] P = .error 4
  cap : ∀ most f r, most < out.length → (L.length + r.length) % 8 = 0 → L.length + r.length < f → Inf.blocks most f [] [] (L ++ r) = .error 22
  pos : 0 < L.length
theorem strw_nil : StrW [] [] [] :=
  ⟨fun most f r _ _ h => ⟨f, by simpa using h, rfl⟩, fun most f P t he ht => absurd (List.append_eq_nil_iff.1 he.symm).2 ht, fun most f r h => absurd h (by simp)⟩
theorem blocks_succ (most f : Nat) (ks : List Inf.Blk) (out : List UInt8) (r : List Bool) : Inf.blocks most (f + 1) ks out r = match Inf.block most out r with
  | .ok ((k, out), r) => if k.last then .ok ((ks ++ [k], out), r) else Inf.blocks most f (ks ++ [k]) out r
  | .error e => .error e := by
  rw [Inf.blocks]
  cases Inf.block most out r with
  | error e => rfl
  | ok p => rfl
theorem StrW.few_more {L M : List Bool} {out out2 : List UInt8} {ks : List Inf.Blk} {k : Inf.Blk} (h : StrW L out ks) (hb : BlkW L.length M out out2 k) (most f : Nat) (P t : List Bool) (he : L ++ M = P ++ t) (ht : t ≠ []) (hm : out2.length ≤ most) (hp : P.length % 8 = 0) (hf : P.length < f) : Inf.blocks most f [] [] P = .error 4 := by
  have hle := hb.le
  have key : ∀ a, P = L ++ a → M = a ++ t → Inf.blocks most f [] [] P = .error 4 := by
    intro a h1 h2
    have hl := congrArg List.length h1
    rw [List.length_append] at hl
    obtain ⟨f', hf', e⟩ := h.go most f a (by omega) (by omega) (by omega)
    obtain ⟨f2, rfl⟩ : ∃ f2, f' = f2 + 1 := ⟨f' - 1, by omega⟩
    rw [h1, e, blocks_succ, (hb.go most hm).few a t h2 ht (by omega)]
  rcases List.append_eq_append_iff.1 he with ⟨a, h1, h2⟩ | ⟨a, h1, h2⟩
  · exact key a h1 h2
  · rcases List.eq_nil_or_concat a with ha | ha
    · subst ha
      exact key [] (by rw [List.append_nil] at h1 ⊢; exact h1.symm) (by rw [List.nil_append] at h2 ⊢; exact h2.symm)
    · exact h.few most f P a h1 (by obtain ⟨x, y, rfl⟩ := ha; simp) (by omega) hp hf
theorem StrW.cap_more {L M : List Bool} {out out2 : List UInt8} {ks : List Inf.Blk} {k : Inf.Blk} (h : StrW L out ks) (hb : BlkW L.length M out out2 k) (most f : Nat) (r : List Bool) (hm : most < out2.length) (hr : ((L ++ M).length + r.length) % 8 = 0) (hf : (L ++ M).length + r.length < f) : Inf.blocks most f [] [] (L ++ M ++ r) = .error 22 := by
  rw [List.length_append] at hr hf
  rw [List.append_assoc]
  rcases Nat.lt_or_ge most out.length with h1 | h1
  · exact h.cap most f (M ++ r) h1 (by rw [List.length_append]; omega) (by rw [List.length_append]; omega)
  · obtain ⟨f', hf', e⟩ := h.go most f (M ++ r) h1 (by rw [List.length_append]; omega) (by rw [List.length_append]; omega)
    obtain ⟨f2, rfl⟩ : ∃ f2, f' = f2 + 1 := ⟨f' - 1, by omega⟩
    rw [e, blocks_succ, hb.cap most h1 hm r (by omega)]
theorem StrW.more {L M : List Bool} {out out2 : List UInt8} {ks : List Inf.Blk} {k : Inf.Blk} (h : StrW L out ks) (hb : BlkW L.length M out out2 k) (hk : k.last = false) : StrW (L ++ M) out2 (ks ++ [k]) where
  go most f r hm hr hf := by
    have hle := hb.le
    have hpos := hb.pos
    rw [List.length_append] at hr hf
    obtain ⟨f', hf', e⟩ := h.go most f (M ++ r) (by omega) (by rw [List.length_append]; omega) (by rw [List.length_append]; omega)
    obtain ⟨f2, rfl⟩ : ∃ f2, f' = f2 + 1 := ⟨f' - 1, by omega⟩
    rw [List.length_append] at hf'
    refine ⟨f2, by omega, ?_⟩
    rw [List.append_assoc, e, blocks_succ, (hb.go most hm).go r (by omega)]
    simp only
    rw [hk, if_neg (by decide)]
  few most f P t he ht hm hp hf := h.few_more hb most f P t he ht hm hp hf
  cap most f r hm hr hf := h.cap_more hb most f r hm hr hf
theorem StrW.last {L M : List Bool} {out out2 : List UInt8} {ks : List Inf.Blk} {k : Inf.Blk} (h : StrW L out ks) (hb : BlkW L.length M out out2 k) (hk : k.last = true) : StrE (L ++ M) out2 (ks ++ [k]) where
  go most f r hm hr hf := by
    have hle := hb.le
    have hpos := hb.pos
    rw [List.length_append] at hr hf
    obtain ⟨f', hf', e⟩ := h.go most f (M ++ r) (by omega) (by rw [List.length_append]; omega) (by rw [List.length_append]; omega)
    obtain ⟨f2, rfl⟩ : ∃ f2, f' = f2 + 1 := ⟨f' - 1, by omega⟩
    rw [List.append_assoc, e, blocks_succ, (hb.go most hm).go r (by omega)]
    simp only
    rw [hk, if_pos rfl]
  few most f P t he ht hm hp hf := h.few_more hb most f P t he ht hm hp hf
  cap most f r hm hr hf := h.cap_more hb most f r hm hr hf
  pos := by have := hb.pos; rw [List.length_append]; omega
/-- A stream in bytes, anything behind it. -/
theorem StrE.all {L : List Bool} {out : List UInt8} {ks : List Inf.Blk} (h : StrE L out ks) (behind : List UInt8) (most : Nat) (hm : out.length ≤ most) : ∃ r, Inf.all (pack L ++ behind) most = .ok ((ks, out), r) ∧ r.length / 8 = behind.length := by
  have hb : (Inf.bits behind).length = 8 * behind.length := bits_length behind
  refine ⟨List.replicate (8 * ((L.length + 7) / 8) - L.length) false ++ Inf.bits behind, ?_, ?_⟩
  · unfold Inf.all
    rw [bits_append, bits_pack, List.append_assoc]
    refine h.go most _ _ hm ?_ ?_
    · rw [List.length_append, List.length_replicate, hb]; omega
    · rw [List.length_append, List.length_append, List.length_replicate, hb, pack_length]; omega
  · rw [List.length_append, List.length_replicate, hb]; omega
theorem StrE.less {L : List Bool} {out : List UInt8} {ks : List Inf.Blk} (h : StrE L out ks) (most : Nat) (hm : out.length ≤ most) : Inf.all ((pack L).take ((pack L).length - 1)) most = .error 4 := by
  have hp := h.pos
  have hpl := pack_length L
  unfold Inf.all
  rw [bits_less L hp]
  refine h.few most _ _ (L.drop (8 * ((pack L).length - 1))) (List.take_append_drop _ _).symm ?_ hm ?_ ?_
  · intro e
    have := congrArg List.length e
    rw [List.length_drop, hpl] at this
    simp at this; omega
  · rw [List.length_take]; omega
  · rw [List.length_take, List.length_take]; omega
theorem StrE.caps {L : List Bool} {out : List UInt8} {ks : List Inf.Blk} (h : StrE L out ks) (behind : List UInt8) (most : Nat) (hm : most < out.length) : Inf.all (pack L ++ behind) most = .error 22 := by
  have hb : (Inf.bits behind).length = 8 * behind.length := bits_length behind
  unfold Inf.all
  rw [bits_append, bits_pack, List.append_assoc]
  refine h.cap most _ _ hm ?_ ?_
  · rw [List.length_append, List.length_replicate, hb]; omega
  · rw [List.length_append, List.length_append, List.length_replicate, hb, pack_length]; omega
end Go.Proofs.YtefeilgbofphjaaDoor
/-
  The pen: a bit, a number, a code are written.
-/
namespace Go.Proofs.YtefeilgbofphjaaDoor
open Go.RowKit
/-- A pen, and what it wrote. -/
structure PenAt (w : World) (B g : Nat) (sv : Value) (L : List Bool) : Prop where
  row : w.heap[g]? = some (.cells #[sv, .int .i64 (L.length : Int)] 46 (0, 0))
  own : w.ownsRow B 5 1 sv ((L.length + 7) / 8) (bl (pack L))
  ne : ∀ j, sv.ownBlock = some j → j ≠ g
  ge : B ≤ g
/-- Its own blocks. -/
def penX (g : Nat) (sv : Value) : Nat → Prop := fun i => i = g ∨ sv.ownBlock = some i
def PenPost (B g : Nat) (L : List Bool) (X : Nat → Prop) (w : World) (e : Ending) (w' : World) : Prop :=
  e = .returned (.tuple #[]) ∧ OnlyS X w w' ∧ ∃ sv, PenAt w' B g sv L ∧ Grew w X (penX g sv)
namespace PenAt
variable {w w' : World} {B g : Nat} {sv : Value} {L : List Bool}
theorem lt (h : PenAt w B g sv L) : g < w.heap.size := (Array.getElem?_eq_some_iff.1 h.row).1
theorem c0 (h : PenAt w B g sv L) : w.cell? ⟨g, 0, none⟩ = some sv := cell_of_row _ _ _ _ _ _ h.row
theorem c1 (h : PenAt w B g sv L) : w.cell? ⟨g, 1, none⟩ = some (.int .i64 (L.length : Int)) := cell_of_row _ _ _ _ _ _ h.row
theorem free (h : PenAt w B g sv L) (o : Nat) : w.frozen? ⟨g, o, none⟩ = false := frozen_of_row _ _ _ _ _ h.row
theorem stay {S : Nat → Prop} (h : PenAt w B g sv L) (ho : OnlyS S w w') (hS : ∀ i, S i → ¬ penX g sv i) : PenAt w' B g sv L :=
  ⟨(ho.block g h.lt (fun hs => hS g hs (.inl rfl))).trans h.row, own_stays h.own (fun k hk => ho.block k (own_lt h.own k hk).2 (fun hs => hS k hs (.inr hk))), h.ne, h.ge⟩
theorem x_lt (h : PenAt w B g sv L) : ∀ i, penX g sv i → B ≤ i ∧ i < w.heap.size := fun i hi => by
  rcases hi with rfl | hi
  · exact ⟨h.ge, h.lt⟩
  · exact own_lt h.own i hi
end PenAt
theorem PenPost.before {B g : Nat} {L : List Bool} {X X1 : Nat → Prop} {w w1 w' : World} {e : Ending} (h : PenPost B g L X1 w1 e w') (ho : OnlyS X w w1) (hg : Grew w X X1) : PenPost B g L X w e w' := by
  obtain ⟨h1, h2, sv, h3, h4⟩ := h
  exact ⟨h1, ho.trans' h2 (fun i hi => hg i hi), sv, h3, hg.trans h4 ho.size⟩
/-- Half of a bit's way: there is a byte for it. -/
structure PenMid (w : World) (B g : Nat) (q : List UInt8) (n : Nat) (sv : Value) : Prop where
  row : w.heap[g]? = some (.cells #[sv, .int .i64 (n : Int)] 46 (0, 0))
  own : w.ownsRow B 5 1 sv (n / 8 + 1) (bl q)
  ne : ∀ j, sv.ownBlock = some j → j ≠ g
  ge : B ≤ g
  len : q.length = n / 8 + 1
theorem bl_set (q : List UInt8) (i : Nat) (x : UInt8) : (bl q).set i (.int .u8 (bi x)) = bl (q.set i x) := by simp [bl, List.map_set]
/-- The bit is laid. -/
theorem pen_laid {w : World} {B g : Nat} {L : List Bool} {q : List UInt8} {sv : Value} {k cap : Nat} (h : PenMid w B g q L.length sv) (b : Bool) (hq : q = if L.length % 8 = 0 then pack L ++ [0] else pack L) (hs : sv = .slice (some ⟨k, 0, none⟩) (L.length / 8 + 1) cap) (x : UInt8) (hx : x = q.getD (L.length / 8) 0 ||| UInt8.ofNat (b.toNat * 2 ^ (L.length % 8))) :
    (PenAt ((w.setCell ⟨k, L.length / 8, none⟩ (.int .u8 (bi x))).drew.setCell ⟨g, 1, none⟩ (.int .i64 ((L.length : Int) + 1))) B g sv (L ++ [b]) ∧ OnlyS (penX g sv) w ((w.setCell ⟨k, L.length / 8, none⟩ (.int .u8 (bi x))).drew.setCell ⟨g, 1, none⟩ (.int .i64 ((L.length : Int) + 1)))) ∧
    (w.setCell ⟨k, L.length / 8, none⟩ (.int .u8 (bi x))).drew.heap[g]? = some (.cells #[sv, .int .i64 (L.length : Int)] 46 (0, 0)) := by
  have hp := pack_more L b q hq
  rw [← hx] at hp
  obtain ⟨g', cap', e1, -, -, -, -, -, -, hset⟩ := own_spot h.own (by omega)
  have hkb : sv.ownBlock = some k := by rw [hs]; rfl
  have hkg := h.ne k hkb
  have e2 : g' = k := by rw [hs] at e1; cases e1; rfl
  subst e2
  have ho1 : OnlyS (penX g sv) w (w.setCell ⟨g', L.length / 8, none⟩ (.int .u8 (bi x))).drew := (OnlyS.setCell _ _ _ _ (.inr hkb)).trans (OnlyS.drew _)
  have ho2 : OnlyS (penX g sv) (w.setCell ⟨g', L.length / 8, none⟩ (.int .u8 (bi x))).drew ((w.setCell ⟨g', L.length / 8, none⟩ (.int .u8 (bi x))).drew.setCell ⟨g, 1, none⟩ (.int .i64 ((L.length : Int) + 1))) := OnlyS.setCell _ _ _ _ (.inl rfl)
  have hrow1 : (w.setCell ⟨g', L.length / 8, none⟩ (.int .u8 (bi x))).drew.heap[g]? = some (.cells #[sv, .int .i64 (L.length : Int)] 46 (0, 0)) := (heap_setCell_other _ _ _ _ (by show ¬ g = g'; exact fun e => hkg e.symm)).trans h.row
  refine ⟨⟨⟨?_, ?_, h.ne, h.ge⟩, ho1.trans ho2⟩, hrow1⟩
  · refine (heap_setCell_same _ _ _ _ _ _ hrow1).trans ?_
    rw [List.length_append, List.length_singleton]
    rfl
  · have hw := hset (L.length / 8) (.int .u8 (bi x)) (by omega)
    rw [bl_set, ← hp.1] at hw
    have e3 : (L.length + [b].length + 7) / 8 = L.length / 8 + 1 := by simp; omega
    rw [List.length_append, e3]
    exact own_stays hw (fun j hj => heap_setCell_other _ _ _ _ (by show ¬ j = g; exact h.ne j hj))
/-- A byte more. -/
theorem pen_grown {w w1 : World} {B g : Nat} {L : List Bool} {sv v' : Value} (h : PenAt w B g sv L) (h8 : L.length % 8 = 0)
    (hown : w1.ownsRow B 5 1 v' (L.length / 8 + 1) (bl (pack L) ++ bl [0])) (hgr : (w.alloc (.cells #[.int .u8 0] 5)).grownBy w1 sv.ownBlock) (hat : v'.ownBlock = sv.ownBlock ∨ v'.ownBlock = some (w.alloc (.cells #[.int .u8 0] 5)).heap.size) :
    (PenMid (w1.setCell ⟨g, 0, none⟩ v') B g (pack L ++ [0]) L.length v' ∧ OnlyS (penX g sv) w (w1.setCell ⟨g, 0, none⟩ v') ∧ Grew w (penX g sv) (penX g v')) ∧ w1.heap[g]? = some (.cells #[sv, .int .i64 (L.length : Int)] 46 (0, 0)) := by
  have ha : OnlyS (fun _ => False) w (w.alloc (.cells #[.int .u8 0] 5)) := OnlyS.alloc _ _
  have ho1 : OnlyS (fun i => sv.ownBlock = some i) (w.alloc (.cells #[.int .u8 0] 5)) w1 := OnlyS.grown hgr (fun k hk => hk)
  have ho2 : OnlyS (· = g) w1 (w1.setCell ⟨g, 0, none⟩ v') := OnlyS.setCell _ _ _ _ rfl
  have hlt := h.lt
  have hz : (w.alloc (.cells #[.int .u8 0] 5)).heap.size = w.heap.size + 1 := by simp
  have hrow1 : w1.heap[g]? = some (.cells #[sv, .int .i64 (L.length : Int)] 46 (0, 0)) := (ho1.block g (by omega) (fun e => h.ne g e rfl)).trans ((ha.block g hlt (fun h => h)).trans h.row)
  have hne : ∀ j, v'.ownBlock = some j → j ≠ g := fun j hj => by
    rcases hat with h1 | h1
    · exact h.ne j (by rw [← h1]; exact hj)
    · rw [h1] at hj; cases hj; omega
  refine ⟨⟨⟨(heap_setCell_same _ _ _ _ _ _ hrow1).trans rfl, own_stays (by rw [bl_append]; exact hown) (fun k hk => heap_setCell_other _ _ _ _ (hne k hk)), hne, h.ge, by rw [List.length_append, pack_length, List.length_singleton]; omega⟩, ?_, ?_⟩, hrow1⟩
  · exact ((ha.mono fun _ _ h => h.elim).trans (ho1.mono fun _ _ h => .inr h)).trans (ho2.mono fun _ _ h => .inl h)
  · intro i hi
    rcases hi with hi | hi
    · exact .inl (.inl hi)
    · rcases hat with h1 | h1
      · exact .inl (.inr (by rw [← h1]; exact hi))
      · rw [h1] at hi; cases hi; exact .inr (by omega)
/-- The byte's arithmetic. -/
theorem u8_or (a b : UInt8) : bits .or .u8 (bi a) (bi b) = bi (a ||| b) := by
  have ha := a.toNat_lt
  have hb := b.toNat_lt
  have e : ∀ x : UInt8, (BitVec.ofInt 8 (bi x)).toNat = x.toNat := fun x => by
    have hx := x.toNat_lt
    unfold bi
    rw [BitVec.ofInt_natCast, BitVec.toNat_ofNat]; exact Nat.mod_eq_of_lt (by omega)
  show IntKind.u8.wrap ((BitVec.ofInt 8 (bi a) ||| BitVec.ofInt 8 (bi b)).toNat : Int) = _
  rw [BitVec.toNat_or, e, e]
  have h : a.toNat ||| b.toNat < 2 ^ 8 := Nat.or_lt_two_pow (by omega) (by omega)
  rw [show bi (a ||| b) = ((a.toNat ||| b.toNat : Nat) : Int) by unfold bi; rw [UInt8.toNat_or]]
  generalize a.toNat ||| b.toNat = c at h
  show (c : Int) % 256 = c
  omega
theorem or_bit8 (y : UInt8) (x p : Nat) (hx : x < 4294967296) (hp : p < 8) : bits .or .u8 (bi y) (((bits .and .u32 (x : Int) 1) % 256) * 2 ^ p % 256) = bi (y ||| UInt8.ofNat ((x.testBit 0).toNat * 2 ^ p)) := by
  rw [← u8_or, show (1 : Int) = ((1 : Nat) : Int) from rfl, u32_and_nat _ _ hx (by decide), Nat.and_one_is_mod]
  congr 1
  have h2 : (2 : Nat) ^ p ≤ 2 ^ 7 := Nat.pow_le_pow_right (by decide) (by omega)
  have hb : (x.testBit 0).toNat = x % 2 := by
    rw [Nat.testBit_zero]
    rcases Nat.mod_two_eq_zero_or_one x with h | h <;> rw [h] <;> rfl
  rw [hb]
  have e : ((2 : Int) ^ p) = ((2 ^ p : Nat) : Int) := by rw [Int.natCast_pow]; rfl
  rw [e]
  unfold bi
  have hm : x % 2 ≤ 1 := by omega
  generalize x % 2 = m at hm ⊢
  have e3 : m * 2 ^ p ≤ 1 * 2 ^ p := Nat.mul_le_mul_right _ hm
  rw [UInt8.toNat_ofNat']
  rw [show ((m : Nat) : Int) % 256 = (m : Int) by omega, ← Int.natCast_mul]
  omega
set_option maxRecDepth 100000 in
set_option maxHeartbeats 1000000 in
theorem pbit_walk (w : World) (B g x : Nat) (sv : Value) (L : List Bool) (h : PenAt w B g sv L) (hl : L.length ≤ 1099511627776) (hx : x < 4294967296) (hB : B ≤ w.heap.size) :
    Calls Tryd.prog 11 #[.pointer (some ⟨g, 0, none⟩), .int .u32 (x : Int)] w (PenPost B g (L ++ [x.testBit 0]) (penX g sv) w) := by
  obtain ⟨po, co, hsh⟩ := (own_toV h.own).shape
  rw [bl_length, pack_length] at hsh
  subst hsh
  have c0 := h.c0
  have c1 := h.c1
  have f0 := h.free 0
  have f1 := h.free 1
  have HH := Lib.hid h
  obtain ⟨n, hn⟩ : ∃ n, n = L.length := ⟨_, rfl⟩
  rw [← hn] at c0 c1 hl
  have HN := Lib.hid hn
  clear h hn
  obtain ⟨i0, hi, hz0, hz1, hz2⟩ := info_parts info5
  have HI0 := Lib.hid (And.intro hi (And.intro hz0 (And.intro hz1 hz2)))
  clear hi hz0 hz1 hz2
  by_cases h8 : n % 8 = 0
  · have hd : ((n : Int) % 8 == 0) = true := by simp; omega
    have h78 : (n + 7) / 8 = n / 8 := by omega
    rw [h78] at c0
    have HA : Hid ((w.alloc (.cells #[.int .u8 0] 5)).ownsRow B 5 1 (.slice po (n / 8) co) (n / 8) (bl (pack L))) := Lib.hid (by
      have h1 := World.ownsRow.alloc HH.out.own (.cells #[.int .u8 0] 5)
      rw [← HN.out, h78] at h1
      exact h1)
    have HK : Hid (SlK 1 (w.alloc (.cells #[.int .u8 0] 5)) (.slice (some ⟨w.heap.size, 0, none⟩) 1 1) 1 (bl [0])) := Lib.hid (slv_lit w (bl [0]) 5).toK
    have HBS : Hid (B ≤ (w.alloc (.cells #[.int .u8 0] 5)).heap.size) := Lib.hid (by simp; omega)
    go_enter Tryd.func11, Tryd.ntmps11
    go_wp2_with (refine wpList_appK 23 5 i0 (.int .u8 0) 1 1 Tryd.underlying23 HI0.out.1 HI0.out.2.1 HI0.out.2.2.1 HI0.out.2.2.2 rfl (by decide) (by decide) rfl (.tmp 14) (.tmp 15) rfl B (.slice po (n / 8) co) (.slice (some ⟨w.heap.size, 0, none⟩) 1 1) (n / 8) 1 (bl (pack L)) (bl [0]) rfl rfl (bl_one _) HA.out HK.out HBS.out (by omega) ?_; intro v' w1 hown hgrow hat; have HW := Lib.hid (pen_grown HH.out (by rw [← HN.out]; exact h8) (by rw [← HN.out]; exact hown) (by rw [← HN.out, h78]; exact hgrow) (by rw [← HN.out, h78]; exact hat)); obtain ⟨p', c', hv'⟩ := (own_toV hown).shape; have hlen : (bl (pack L) ++ bl [0]).length = n / 8 + 1 := (by simp [pack_length, ← HN.out, h78]); rw [hlen] at hv'; subst hv'; have c4' := cell_of_row _ _ 0 _ _ _ HW.out.2; have f4' := frozen_of_row _ _ 0 _ _ HW.out.2; clear hown hgrow hat hlen)
    obtain ⟨w2, hw2⟩ : ∃ w2, w2 = w1.setCell ⟨g, 0, none⟩ (.slice p' (n / 8 + 1) c') := ⟨_, rfl⟩
    rw [← hw2] at HW ⊢
    have hM := HW.out.1.1
    obtain ⟨q, hq⟩ : ∃ q, q = pack L ++ [0] := ⟨_, rfl⟩
    rw [← hq] at hM
    have HQ : Hid (q = if L.length % 8 = 0 then pack L ++ [0] else pack L) := Lib.hid (by rw [if_pos (by rw [← HN.out]; exact h8)]; exact hq)
    have HG : Hid (OnlyS (penX g (.slice po ((L.length + 7) / 8) co)) w w2 ∧ Grew w (penX g (.slice po ((L.length + 7) / 8) co)) (penX g (.slice p' (n / 8 + 1) c'))) := Lib.hid HW.out.1.2
    clear HW c0 c1 f0 f1 c4' f4' hw2 hq h8 hd h78 HA HK HBS
    obtain ⟨k, cap, hk, -, hklt, -, -, hcell, hfro, -⟩ := own_spot hM.own (by omega)
    rw [← HN.out] at hk
    injection hk with hk1 hk2 hk3
    subst hk1 hk3
    clear hk2
    have d0 : w2.cell? ⟨g, 0, none⟩ = some (.slice (some ⟨k, 0, none⟩) (n / 8 + 1) c') := cell_of_row _ _ 0 _ _ _ hM.row
    have d1 : w2.cell? ⟨g, 1, none⟩ = some (.int .i64 (n : Int)) := by rw [HN.out]; exact cell_of_row _ _ 1 _ _ _ hM.row
    obtain ⟨y, hy⟩ : ∃ y, y = q.getD (n / 8) 0 := ⟨_, rfl⟩
    have d2 : w2.cell? ⟨k, n / 8, none⟩ = some (.int .u8 (bi y)) := hcell _ _ (by have := hM.len; rw [← HN.out] at this; rw [hy]; unfold bl; rw [List.getElem?_map, List.getElem?_eq_getElem (by omega)]; simp [List.getD_eq_getElem?_getD, this])
    have d3 := hfro (n / 8)
    have HM := Lib.hid hM
    have HY := Lib.hid hy
    clear hM hcell hfro hy
    go_region
    obtain ⟨z, hz⟩ : ∃ z, z = y ||| UInt8.ofNat ((x.testBit 0).toNat * 2 ^ (n % 8)) := ⟨_, rfl⟩
    have hv := or_bit8 y x (n % 8) hx (by omega)
    rw [← hz] at hv
    rw [hv]
    have HP := Lib.hid (pen_laid HM.out (x.testBit 0) HQ.out (by rw [← HN.out]) z (by rw [← HN.out, ← HY.out]; exact hz))
    rw [← HN.out] at HP
    clear d0 d1 d2 d3 hv hz HM HQ HY
    obtain ⟨w3, hw3⟩ : ∃ w3, w3 = (w2.setCell ⟨k, n / 8, none⟩ (.int .u8 (bi z))).drew := ⟨_, rfl⟩
    rw [← hw3] at HP ⊢
    have d1 : w3.cell? ⟨g, 1, none⟩ = some (.int .i64 (n : Int)) := cell_of_row _ _ 1 _ _ _ HP.out.2
    have f1 := frozen_of_row _ _ 1 _ _ HP.out.2
    clear hw3
    simp only [Exit.then]
    go_wp2_with fail
    go_end0
    exact ⟨rfl, HG.out.1.trans' HP.out.1.2 (fun i hi => HG.out.2 i hi), _, HP.out.1.1, HG.out.2⟩
  · have hd : ((n : Int) % 8 == 0) = false := beq_eq_false_iff_ne.2 (by omega)
    have h78 : (n + 7) / 8 = n / 8 + 1 := by omega
    rw [h78] at c0
    have hM : PenMid w B g (pack L) L.length (.slice po (n / 8 + 1) co) := by
      have hh := HH.out
      rw [← HN.out, h78] at hh
      exact ⟨hh.row, by have := hh.own; rw [← HN.out, h78] at this; rw [← HN.out]; exact this, hh.ne, hh.ge, by rw [pack_length, ← HN.out, h78]⟩
    obtain ⟨q, hq⟩ : ∃ q, q = pack L := ⟨_, rfl⟩
    rw [← hq] at hM
    have HQ : Hid (q = if L.length % 8 = 0 then pack L ++ [0] else pack L) := Lib.hid (by rw [if_neg (by rw [← HN.out]; exact h8)]; exact hq)
    have HG : Hid (OnlyS (penX g (.slice po ((L.length + 7) / 8) co)) w w ∧ Grew w (penX g (.slice po ((L.length + 7) / 8) co)) (penX g (.slice po (n / 8 + 1) co))) := Lib.hid ⟨OnlyS.refl _ _, by rw [← h78, HN.out]; exact Grew.refl _ _⟩
    clear f0 f1 hq h8 h78
    obtain ⟨k, cap, hk, -, hklt, -, -, hcell, hfro, -⟩ := own_spot hM.own (by omega)
    rw [← HN.out] at hk
    injection hk with hk1 hk2 hk3
    subst hk1 hk3
    clear hk2 c0 c1
    have d0 : w.cell? ⟨g, 0, none⟩ = some (.slice (some ⟨k, 0, none⟩) (n / 8 + 1) co) := cell_of_row _ _ 0 _ _ _ hM.row
    have d1 : w.cell? ⟨g, 1, none⟩ = some (.int .i64 (n : Int)) := by rw [HN.out]; exact cell_of_row _ _ 1 _ _ _ hM.row
    obtain ⟨y, hy⟩ : ∃ y, y = q.getD (n / 8) 0 := ⟨_, rfl⟩
    have d2 : w.cell? ⟨k, n / 8, none⟩ = some (.int .u8 (bi y)) := hcell _ _ (by have := hM.len; rw [← HN.out] at this; rw [hy]; unfold bl; rw [List.getElem?_map, List.getElem?_eq_getElem (by omega)]; simp [List.getD_eq_getElem?_getD, this])
    have d3 := hfro (n / 8)
    have HM := Lib.hid hM
    have HY := Lib.hid hy
    clear hM hcell hfro hy
    clear HH
    go_enter Tryd.func11, Tryd.ntmps11
    go_wp2_with fail
    go_region
    obtain ⟨z, hz⟩ : ∃ z, z = y ||| UInt8.ofNat ((x.testBit 0).toNat * 2 ^ (n % 8)) := ⟨_, rfl⟩
    have hv := or_bit8 y x (n % 8) hx (by omega)
    rw [← hz] at hv
    rw [hv]
    have HP := Lib.hid (pen_laid HM.out (x.testBit 0) HQ.out (by rw [← HN.out]) z (by rw [← HN.out, ← HY.out]; exact hz))
    rw [← HN.out] at HP
    clear d0 d1 d2 d3 hv hz HM HQ HY
    obtain ⟨w3, hw3⟩ : ∃ w3, w3 = (w.setCell ⟨k, n / 8, none⟩ (.int .u8 (bi z))).drew := ⟨_, rfl⟩
    rw [← hw3] at HP ⊢
    have d1 : w3.cell? ⟨g, 1, none⟩ = some (.int .i64 (n : Int)) := cell_of_row _ _ 1 _ _ _ HP.out.2
    have f1 := frozen_of_row _ _ 1 _ _ HP.out.2
    clear hw3
    simp only [Exit.then]
    go_wp2_with fail
    go_end0
    exact ⟨rfl, HG.out.1.trans' HP.out.1.2 (fun i hi => HG.out.2 i hi), _, HP.out.1.1, HG.out.2⟩
end Go.Proofs.YtefeilgbofphjaaDoor
