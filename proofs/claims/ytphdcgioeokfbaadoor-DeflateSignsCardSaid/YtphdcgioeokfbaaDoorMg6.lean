/-
  Merged, in the order in which they build: Pur Gets.
-/
import Derived.Test.YtphdcgioeokfbaaDoorMg1
import Derived.Test.YtphdcgioeokfbaaDoorMg5
/-
  Inflating as mathematics: what is used of it elsewhere.
-/
namespace Go.Proofs.YtphdcgioeokfbaaDoor
open Hf
/-- New blocks alone come to one's own. -/
def Grew (w : World) (O O' : Nat → Prop) : Prop := ∀ i, O' i → O i ∨ w.heap.size ≤ i
theorem Grew.refl (w : World) (O : Nat → Prop) : Grew w O O := fun _ h => .inl h
theorem Grew.trans {w w' : World} {O P Q : Nat → Prop} (h : Grew w O P) (k : Grew w' P Q) (hs : w.heap.size ≤ w'.heap.size) : Grew w O Q := fun i hi => by
  rcases k i hi with h1 | h1
  · exact h i h1
  · exact .inr (Nat.le_trans hs h1)
theorem bit8_length (x : UInt8) : (Inf.bit8 x).length = 8 := by simp [Inf.bit8]
theorem bits_length (b : List UInt8) : (Inf.bits b).length = 8 * b.length := by
  unfold Inf.bits
  induction b with
  | nil => rfl
  | cons x t ih => rw [List.flatMap_cons, List.length_append, ih, bit8_length, List.length_cons]; omega
theorem bits_append (a b : List UInt8) : Inf.bits (a ++ b) = Inf.bits a ++ Inf.bits b := by simp [Inf.bits]
theorem SlK.only {k : Nat} {S : Nat → Prop} {w w' : World} {v : Value} {m : Nat} {vs : List Value} (h : SlK k w v m vs) (ho : OnlyS S w w') (ha : ∀ p n cap, v = .slice (Option.some p) n cap → 0 < n → ¬ S p.block) : SlK k w' v m vs := by
  obtain ⟨h1, ⟨g, o, cap, h2, h3, h4⟩ | h2⟩ := h
  · rcases Nat.eq_zero_or_pos m with h0 | h0
    · refine ⟨h1, .inl ⟨g, o, cap, h2, h3, fun i v hi => ?_⟩⟩
      have := (List.getElem?_eq_some_iff.1 hi).1
      rw [h0] at h1; omega
    · exact ⟨h1, .inl ⟨g, o, cap, h2, h3, h4.only ho (ha _ _ _ h2 h0)⟩⟩
  · exact ⟨h1, .inr h2⟩
theorem SlV.only {S : Nat → Prop} {w w' : World} {v : Value} {vs : List Value} (h : SlV w v vs) (ho : OnlyS S w w') (ha : ∀ p n cap, v = .slice (Option.some p) n cap → 0 < n → ¬ S p.block) : SlV w' v vs := by
  rcases h with ⟨g, o, cap, h1, h2, h3⟩ | h
  · refine .inl ⟨g, o, cap, h1, h2, ?_⟩
    intro i u hi
    have h0 : 0 < vs.length := by have := (List.getElem?_eq_some_iff.1 hi).1; omega
    exact ho.cell (h3 i u hi) (ha ⟨g, o, none⟩ _ _ h1 h0)
  · exact .inr h
theorem or_add (x k b : Nat) (hx : x < 2 ^ k) : x ||| b * 2 ^ k = x + b * 2 ^ k := by
  rw [Nat.or_comm, Nat.mul_comm, ← Nat.two_pow_add_eq_or_of_lt hx, Nat.add_comm]
theorem may_good {zs : List Int} (h : Hf.may zs = 0) : Hf.good zs := by
  unfold Hf.may at h
  split at h
  · assumption
  · cases h
def telFin (T : Inf.Res (List Int)) : Inf.Res (List Int) :=
  match T with
  | .ok (zs, r) => (match Inf.book zs with | .ok _ => .ok (zs, r) | .error e => .error e)
  | .error e => .error e
def tellR (told : Nat) (r : List Bool) : Inf.Res (List Int) := telFin (Inf.teller told (List.replicate 19 0) 0 r)
def finB (n : Nat) (all : List Int) (r : List Bool) : Inf.Res (List Int × List Int) :=
  if all.getD 256 0 = 0 then .error 20 else
  match Inf.book (all.take n) with
  | .ok _ => (match Inf.book (all.drop n) with | .ok _ => .ok ((all.take n, all.drop n), r) | .error e => .error e)
  | .error e => .error e
def lenB (n m : Nat) (zs : List Int) (r : List Bool) : Inf.Res (List Int × List Int) :=
  match Inf.lens zs (n + m) (n + m + 1) [] r with
  | .ok (all, r) => finB n all r
  | .error e => .error e
def telB (n m told : Nat) (r : List Bool) : Inf.Res (List Int × List Int) :=
  match tellR told r with
  | .ok (zs, r) => lenB n m zs r
  | .error e => .error e
def headB (l d c : Nat) (r : List Bool) : Inf.Res (List Int × List Int) := if 286 < 257 + l ∨ 30 < 1 + d then .error 20 else telB (257 + l) (1 + d) (4 + c) r
theorem heads_eq (r : List Bool) : Inf.heads r = match Inf.numb 5 r with
  | .ok (l, r) => (match Inf.numb 5 r with
    | .ok (d, r) => (match Inf.numb 4 r with
      | .ok (c, r) => headB l d c r
      | .error e => .error e)
    | .error e => .error e)
  | .error e => .error e := by
  unfold Inf.heads
  cases Inf.numb 5 r with
  | error e => rfl
  | ok p =>
    obtain ⟨l, r1⟩ := p
    simp only
    cases Inf.numb 5 r1 with
    | error e => rfl
    | ok p =>
      obtain ⟨d, r2⟩ := p
      simp only
      cases Inf.numb 4 r2 with
      | error e => rfl
      | ok p =>
        obtain ⟨c, r3⟩ := p
        simp only
        unfold headB
        split
        · rfl
        · unfold telB tellR
          cases Inf.teller (4 + c) (List.replicate 19 0) 0 r3 with
          | error e => rfl
          | ok p =>
            obtain ⟨zs, r4⟩ := p
            simp only [telFin]
            cases Inf.book zs with
            | error e => rfl
            | ok _ =>
              simp only
              unfold lenB
              cases Inf.lens zs (257 + l + (1 + d)) (257 + l + (1 + d) + 1) [] r4 with
              | error e => rfl
              | ok p =>
                obtain ⟨all, r5⟩ := p
                simp only
                unfold finB
                split
                · rfl
                · cases Inf.book (all.take (257 + l)) with
                  | error e => rfl
                  | ok _ => cases Inf.book (all.drop (257 + l)) <;> rfl
theorem rd_count (zs : List Int) : ∀ f n c (bs : List Bool) s m, Hf.rd zs f n c bs = (s, 0, m) → n < m ∧ m - n ≤ bs.length
  | 0, n, c, bs, s, m, h => by rw [Hf.rd] at h; simp at h
  | f + 1, n, c, [], s, m, h => by rw [Hf.rd] at h; simp at h
  | f + 1, n, c, b :: t, s, m, h => by
    rw [Hf.rd] at h
    cases hs : Hf.sym zs (n + 1) (2 * c + b.toNat) with
    | some x => rw [hs] at h; simp at h; simp; omega
    | none =>
      rw [hs] at h
      have := rd_count zs f (n + 1) _ t s m h
      simp; omega
theorem symb_less {zs : List Int} {r r' : List Bool} {s : Nat} (h : Inf.symb zs r = .ok (s, r')) : r'.length < r.length := by
  unfold Inf.symb at h
  obtain ⟨q, hq⟩ : ∃ q, q = Hf.rd zs (Hf.deep zs) 0 0 r := ⟨_, rfl⟩
  rw [← hq] at h
  obtain ⟨q1, q2, q3⟩ := q
  simp only at h
  split at h
  · rename_i h0
    cases h
    subst h0
    have := rd_count zs _ _ _ _ _ _ hq.symm
    rw [List.length_drop]
    omega
  · cases h
def kindB (most : Nat) (out : List UInt8) (k : Nat) (r : List Bool) : Inf.Res (List UInt8) :=
  if k = 0 then Inf.stored most out r else if k = 1 then Inf.body Inf.fixS Inf.fixD most (r.length + 1) out r else if k = 2 then
    (match Inf.heads r with
    | .ok ((zs, ds), r) => Inf.body zs ds most (r.length + 1) out r
    | .error e => .error e)
  else (.error 20 : Inf.Res (List UInt8))
def finK (k l n : Nat) : Inf.Res (List UInt8) → Inf.Res (Inf.Blk × List UInt8)
  | .ok (out2, r) => .ok (({ kind := k, last := decide (l = 1), from_ := n, to := out2.length }, out2), r)
  | .error e => .error e
theorem block_eq (most : Nat) (out : List UInt8) (r : List Bool) : Inf.block most out r = match Inf.numb 1 r with
  | .ok (l, r) => (match Inf.numb 2 r with
    | .ok (k, r) => finK k l out.length (kindB most out k r)
    | .error e => .error e)
  | .error e => .error e := by
  unfold Inf.block
  cases Inf.numb 1 r with
  | error e => rfl
  | ok p =>
    obtain ⟨l, r1⟩ := p
    simp only
    cases Inf.numb 2 r1 with
    | error e => rfl
    | ok p =>
      obtain ⟨k, r2⟩ := p
      simp only
      show _ = finK k l out.length (kindB most out k r2)
      unfold kindB
      by_cases h0 : k = 0
      · simp only [if_pos h0]
        cases Inf.stored most out r2 with
        | error e => rfl
        | ok p => rfl
      · by_cases h1 : k = 1
        · simp only [if_neg h0, if_pos h1]
          cases Inf.body Inf.fixS Inf.fixD most (r2.length + 1) out r2 with
          | error e => rfl
          | ok p => rfl
        · by_cases h2 : k = 2
          · simp only [if_neg h0, if_neg h1, if_pos h2]
            cases Inf.heads r2 with
            | error e => rfl
            | ok p =>
              obtain ⟨⟨zs, ds⟩, r3⟩ := p
              simp only
              cases Inf.body zs ds most (r3.length + 1) out r3 with
              | error e => rfl
              | ok p => rfl
          · simp only [if_neg h0, if_neg h1, if_neg h2]
            rfl
end Go.Proofs.YtphdcgioeokfbaaDoor
/-
  Writing: bits of numbers and of codes, and how what is written is read back.
-/
namespace Go.Proofs.YtphdcgioeokfbaaDoor
open Hf

/-- A number's lowest bits, the lowest first. -/
def num (n k : Nat) : List Bool := (List.range k).map n.testBit
@[simp] theorem num_length (n k : Nat) : (num n k).length = k := by simp [num]
theorem num_zero (n : Nat) : num n 0 = [] := rfl
theorem num_succ (n k : Nat) : num n (k + 1) = num n k ++ [n.testBit k] := by simp [num, List.range_succ]
theorem val_num (n : Nat) : ∀ k, Inf.val (num n k) = n % 2 ^ k
  | 0 => by simp [num, Inf.val, Nat.mod_one]
  | k + 1 => by
    rw [num_succ, Inf.val_snoc, val_num n k, num_length, Nat.mod_pow_succ, Nat.testBit_eq_decide_div_mod_eq]
    have : n / 2 ^ k % 2 < 2 := Nat.mod_lt _ (by decide)
    rcases (by omega : n / 2 ^ k % 2 = 0 ∨ n / 2 ^ k % 2 = 1) with h | h <;> simp [h]
/-- f reads L as x, whatever stands behind; of less it says that bits are wanting. -/
structure Gets {α : Type} (f : List Bool → Inf.Res α) (L : List Bool) (x : α) : Prop where
  go : ∀ r, f (L ++ r) = .ok (x, r)
  few : ∀ P t, L = P ++ t → t ≠ [] → f P = .error 4
/-- The same, where p bits are ahead, and whole bytes in all. -/
structure GetsA {α : Type} (p : Nat) (f : List Bool → Inf.Res α) (L : List Bool) (x : α) : Prop where
  go : ∀ r, (p + L.length + r.length) % 8 = 0 → f (L ++ r) = .ok (x, r)
  few : ∀ P t, L = P ++ t → t ≠ [] → (p + P.length) % 8 = 0 → f P = .error 4
/-- Its cap is too small for L. -/
def Caps {α : Type} (p : Nat) (f : List Bool → Inf.Res α) (L : List Bool) : Prop := ∀ r, (p + L.length + r.length) % 8 = 0 → f (L ++ r) = .error 22
theorem Gets.at {α : Type} {f : List Bool → Inf.Res α} {L : List Bool} {x : α} (h : Gets f L x) (p : Nat) : GetsA p f L x := ⟨fun r _ => h.go r, fun P t e ht _ => h.few P t e ht⟩
theorem Gets.bnd {α β : Type} {f : List Bool → Inf.Res α} {g : List Bool → Inf.Res β} {h : List Bool → Inf.Res β} {L M : List Bool} {x : α} {y : β} (hf : Gets f L x) (hg : Gets g M y)
    (hh1 : ∀ r r', f r = .ok (x, r') → h r = g r') (hh2 : ∀ r e, f r = .error e → h r = .error e) : Gets h (L ++ M) y where
  go r := by rw [List.append_assoc, hh1 _ _ (hf.go _)]; exact hg.go r
  few P t e ht := by
    rcases List.append_eq_append_iff.1 e with ⟨a, h1, h2⟩ | ⟨a, h1, h2⟩
    · subst h1
      rw [hh1 _ _ (hf.go _)]
      exact hg.few a t h2 ht
    · rcases List.eq_nil_or_concat a with ha | ha
      · subst ha
        rw [List.append_nil] at h1
        rw [List.nil_append] at h2
        have := hf.go []
        rw [List.append_nil, h1] at this
        rw [hh1 _ _ this]
        exact hg.few [] M rfl (by rw [← h2]; exact ht)
      · exact hh2 _ _ (hf.few P a h1 (by obtain ⟨b, c, rfl⟩ := ha; simp))
theorem GetsA.bnd {α β : Type} {p : Nat} {f : List Bool → Inf.Res α} {g : List Bool → Inf.Res β} {h : List Bool → Inf.Res β} {L M : List Bool} {x : α} {y : β} (hf : GetsA p f L x) (hg : GetsA (p + L.length) g M y)
    (hh1 : ∀ r r', f r = .ok (x, r') → h r = g r') (hh2 : ∀ r e, f r = .error e → h r = .error e) : GetsA p h (L ++ M) y where
  go r hr := by
    rw [List.length_append] at hr
    rw [List.append_assoc, hh1 _ _ (hf.go _ (by rw [List.length_append]; omega))]; exact hg.go r (by omega)
  few P t e ht hr := by
    rcases List.append_eq_append_iff.1 e with ⟨a, h1, h2⟩ | ⟨a, h1, h2⟩
    · subst h1
      rw [List.length_append] at hr
      rw [hh1 _ _ (hf.go _ (by omega))]
      exact hg.few a t h2 ht (by omega)
    · rcases List.eq_nil_or_concat a with ha | ha
      · subst ha
        rw [List.append_nil] at h1
        rw [List.nil_append] at h2
        have := hf.go [] (by rw [h1]; exact hr)
        rw [List.append_nil, h1] at this
        rw [hh1 _ _ this]
        exact hg.few [] M rfl (by rw [← h2]; exact ht) (by rw [h1]; exact hr)
      · exact hh2 _ _ (hf.few P a h1 (by obtain ⟨b, c, rfl⟩ := ha; simp) hr)
theorem Caps.fst {α β : Type} {p : Nat} {f : List Bool → Inf.Res α} {h : List Bool → Inf.Res β} {L : List Bool} (hf : Caps p f L) (M : List Bool) (hh2 : ∀ r e, f r = .error e → h r = .error e) : Caps p h (L ++ M) := by
  intro r hr
  rw [List.append_assoc]
  exact hh2 _ _ (hf _ (by rw [List.length_append] at hr ⊢; omega))
theorem GetsA.caps {α β : Type} {p : Nat} {f : List Bool → Inf.Res α} {g : List Bool → Inf.Res β} {h : List Bool → Inf.Res β} {L M : List Bool} {x : α} (hf : GetsA p f L x) (hg : Caps (p + L.length) g M)
    (hh1 : ∀ r r', f r = .ok (x, r') → h r = g r') : Caps p h (L ++ M) := by
  intro r hr
  rw [List.length_append] at hr
  rw [List.append_assoc, hh1 _ _ (hf.go _ (by rw [List.length_append]; omega))]; exact hg r (by omega)
theorem gets_numb (n k : Nat) (h : n < 2 ^ k) : Gets (Inf.numb k) (num n k) n where
  go r := by
    unfold Inf.numb
    rw [if_pos (by simp), List.take_append_of_le_length (by simp), List.drop_append_of_le_length (by simp), List.take_of_length_le (by simp), List.drop_of_length_le (by simp), val_num, Nat.mod_eq_of_lt h, List.nil_append]
  few P t e ht := by
    unfold Inf.numb
    have hl := congrArg List.length e
    rw [num_length, List.length_append] at hl
    have : 0 < t.length := List.length_pos_iff.2 ht
    rw [if_neg (by omega)]
/-- Nothing is read. -/
theorem gets_ok {α : Type} (x : α) : Gets (fun r => .ok (x, r)) [] x := ⟨fun _ => rfl, fun _ _ e ht => absurd (List.append_eq_nil_iff.1 e.symm).2 ht⟩
/-- What is too much stays so. -/
theorem rd_20 (zs : List Int) : ∀ f n c (bs t : List Bool), (rd zs f n c bs).2.1 = 20 → (rd zs f n c (bs ++ t)).2.1 = 20 := by
  intro f
  induction f with
  | zero => intro n c bs t _; rfl
  | succ f ih =>
    intro n c bs t h
    match bs with
    | [] => rw [rd] at h; cases h
    | b :: bs =>
      rw [List.cons_append]
      rw [rd] at h ⊢
      cases hs : sym zs (n + 1) (2 * c + b.toNat) with
      | some s => rw [hs] at h; cases h
      | none => rw [hs] at h; exact ih _ _ _ _ h
/-- A symbol's code. -/
def cod (zs : List Int) (s : Nat) : List Bool := bitsN (code zs s) (zs.getD s 0).toNat
theorem cod_length (zs : List Int) (s : Nat) : (cod zs s).length = (zs.getD s 0).toNat := bitsN_length _ _
theorem gets_symb {zs : List Int} (hg : good zs) (hk : kr zs ≤ 32768) (s : Nat) (hs : 0 < zs.getD s 0) : Gets (Inf.symb zs) (cod zs s) s where
  go r := by
    have h := rd_code hg hk s hs r
    unfold Inf.symb
    unfold cod
    rw [h]
    rw [if_pos rfl, List.drop_append_of_le_length (by rw [bitsN_length]; exact Nat.le_refl _), List.drop_of_length_le (by rw [bitsN_length]; exact Nat.le_refl _), List.nil_append]
  few P t e ht := by
    have h := rd_code hg hk s hs []
    rw [List.append_nil] at h
    have e2 : bitsN (code zs s) (zs.getD s 0).toNat = P ++ t := e
    rw [e2] at h
    have hl := congrArg List.length e2
    rw [bitsN_length, List.length_append] at hl
    have htl : 0 < t.length := List.length_pos_iff.2 ht
    unfold Inf.symb
    rcases rd_ends zs (deep zs) 0 0 P with h1 | h1 | h1
    · exfalso
      have htook := rd_took zs (deep zs) 0 0 P
      obtain ⟨q, hx⟩ : ∃ q, rd zs (deep zs) 0 0 P = q := ⟨_, rfl⟩
      obtain ⟨a, b, c⟩ := q
      rw [hx] at h1 htook
      simp only at h1 htook
      obtain ⟨rfl, h1⟩ := h1
      have := rd_local zs (deep zs) 0 0 P (P ++ t) c a (by rw [Nat.zero_add]; exact hx) (by rw [List.take_append_of_le_length (by omega)])
      rw [h, Nat.zero_add] at this
      have := congrArg (fun q => q.2.2) this
      simp only at this
      omega
    · rw [h1.1]; rfl
    · exfalso
      have := rd_20 zs (deep zs) 0 0 P t h1.1
      rw [h] at this
      cases this
end Go.Proofs.YtphdcgioeokfbaaDoor
