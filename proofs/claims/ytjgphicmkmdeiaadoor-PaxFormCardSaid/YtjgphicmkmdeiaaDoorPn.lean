/-
  Records' texts, as mathematics: numbers' texts, what is read of bytes, there and back.
-/
import Derived.Test.YtjgphicmkmdeiaaDoorPa
import Derived.Test.YtjgphicmkmdeiaaDoorPm
namespace Go.Proofs.YtjgphicmkmdeiaaDoor
namespace Px
open Go.Lib (nDigits nDigits_small nDigits_big nDigits_pos nDigits_unique lt_pow_nDigits decDigits itoa parseIntB parseUintM parseUintB signlessC signedC)

theorem dig (d : Nat) (h : d < 10) : (UInt8.ofNat (48 + d)).toNat = 48 + d := by rw [UInt8.toNat_ofNat']; omega
theorem dec_small {n : Nat} (h : n < 10) : decDigits n = [UInt8.ofNat (48 + n)] := by rw [decDigits, dif_pos h]
theorem dec_big {n : Nat} (h : ¬ n < 10) : decDigits n = decDigits (n / 10) ++ [UInt8.ofNat (48 + n % 10)] := by rw [decDigits, dif_neg h]
theorem dec_digits (n : Nat) : ∀ c ∈ decDigits n, 48 ≤ c.toNat ∧ c.toNat ≤ 57 := by
  induction n using Nat.strongRecOn with
  | _ n ih =>
    by_cases h : n < 10
    · rw [dec_small h]; intro c hc; rw [List.mem_singleton] at hc; subst hc; rw [dig n h]; omega
    · rw [dec_big h]; intro c hc
      rcases List.mem_append.1 hc with hc | hc
      · exact ih _ (by omega) c hc
      · rw [List.mem_singleton] at hc; subst hc; rw [dig _ (by omega)]; omega
theorem dec_len (n : Nat) : (decDigits n).length = nDigits n := Go.Lib.decDigits_length n
theorem dec_cons (n : Nat) : ∃ c t, decDigits n = c :: t ∧ 48 ≤ c.toNat ∧ c.toNat ≤ 57 := by
  cases h : decDigits n with
  | nil => have := dec_len n; rw [h] at this; have := nDigits_pos n; simp at *; omega
  | cons c t => exact ⟨c, t, rfl, by have := dec_digits n c (by rw [h]; simp); exact this⟩
theorem dec_no (n : Nat) (c : UInt8) (h : c.toNat < 48 ∨ 57 < c.toNat) : c ∉ decDigits n := fun hc => by
  have := dec_digits n c hc; omega
theorem pm_append (M u : Nat) (l r : List UInt8) : ∀ acc, parseUintM M acc l = .ok u → parseUintM M acc (l ++ r) = parseUintM M u r := by
  induction l with
  | nil => intro acc h; rw [parseUintM] at h; cases h; rfl
  | cons c t ih =>
    intro acc h
    rw [parseUintM] at h
    rw [List.cons_append, parseUintM]
    split
    · rename_i h1
      rw [if_pos h1] at h
      split
      · rename_i h2; rw [if_pos h2] at h; cases h
      · rename_i h2
        rw [if_neg h2] at h
        split
        · rename_i h3; rw [if_pos h3] at h; cases h
        · rename_i h3
          rw [if_neg h3] at h
          exact ih _ h
    · rename_i h1; rw [if_neg h1] at h; cases h
theorem pm_dec (n : Nat) (h : n < 18446744073709551616) : parseUintM (2 ^ 64 - 1) 0 (decDigits n) = .ok n := by
  induction n using Nat.strongRecOn with
  | _ n ih =>
    by_cases h1 : n < 10
    · rw [dec_small h1, parseUintM, dig n h1, if_pos (by omega), if_neg (by omega), if_neg (by omega), parseUintM]
      congr 1; omega
    · rw [dec_big h1, pm_append _ _ _ _ _ (ih (n / 10) (by omega) (by omega))]
      rw [parseUintM, dig _ (by omega), if_pos (by omega), if_neg (by omega), if_neg (by omega), parseUintM]
      congr 1; omega
theorem pu_dec (n : Nat) (h : n < 18446744073709551616) : parseUintB 64 (decDigits n) = .ok n := by
  obtain ⟨c, t, h1, _⟩ := dec_cons n
  unfold parseUintB
  rw [if_neg (by rw [h1]; simp)]
  exact pm_dec n h
theorem num_itoa (v : Int) (h0 : -9223372036854775808 ≤ v) (h1 : v < 9223372036854775808) : num (itoa v) = some v := by
  have key : parseIntB 64 (itoa v) = .ok v := by
    have e63 : (2 : Nat) ^ (64 - 1) = 9223372036854775808 := by decide
    by_cases hv : 0 ≤ v
    · obtain ⟨n, rfl⟩ : ∃ n : Nat, v = n := ⟨v.toNat, by omega⟩
      rw [Go.Lib.itoa_nonneg]
      obtain ⟨c, t, h2, h3, h4⟩ := dec_cons n
      have hp := pu_dec n (by omega)
      rw [h2] at hp ⊢
      rw [Go.Lib.parseIntB_plain 64 c t (by omega) (by omega), hp, e63, signlessC, if_neg (by omega)]
    · obtain ⟨n, rfl⟩ : ∃ n : Nat, v = -(n : Int) := ⟨v.natAbs, by omega⟩
      rw [Go.Lib.itoa_neg n (by omega), Go.Lib.parseIntB_minus, pu_dec n (by omega), e63, signedC, if_neg (by omega)]
  unfold num
  rw [key]
  simp
theorem num_iff (s : List UInt8) (v : Int) : num s = some v ↔ s = itoa v ∧ -9223372036854775808 ≤ v ∧ v < 9223372036854775808 := by
  constructor
  · intro h
    unfold num at h
    rcases hp : parseIntB 64 s with u | _ | _
    · rw [hp] at h
      simp only at h
      split at h
      · rename_i he
        obtain rfl : u = v := by simpa using h
        have hb := Go.Lib.parseIntB_bounds hp
        exact ⟨he.symm, by have := hb.1; simpa using this, by have := hb.2; simpa using this⟩
      · cases h
    · rw [hp] at h; cases h
    · rw [hp] at h; cases h
  · rintro ⟨rfl, h0, h1⟩
    exact num_itoa v h0 h1
theorem num_dec (n : Nat) (h : n < 9223372036854775808) : num (decDigits n) = some (n : Int) := by
  rw [← Go.Lib.itoa_nonneg]; exact num_itoa n (by omega) (by omega)
theorem num_nat {s : List UInt8} {v : Int} (h : num s = some v) (h0 : 0 ≤ v) : s = decDigits v.toNat := by
  have := ((num_iff s v).1 h).1
  rw [this]
  obtain ⟨n, rfl⟩ : ∃ n : Nat, v = n := ⟨v.toNat, by omega⟩
  rw [Go.Lib.itoa_nonneg]; rfl

/-- What stands ahead of the first c, what behind it, and whether there is one. -/
def cut (c : UInt8) : List UInt8 → List UInt8 × List UInt8 × Bool
  | [] => ([], [], false)
  | x :: t => if x = c then ([], t, true) else (x :: (cut c t).1, (cut c t).2.1, (cut c t).2.2)
theorem cut_no {c : UInt8} {l : List UInt8} (h : c ∉ l) : cut c l = (l, [], false) := by
  induction l with
  | nil => rfl
  | cons x t ih =>
    rw [List.mem_cons, not_or] at h
    rw [cut, if_neg (fun e => h.1 e.symm), ih h.2]
theorem cut_at {c : UInt8} {a : List UInt8} (b : List UInt8) (h : c ∉ a) : cut c (a ++ c :: b) = (a, b, true) := by
  induction a with
  | nil => rw [List.nil_append, cut, if_pos rfl]
  | cons x t ih =>
    rw [List.mem_cons, not_or] at h
    rw [List.cons_append, cut, if_neg (fun e => h.1 e.symm), ih h.2]
theorem cut_cases (c : UInt8) (l : List UInt8) : (c ∉ l ∧ cut c l = (l, [], false)) ∨ ∃ a b, c ∉ a ∧ l = a ++ c :: b ∧ cut c l = (a, b, true) := by
  induction l with
  | nil => exact .inl ⟨by simp, rfl⟩
  | cons x t ih =>
    by_cases hx : x = c
    · subst hx; exact .inr ⟨[], t, by simp, rfl, by rw [cut, if_pos rfl]⟩
    · rcases ih with ⟨h1, h2⟩ | ⟨a, b, h1, h2, h3⟩
      · exact .inl ⟨by rw [List.mem_cons, not_or]; exact ⟨fun e => hx e.symm, h1⟩, by rw [cut, if_neg hx, h2]⟩
      · exact .inr ⟨x :: a, b, by rw [List.mem_cons, not_or]; exact ⟨fun e => hx e.symm, h1⟩, by rw [h2]; rfl, by rw [cut, if_neg hx, h3]⟩

abbrev Rec := List UInt8 × List UInt8
def okB (c : UInt8) : Bool := !(c == 0 || (c == 61 || c == 10))
def okK (k : List UInt8) : Bool := !k.isEmpty && (decide (k.length ≤ 255) && k.all okB)
def sz (r : Rec) : Nat := if okK r.1 then wd (r.1.length + r.2.length + 3) else 0
def txt (r : Rec) : List UInt8 := decDigits (sz r) ++ 32 :: (r.1 ++ 61 :: (r.2 ++ [10]))
def txts : List Rec → List UInt8
  | [] => []
  | r :: t => txt r ++ txts t
def rdSize (s : List UInt8) : Except Nat (Nat × List UInt8) :=
  match num (cut 32 s).1 with
  | none => .error 5
  | some n => if n < 0 ∨ 16777216 < n then .error 5
    else if (cut 32 s).2.2 = true then (if isSz n.toNat = true then .ok (n.toNat, (cut 32 s).2.1) else .error 5)
    else if begSz n.toNat = true then .error 4 else .error 5
/-- May these bytes begin what stands behind a text's blank? -/
def begun (k : List UInt8) (parted : Bool) (e : Nat) : Bool := (!parted && (decide (k.length < e) && (k.isEmpty || okK k))) || (parted && okK k)
def rdRec (s : List UInt8) (many : Nat) : Except Nat Rec :=
  if begun (cut 61 (s.take (many - 1))).1 (cut 61 (s.take (many - 1))).2.2 (many - 1) = false then .error 5
  else if s.length < many then .error 4
  else if s.getD (many - 1) 0 ≠ 10 then .error 5
  else .ok ((cut 61 (s.take (many - 1))).1, (cut 61 (s.take (many - 1))).2.1)
def one (s : List UInt8) : Except Nat (Rec × List UInt8) :=
  match rdSize s with
  | .error e => .error e
  | .ok (n, behind) => match rdRec behind (n - (s.length - behind.length)) with
    | .error e => .error e
    | .ok r => .ok (r, s.drop n)
def getF : Nat → List UInt8 → Except Nat (List Rec)
  | 0, _ => .ok []
  | f + 1, s => if s = [] then .ok [] else match one s with
    | .error e => .error e
    | .ok (r, rest) => match getF f rest with
      | .error e => .error e
      | .ok l => .ok (r :: l)
theorem okK_ne {k : List UInt8} (h : okK k = true) : k ≠ [] ∧ k.length ≤ 255 ∧ ∀ c ∈ k, okB c = true := by
  unfold okK at h
  simp only [Bool.and_eq_true, Bool.not_eq_true', decide_eq_true_eq, List.all_eq_true, List.isEmpty_eq_false_iff] at h
  exact ⟨h.1, h.2.1, h.2.2⟩
theorem okK_no {k : List UInt8} (h : okK k = true) : (61 : UInt8) ∉ k := fun hc => by
  have := (okK_ne h).2.2 61 hc
  simp [okB] at this
theorem sz_ok {r : Rec} (h : okK r.1 = true) : sz r = wd (r.1.length + r.2.length + 3) := by unfold sz; rw [if_pos h]
theorem sz_fix {r : Rec} (h : okK r.1 = true) : sz r = r.1.length + r.2.length + 3 + nDigits (sz r) := by
  rw [sz_ok h]; exact wd_fix _
theorem sz_zero (r : Rec) : sz r = 0 ↔ okK r.1 = false := by
  unfold sz
  split
  · rename_i h
    have := wd_ge (r.1.length + r.2.length + 3)
    simp [h]; omega
  · rename_i h
    simp at h
    simp [h]
theorem isSz_sz {r : Rec} (h : okK r.1 = true) (hm : sz r ≤ 16777216) : isSz (sz r) = true := by
  have hf := sz_fix h
  have hk : 1 ≤ r.1.length := by have := (okK_ne h).1; cases hr : r.1 with | nil => exact absurd hr this | cons _ _ => simp
  unfold isSz
  simp only [Bool.and_eq_true, decide_eq_true_eq]
  refine ⟨by omega, hm, ?_⟩
  have : sz r - nDigits (sz r) = r.1.length + r.2.length + 3 := by omega
  rw [this, ← sz_ok h]
theorem txt_len {r : Rec} (h : okK r.1 = true) : (txt r).length = sz r := by
  have hf := sz_fix h
  unfold txt
  simp only [List.length_append, List.length_cons, List.length_nil, dec_len]
  omega
theorem no32 (n : Nat) : (32 : UInt8) ∉ decDigits n := dec_no n 32 (by decide)
theorem rdSize_txt {r : Rec} (h : okK r.1 = true) (hm : sz r ≤ 16777216) (X : List UInt8) : rdSize (decDigits (sz r) ++ 32 :: X) = .ok (sz r, X) := by
  unfold rdSize
  rw [cut_at X (no32 _)]
  simp only
  rw [num_dec _ (by omega)]
  simp only
  rw [if_neg (by omega), if_pos trivial, Int.toNat_natCast, if_pos (isSz_sz h hm)]
theorem rdRec_txt {r : Rec} (h : okK r.1 = true) (rest : List UInt8) : rdRec (r.1 ++ 61 :: (r.2 ++ 10 :: rest)) (r.1.length + r.2.length + 2) = .ok r := by
  have hlen : (r.1 ++ 61 :: r.2).length = r.1.length + r.2.length + 1 := by simp; omega
  have e : r.1 ++ 61 :: (r.2 ++ 10 :: rest) = (r.1 ++ 61 :: r.2) ++ 10 :: rest := by simp
  have ht : (r.1 ++ 61 :: (r.2 ++ 10 :: rest)).take (r.1.length + r.2.length + 2 - 1) = r.1 ++ 61 :: r.2 := by
    rw [e, List.take_append_of_le_length (by rw [hlen]; omega), List.take_of_length_le (by rw [hlen]; omega)]
  unfold rdRec
  rw [ht, cut_at r.2 (okK_no h)]
  simp only
  have hb : begun r.1 true (r.1.length + r.2.length + 2 - 1) = true := by unfold begun; simp [h]
  have hg : ((r.1 ++ 61 :: r.2) ++ 10 :: rest).getD (r.1.length + r.2.length + 2 - 1) 0 = 10 := by
    rw [List.getD_eq_getElem?_getD, List.getElem?_append_right (by rw [hlen]; omega), hlen, show r.1.length + r.2.length + 2 - 1 - (r.1.length + r.2.length + 1) = 0 by omega]
    rfl
  rw [hb, if_neg (by simp), if_neg (by simp; omega), e, hg, if_neg (by simp)]
theorem one_txt {r : Rec} (h : okK r.1 = true) (hm : sz r ≤ 16777216) (rest : List UInt8) : one (txt r ++ rest) = .ok (r, rest) := by
  have hf := sz_fix h
  have hl := txt_len h
  have e : txt r ++ rest = decDigits (sz r) ++ 32 :: (r.1 ++ 61 :: (r.2 ++ 10 :: rest)) := by unfold txt; simp
  unfold one
  rw [e, rdSize_txt h hm]
  simp only
  have e2 : sz r - ((decDigits (sz r) ++ 32 :: (r.1 ++ 61 :: (r.2 ++ 10 :: rest))).length - (r.1 ++ 61 :: (r.2 ++ 10 :: rest)).length) = r.1.length + r.2.length + 2 := by
    simp only [List.length_append, List.length_cons, dec_len]
    omega
  rw [e2, rdRec_txt h, ← e]
  simp only
  rw [List.drop_append_of_le_length (by omega), List.drop_of_length_le (by omega), List.nil_append]
end Px
end Go.Proofs.YtjgphicmkmdeiaaDoor
