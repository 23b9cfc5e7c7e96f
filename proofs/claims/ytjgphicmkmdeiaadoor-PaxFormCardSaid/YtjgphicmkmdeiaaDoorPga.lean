/-
  What is read of bytes, byte by byte, as mathematics.
-/
import Derived.Test.YtjgphicmkmdeiaaDoorPnc
import Derived.Test.YtjgphicmkmdeiaaDoorPo
namespace Go.Proofs.YtjgphicmkmdeiaaDoor
namespace Px
open Go.Lib (nDigits nDigits_small nDigits_big nDigits_pos decDigits itoa)

theorem vl_ge (r : List UInt8) : ∀ q : List UInt8, vl q ≤ vl (q ++ r) := by
  induction r with
  | nil => intro q; rw [List.append_nil]; exact Nat.le_refl _
  | cons c t ih =>
    intro q
    have h1 := ih (q ++ [c])
    rw [vl_snoc] at h1
    have e : q ++ c :: t = q ++ [c] ++ t := by simp
    rw [e]; omega
theorem of_dig {c : UInt8} (h : isD c) : UInt8.ofNat (48 + (c.toNat - 48)) = c := by
  apply UInt8.toNat_inj.1
  have h1 := h.1
  have h2 := h.2
  rw [dig _ (by omega)]; omega
theorem head_dec (m : Nat) (h : 1 ≤ m) : (decDigits m).head? ≠ some 48 := by
  induction m using Nat.strongRecOn with
  | _ m ih =>
    by_cases h1 : m < 10
    · rw [dec_small h1]
      intro h2
      have h3 : UInt8.ofNat (48 + m) = 48 := by simpa using h2
      have h4 := congrArg UInt8.toNat h3
      rw [dig m h1] at h4
      have : (48 : UInt8).toNat = 48 := rfl
      omega
    · rw [dec_big h1]
      have := ih (m / 10) (by omega) (by omega)
      obtain ⟨c, t, hc, _⟩ := dec_cons (m / 10)
      rw [hc] at this ⊢
      exact this
theorem dec_vl (k : Nat) : ∀ p : List UInt8, p.length = k → (∀ c ∈ p, isD c) → p ≠ [] → p.head? ≠ some 48 → decDigits (vl p) = p ∧ 1 ≤ vl p := by
  induction k with
  | zero => intro p hl _ hne _; exact absurd (List.eq_nil_of_length_eq_zero hl) hne
  | succ k ih =>
    intro p hl hd hne h0
    rcases List.eq_nil_or_concat p with rfl | ⟨q, c, rfl⟩
    · exact absurd rfl hne
    · simp only [List.concat_eq_append] at hl hd hne h0 ⊢
      have hc := hd c (by simp)
      have hc1 := hc.1
      have hc2 := hc.2
      rw [vl_snoc]
      cases q with
      | nil =>
        have hv : vl [] = 0 := rfl
        rw [hv]
        have hne : c.toNat ≠ 48 := fun h => h0 (by
          have : c = 48 := UInt8.toNat_inj.1 h
          rw [this]; rfl)
        refine ⟨?_, by omega⟩
        rw [dec_small (by omega), Nat.mul_zero, Nat.zero_add, of_dig hc]; rfl
      | cons a t =>
        obtain ⟨h1, h2⟩ := ih (a :: t) (by simp at hl ⊢; omega) (fun x hx => hd x (by simp at hx ⊢; rcases hx with h | h; (exact .inl h); (exact .inr (.inl h)))) (by simp) (by simpa using h0)
        refine ⟨?_, by omega⟩
        rw [dec_big (by omega), show (10 * vl (a :: t) + (c.toNat - 48)) / 10 = vl (a :: t) by omega, show (10 * vl (a :: t) + (c.toNat - 48)) % 10 = c.toNat - 48 by omega, h1, of_dig hc]
theorem cut_app {c : UInt8} {p : List UInt8} (h : c ∉ p) (t : List UInt8) : cut c (p ++ t) = (p ++ (cut c t).1, (cut c t).2.1, (cut c t).2.2) := by
  induction p with
  | nil => rfl
  | cons x q ih =>
    rw [List.mem_cons, not_or] at h
    rw [List.cons_append, cut, if_neg (fun e => h.1 e.symm), ih h.2]
    rfl
theorem no32' {p : List UInt8} (h : ∀ c ∈ p, isD c) : (32 : UInt8) ∉ p := fun hc => by
  have := (h 32 hc).1
  exact absurd this (by decide)
theorem bad_told {s : List UInt8} (h : ∀ v, num (cut 32 s).1 = some v → v < 0 ∨ 16777216 < v ∨ v = 0) : one s = .error 5 := by
  have hr : rdSize s = .error 5 := by
    unfold rdSize
    rcases hn : num (cut 32 s).1 with _ | v
    · rfl
    · simp only
      by_cases hb : v < 0 ∨ 16777216 < v
      · rw [if_pos hb]
      · rw [if_neg hb]
        obtain rfl : v = 0 := by rcases h v hn with h1 | h1 | h1 <;> omega
        have e1 : isSz (0 : Int).toNat = false := by
          cases h1 : isSz (0 : Int).toNat with
          | false => rfl
          | true => have := isSz_le h1; simp at this
        have e2 : begSz (0 : Int).toNat = false := by
          unfold begSz
          rw [e1, Bool.false_or]
          cases h1 : isSz (10 * (0 : Int).toNat + 1) with
          | false => rfl
          | true => have := isSz_le h1; simp at this
        rw [e1, e2]
        simp
  unfold one
  rw [hr]
theorem r1 (t : List UInt8) : one (48 :: t) = .error 5 := bad_told fun v hv => by
  by_cases h0 : v < 0
  · exact .inl h0
  · right; right
    have h1 := num_nat hv (by omega)
    rw [cut, if_neg (by decide)] at h1
    rcases Nat.eq_zero_or_pos v.toNat with h2 | h2
    · omega
    · have := head_dec v.toNat h2
      rw [← h1] at this
      exact absurd rfl this
theorem r2 {p : List UInt8} {c : UInt8} (t : List UInt8) (hd : ∀ x ∈ p ++ [c], isD x) (hb : 16777216 < vl (p ++ [c])) : one (p ++ c :: t) = .error 5 := bad_told fun v hv => by
  by_cases h0 : v < 0
  · exact .inl h0
  · right; left
    have h1 := num_nat hv (by omega)
    have e : p ++ c :: t = (p ++ [c]) ++ t := by simp
    rw [e, cut_app (no32' hd)] at h1
    have h2 := vl_ge (cut 32 t).1 (p ++ [c])
    simp only at h1
    rw [h1, vl_dec] at h2
    omega
theorem r3 {c : UInt8} (t : List UInt8) (h : ¬ isD c) : one (c :: t) = .error 5 := bad_told fun v hv => by
  by_cases h0 : v < 0
  · exact .inl h0
  · exfalso
    have h1 := num_nat hv (by omega)
    obtain ⟨x, y, hx, hx1, hx2⟩ := dec_cons v.toNat
    rw [hx, cut] at h1
    split at h1
    · cases h1
    · simp only at h1
      injection h1 with h2 _
      exact h (by rw [h2]; exact ⟨hx1, hx2⟩)
theorem r6 {p : List UInt8} {c : UInt8} (t : List UInt8) (hp : p ≠ []) (hd : ∀ x ∈ p, isD x) (hc : ¬ isD c) (h32 : c ≠ 32) : one (p ++ c :: t) = .error 5 := bad_told fun v hv => by
  exfalso
  rw [cut_app (no32' hd)] at hv
  simp only at hv
  rw [cut, if_neg h32] at hv
  simp only at hv
  by_cases h0 : 0 ≤ v
  · have h1 := num_nat hv h0
    have := dec_digits v.toNat c (by rw [← h1]; simp)
    exact hc this
  · obtain ⟨h1, _⟩ := (num_iff _ v).1 hv
    obtain ⟨n, rfl⟩ : ∃ n : Nat, v = -(n : Int) := ⟨v.natAbs, by omega⟩
    rw [Go.Lib.itoa_neg n (by omega)] at h1
    cases p with
    | nil => exact hp rfl
    | cons a q =>
      injection h1 with h2 _
      have := (hd a (by simp)).1
      rw [h2] at this
      exact absurd this (by decide)
theorem r5 (n : Nat) (h2 : n ≤ 16777216) : one (decDigits n) = if begSz n = true then .error 4 else .error 5 := by
  have hr : rdSize (decDigits n) = if begSz n = true then .error 4 else .error 5 := by
    unfold rdSize
    rw [cut_no (no32 n)]
    simp only
    rw [num_dec n (by omega)]
    simp only
    rw [if_neg (by omega), if_neg (by simp), Int.toNat_natCast]
  unfold one
  rw [hr]
  by_cases hb : begSz n = true
  · rw [if_pos hb, if_pos hb]
  · rw [if_neg hb, if_neg hb]
theorem r7 (n : Nat) (b : List UInt8) (h2 : n ≤ 16777216) : one (decDigits n ++ 32 :: b) = if isSz n = true then (match rdRec b (n - nDigits n - 1) with | .error e => .error e | .ok r => .ok (r, (decDigits n ++ 32 :: b).drop n)) else .error 5 := by
  have hl : (decDigits n ++ 32 :: b).length - b.length = nDigits n + 1 := by simp only [List.length_append, List.length_cons, dec_len]; omega
  have hr : rdSize (decDigits n ++ 32 :: b) = if isSz n = true then .ok (n, b) else .error 5 := by
    unfold rdSize
    rw [cut_at b (no32 n)]
    simp only
    rw [num_dec n (by omega)]
    simp only
    rw [if_neg (by omega), if_pos trivial, Int.toNat_natCast]
  unfold one
  rw [hr]
  by_cases hs : isSz n = true
  · rw [if_pos hs, if_pos hs]
    simp only
    rw [hl, show n - (nDigits n + 1) = n - nDigits n - 1 by omega]
    cases rdRec b (n - nDigits n - 1) <;> rfl
  · rw [if_neg hs, if_neg hs]
theorem okB_61 {l : List UInt8} (h : ∀ c ∈ l, okB c = true) : (61 : UInt8) ∉ l := fun hc => by
  have := h 61 hc
  simp [okB] at this
theorem okK_of {k : List UInt8} (h0 : k ≠ []) (h1 : k.length ≤ 255) (h2 : ∀ c ∈ k, okB c = true) : okK k = true := by
  unfold okK
  simp only [Bool.and_eq_true, Bool.not_eq_true', decide_eq_true_eq, List.all_eq_true, List.isEmpty_eq_false_iff]
  exact ⟨h0, h1, h2⟩
/-- How far a key is read. -/
structure Kin (b : List UInt8) (m i : Nat) : Prop where
  ok : ∀ c ∈ b.take i, okB c = true
  le : i ≤ 255
  len : i ≤ b.length
  room : i = 0 ∨ i + 1 < m
theorem Kin.zero (b : List UInt8) (m : Nat) : Kin b m 0 := ⟨by simp, by omega, Nat.zero_le _, .inl rfl⟩
theorem Kin.succ {b : List UInt8} {m i : Nat} (h : Kin b m i) (hi : i < b.length) (h1 : okB b[i] = true) (h2 : i + 1 ≤ 255) (h3 : i + 2 < m) : Kin b m (i + 1) :=
  ⟨fun c hc => by
    rw [take_snoc b i hi] at hc
    rcases List.mem_append.1 hc with h4 | h4
    · exact h.ok c h4
    · rw [List.mem_singleton] at h4; subst h4; exact h1, h2, hi, .inr (by omega)⟩
theorem Kin.end' {b : List UInt8} {m : Nat} (h : Kin b m b.length) (hm : 3 ≤ m) : rdRec b m = .error 4 := by
  have hlt : b.length < m - 1 := by rcases h.room with h1 | h1 <;> omega
  have ht : b.take (m - 1) = b := List.take_of_length_le (by omega)
  have hok := h.ok
  rw [List.take_length] at hok
  unfold rdRec
  rw [ht, cut_no (okB_61 hok)]
  simp only
  have hb : begun b false (m - 1) = true := by
    unfold begun
    cases hbe : b with
    | nil => rw [hbe] at hlt; simp at hlt ⊢; omega
    | cons x t =>
      rw [← hbe, decide_eq_true hlt, okK_of (by rw [hbe]; simp) h.le hok]; simp
  rw [hb, if_neg (by simp), if_pos (by omega)]
theorem Kin.bad {b : List UInt8} {m i : Nat} (h : Kin b m i) (hm : 3 ≤ m) (hi : i < b.length) (h61 : b[i] ≠ 61) (hn : ¬ (okB b[i] = true ∧ i + 1 ≤ 255 ∧ i + 2 < m)) : rdRec b m = .error 5 := by
  have hno : (61 : UInt8) ∉ b.take i ++ [b[i]] := by
    intro hc
    rcases List.mem_append.1 hc with h1 | h1
    · exact okB_61 h.ok h1
    · rw [List.mem_singleton] at h1; exact h61 h1.symm
  have him : i + 1 ≤ m - 1 := by rcases h.room with h1 | h1 <;> omega
  have ht : b.take (m - 1) = (b.take i ++ [b[i]]) ++ (b.drop (i + 1)).take (m - 1 - (i + 1)) := by
    rw [← take_snoc b i hi]
    conv => lhs; rw [← List.take_append_drop (i + 1) b]
    rw [List.take_append]
    have e1 : (b.take (i + 1)).length = i + 1 := by rw [List.length_take]; omega
    rw [e1, List.take_of_length_le (by omega)]
  unfold rdRec
  rw [ht, cut_app hno]
  simp only
  obtain ⟨u, hu⟩ : ∃ u, cut 61 ((b.drop (i + 1)).take (m - 1 - (i + 1))) = u := ⟨_, rfl⟩
  rw [hu]
  have hKl : (b.take i ++ [b[i]] ++ u.1).length = i + 1 + u.1.length := by
    simp only [List.length_append, List.length_cons, List.length_nil, List.length_take]; omega
  have hb : begun (b.take i ++ [b[i]] ++ u.1) u.2.2 (m - 1) = false := by
    by_cases h2 : i + 2 < m
    · have hk : okK (b.take i ++ [b[i]] ++ u.1) = false := by
        cases hk : okK (b.take i ++ [b[i]] ++ u.1) with
        | false => rfl
        | true =>
          exfalso
          obtain ⟨_, k2, k3⟩ := okK_ne hk
          exact hn ⟨k3 _ (List.mem_append_left _ (List.mem_append_right _ (List.mem_singleton.2 rfl))), by omega, h2⟩
      unfold begun
      rw [hk]
      have he : (b.take i ++ [b[i]] ++ u.1).isEmpty = false := by
        rw [List.isEmpty_eq_false_iff]
        intro h9
        have := congrArg List.length h9
        rw [hKl] at this
        simp at this
      rw [he]; simp
    · have hi2 : i + 1 = m - 1 := by rcases h.room with h1 | h1 <;> omega
      have hu0 : u = ([], [], false) := by rw [← hu, hi2, Nat.sub_self]; rfl
      rw [hu0] at hKl ⊢
      unfold begun
      rw [hKl]
      simp [hi2]
  rw [hb, if_pos rfl]
theorem keq0 (t : List UInt8) (m : Nat) (hm : 3 ≤ m) : rdRec (61 :: t) m = .error 5 := by
  obtain ⟨k, rfl⟩ : ∃ k, m = k + 2 := ⟨m - 2, by omega⟩
  unfold rdRec
  have e : (61 :: t).take (k + 2 - 1) = 61 :: t.take k := rfl
  rw [e, cut, if_pos rfl]
  simp only
  have hb : begun [] true (k + 2 - 1) = false := rfl
  rw [hb, if_pos rfl]
theorem Kin.eq' {b : List UInt8} {m i : Nat} (h : Kin b m i) (h1 : 1 ≤ i) (hi : i < b.length) (h61 : b[i] = 61) :
    rdRec b m = if b.length < m then .error 4 else if b.getD (m - 1) 0 ≠ 10 then .error 5 else .ok (b.take i, (b.drop (i + 1)).take (m - 1 - (i + 1))) := by
  have him : i + 1 ≤ m - 1 := by rcases h.room with h2 | h2 <;> omega
  have ht : b.take (m - 1) = b.take i ++ 61 :: (b.drop (i + 1)).take (m - 1 - (i + 1)) := by
    have e : b.take i ++ 61 :: (b.drop (i + 1)).take (m - 1 - (i + 1)) = (b.take i ++ [b[i]]) ++ (b.drop (i + 1)).take (m - 1 - (i + 1)) := by rw [h61]; simp
    rw [e, ← take_snoc b i hi]
    conv => lhs; rw [← List.take_append_drop (i + 1) b]
    rw [List.take_append]
    have e1 : (b.take (i + 1)).length = i + 1 := by rw [List.length_take]; omega
    rw [e1, List.take_of_length_le (by omega)]
  have hk : okK (b.take i) = true := okK_of (by intro hc; have h9 := congrArg List.length hc; rw [List.length_take, List.length_nil] at h9; omega) (by rw [List.length_take]; have := h.le; omega) h.ok
  unfold rdRec
  rw [ht, cut_at _ (okB_61 h.ok)]
  simp only
  have hb : begun (b.take i) true (m - 1) = true := by unfold begun; rw [hk]; simp
  rw [hb, if_neg (by simp)]
end Px
end Go.Proofs.YtjgphicmkmdeiaaDoor
