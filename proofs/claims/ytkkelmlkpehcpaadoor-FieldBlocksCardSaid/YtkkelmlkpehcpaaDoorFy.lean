/-
  Blocks as mathematics: fields that are set, a sealed block's check.
-/
import Derived.Test.YtkkelmlkpehcpaaDoorFe
namespace Go.Proofs.YtkkelmlkpehcpaaDoor
open Go.RowKit

theorem setF_get (l : List UInt8) (p : Nat) (vs : List UInt8) (h : p + vs.length ≤ l.length) (i : Nat) : (setF l p vs)[i]? = if i < p then l[i]? else if i < p + vs.length then vs[i - p]? else l[i]? := by
  unfold setF
  by_cases h1 : i < p
  · rw [if_pos h1, List.getElem?_append_left (by simp; omega), List.getElem?_append_left (by simp; omega), List.getElem?_take, if_pos h1]
  · rw [if_neg h1]
    by_cases h2 : i < p + vs.length
    · rw [if_pos h2, List.getElem?_append_left (by simp; omega), List.getElem?_append_right (by simp; omega)]
      congr 1
      simp; omega
    · rw [if_neg h2, List.getElem?_append_right (by simp; omega), List.getElem?_drop]
      congr 1
      simp; omega
theorem fpart_get (l : List UInt8) (p n i : Nat) : (fpart l p n)[i]? = if i < n then l[p + i]? else none := by
  unfold fpart
  rw [List.getElem?_take]
  split
  · rw [List.getElem?_drop]
  · rfl
theorem setF_setF (l : List UInt8) (p : Nat) (a b : List UInt8) (hab : a.length = b.length) (h : p + a.length ≤ l.length) : setF (setF l p a) p b = setF l p b := by
  apply List.ext_getElem?
  intro i
  rw [setF_get _ p b (by rw [setF_length l p a h]; omega), setF_get l p a h, setF_get l p b (by omega)]
  split
  · rfl
  · split
    · rfl
    · rw [if_neg (by omega)]
theorem fpart_setF (l : List UInt8) (p : Nat) (vs : List UInt8) (h : p + vs.length ≤ l.length) : fpart (setF l p vs) p vs.length = vs := by
  apply List.ext_getElem?
  intro i
  rw [fpart_get, setF_get l p vs h]
  split
  · rw [if_neg (by omega), if_pos (by omega), Nat.add_sub_cancel_left]
  · rw [List.getElem?_eq_none (by omega)]
theorem fpart_other (l : List UInt8) (p q n : Nat) (vs : List UInt8) (h : p + vs.length ≤ l.length) (hq : q + n ≤ p ∨ p + vs.length ≤ q) : fpart (setF l p vs) q n = fpart l q n := by
  apply List.ext_getElem?
  intro i
  rw [fpart_get, fpart_get, setF_get l p vs h]
  split
  · split
    · rfl
    · rw [if_neg (by omega)]
  · rfl
theorem fpart_set (l : List UInt8) (k : Nat) (c : UInt8) (q n : Nat) (hq : k < q ∨ q + n ≤ k) : fpart (l.set k c) q n = fpart l q n := by
  apply List.ext_getElem?
  intro i
  rw [fpart_get, fpart_get]
  split
  · rw [List.getElem?_set_ne (by omega)]
  · rfl
theorem setF_set (l : List UInt8) (k : Nat) (c : UInt8) (p : Nat) (vs : List UInt8) (h : p + vs.length ≤ l.length) (hk : k < p ∨ p + vs.length ≤ k) : setF (l.set k c) p vs = (setF l p vs).set k c := by
  apply List.ext_getElem?
  intro i
  rw [setF_get _ p vs (by simpa using h), List.getElem?_set, List.getElem?_set, setF_length l p vs h, setF_get l p vs h]
  by_cases hi : k = i
  · subst hi
    simp only [if_true]
    split
    · rfl
    · rw [if_neg (by omega)]
  · rw [if_neg hi, if_neg hi]
theorem sumB_set (l : List UInt8) (k : Nat) (c : UInt8) (hk : k < l.length) : sumB (l.set k c) + (l.getD k 0).toNat = sumB l + c.toNat := by
  induction l generalizing k with
  | nil => simp at hk
  | cons x t ih =>
    cases k with
    | zero => simp [sumB]; omega
    | succ k =>
      have := ih k (by simpa using hk)
      simp [sumB] at this ⊢; omega
theorem sumF_set (l : List UInt8) (hl : l.length = 512) (k : Nat) (c : UInt8) (hk : k < 512) (hk2 : k < 148 ∨ 156 ≤ k) : sumF (l.set k c) + (l.getD k 0).toNat = sumF l + c.toNat := by
  have hb : 148 + blanks.length ≤ l.length := by rw [hl, blanks_len]; omega
  unfold sumF
  rw [setF_set l k c 148 blanks hb (by rw [blanks_len]; omega)]
  have := sumB_set (setF l 148 blanks) k c (by rw [setF_length l 148 blanks hb]; omega)
  have e : (setF l 148 blanks).getD k 0 = l.getD k 0 := by
    rw [List.getD_eq_getElem?_getD, List.getD_eq_getElem?_getD, setF_get l 148 blanks hb]
    split
    · rfl
    · rw [if_neg (by rw [blanks_len]; omega)]
  rw [e] at this
  exact this
theorem sumF_setF (l : List UInt8) (hl : l.length = 512) (vs : List UInt8) (hv : vs.length = 8) : sumF (setF l 148 vs) = sumF l := by
  unfold sumF
  rw [setF_setF l 148 vs blanks (by rw [hv, blanks_len]) (by omega)]
theorem sealF_length (l : List UInt8) (hl : l.length = 512) : (sealF l).length = 512 := by
  unfold sealF
  rw [setF_length _ _ _ (by rw [chkL_length]; omega)]; exact hl
theorem sealF_twice (l : List UInt8) (hl : l.length = 512) : sealF (sealF l) = sealF l := by
  unfold sealF
  rw [sumF_setF l hl _ (chkL_length _), setF_setF l 148 _ _ rfl (by rw [chkL_length]; omega)]
theorem rdO_pad (k n : Nat) (acc : Int) (r : List UInt8) : Fx.rdO acc (Fx.pad k n ++ (0 :: r)) = some (acc * 8 ^ k + ((n % 8 ^ k : Nat) : Int)) := by
  induction k generalizing acc with
  | zero => simp [Fx.pad, Fx.rdO, Nat.mod_one]
  | succ k ih =>
    obtain ⟨d, hd⟩ : ∃ d, d = n / 8 ^ k % 8 := ⟨_, rfl⟩
    have hd8 : d < 8 := by omega
    have e : (UInt8.ofNat (48 + d)).toNat = 48 + d := by rw [UInt8.toNat_ofNat']; omega
    rw [Fx.pad_cons, ← hd, List.cons_append, Fx.rdO, if_neg, if_neg (by rw [e]; omega), ih, e]
    · congr 1
      have h1 : n % 8 ^ (k + 1) = n % 8 ^ k + 8 ^ k * d := by rw [hd, Nat.mod_pow_succ]
      rw [h1]
      simp only [Int.natCast_add, Int.natCast_mul, Int.natCast_pow, Int.pow_succ]
      have : ((8 : Nat) : Int) = 8 := rfl
      rw [this]
      generalize (8 : Int) ^ k = P
      have e2 : (48 : Nat) + (d : Int) - 48 = (d : Int) := by omega
      rw [e2, Int.add_mul, Int.mul_assoc, Int.mul_comm 8 P, Int.mul_comm (d : Int) P]
      omega
    · rintro (h | h)
      · have := congrArg UInt8.toNat h
        rw [e] at this
        have h32 : (32 : UInt8).toNat = 32 := rfl
        omega
      · have := congrArg UInt8.toNat h
        rw [e] at this
        have h0 : (0 : UInt8).toNat = 0 := rfl
        omega
theorem skip_pad (k n : Nat) (hk : 0 < k) (r : List UInt8) : Fx.skip (Fx.pad k n ++ r) = Fx.pad k n ++ r ∧ ∃ b t, Fx.pad k n ++ r = b :: t ∧ b.toNat < 128 := by
  obtain ⟨k, rfl⟩ : ∃ j, k = j + 1 := ⟨k - 1, by omega⟩
  obtain ⟨d, hd⟩ : ∃ d, d = n / 8 ^ k % 8 := ⟨_, rfl⟩
  have e : (UInt8.ofNat (48 + d)).toNat = 48 + d := by rw [UInt8.toNat_ofNat']; omega
  rw [Fx.pad_cons, ← hd, List.cons_append]
  refine ⟨?_, _, _, rfl, by rw [e]; omega⟩
  rw [Fx.skip, if_neg]
  intro h
  have := congrArg UInt8.toNat h
  rw [e] at this
  have h32 : (32 : UInt8).toNat = 32 := rfl
  omega
/-- Number of a field in octal. -/
theorem num_pad (k n : Nat) (hk : 0 < k) (r : List UInt8) (hl : k + 1 + r.length ≤ 20) (hn : n < 8 ^ k) : Fx.num (Fx.pad k n ++ (0 :: r)) = ((n : Int), 0) := by
  obtain ⟨h1, b, t, h2, h3⟩ := skip_pad k n hk (0 :: r)
  have h4 := rdO_pad k n 0 r
  rw [Nat.mod_eq_of_lt hn] at h4
  have hlen : (Fx.pad k n ++ (0 :: r)).length = k + (r.length + 1) := by simp
  rw [h2] at h1 h4 hlen ⊢
  unfold Fx.num
  rw [if_neg (by omega)]
  simp only
  rw [if_neg (by omega), h1, h4]
  simp
theorem num_chk (n : Nat) (hn : n < 262144) : Fx.num (chkL n) = ((n : Int), 0) := num_pad 6 n (by omega) [32] (by simp) (by simpa using hn)
/-- A block whose chksum field is laid. -/
theorem check_laid (l : List UInt8) (hl : l.length = 512) (n : Nat) (hn : n < 262144) (hm : magicB l = true) : checkF (setF l 148 (chkL n)) = if n = sumF l then 0 else 21 := by
  have h8 := chkL_length n
  have h1 : fpart (setF l 148 (chkL n)) 148 8 = chkL n := by
    have := fpart_setF l 148 (chkL n) (by omega)
    rwa [h8] at this
  have h2 : magicB (setF l 148 (chkL n)) = true := by
    unfold magicB at hm ⊢
    rw [fpart_other l 148 257 6 (chkL n) (by omega) (by omega)]; exact hm
  unfold checkF
  rw [h1, num_chk n hn, h2, sumF_setF l hl _ h8]
  rw [if_neg (by simp)]
  by_cases h : n = sumF l
  · rw [if_pos h, if_neg (by simp [h])]
  · rw [if_neg h, if_pos (by simp; omega)]
theorem check_sealed (l : List UInt8) (hl : l.length = 512) (hm : magicB l = true) : checkF (sealF l) = 0 := by
  unfold sealF
  rw [check_laid l hl _ (by have := sumF_le l hl; omega) hm, if_pos rfl]
/-- A sealed block with another byte in one place outside of chksum. -/
theorem check_other (l : List UInt8) (hl : l.length = 512) (hm : magicB l = true) (k : Nat) (hk : k < 512) (c : UInt8) (hc : c ≠ (sealF l).getD k 0) (hk2 : k < 148 ∨ 156 ≤ k) :
    checkF ((sealF l).set k c) = 21 ∨ (checkF ((sealF l).set k c) = 5 ∧ 257 ≤ k ∧ k ≤ 262) := by
  have hsl := sealF_length l hl
  have h8 := chkL_length (sumF l)
  have h1 : fpart ((sealF l).set k c) 148 8 = chkL (sumF l) := by
    rw [fpart_set _ k c 148 8 (by omega)]
    have := fpart_setF l 148 (chkL (sumF l)) (by omega)
    rwa [h8] at this
  have h2 := sumF_set (sealF l) hsl k c hk hk2
  have h3 : sumF (sealF l) = sumF l := sumF_setF l hl _ h8
  have hne : c.toNat ≠ ((sealF l).getD k 0).toNat := fun h => hc (UInt8.toNat_inj.1 h)
  have hs := sumF_le l hl
  unfold checkF
  rw [h1, num_chk _ (by omega)]
  cases hmm : magicB ((sealF l).set k c) with
  | true =>
    left
    rw [if_neg (by simp), if_pos (by simp; omega)]
  | false =>
    right
    refine ⟨by rw [if_pos (.inr rfl)], ?_⟩
    by_cases hin : 257 ≤ k ∧ k ≤ 262
    · exact hin
    · exfalso
      have : magicB ((sealF l).set k c) = true := by
        unfold magicB at hm ⊢
        rw [fpart_set _ k c 257 6 (by omega)]
        unfold sealF
        rw [fpart_other l 148 257 6 (chkL (sumF l)) (by omega) (by omega)]; exact hm
      rw [hmm] at this; cases this
def ustar : List UInt8 := [117, 115, 116, 97, 114, 0]
theorem magic_set (l : List UInt8) (hl : l.length = 512) : magicB (setF l 257 ustar) = true := by
  unfold magicB
  have := fpart_setF l 257 ustar (by rw [hl]; decide)
  rw [show ustar.length = 6 from rfl] at this
  rw [this]
  rfl
end Go.Proofs.YtkkelmlkpehcpaaDoor
