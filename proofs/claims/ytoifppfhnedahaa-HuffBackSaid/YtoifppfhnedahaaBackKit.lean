/-
  HuffBack, as plain mathematics: codes turned twice, what is read of a code's bits, no code the beginning of another.
-/
import Derived.Test.YtoifppfhnedahaaPre
import Derived.Test.YtoifppfhnedahaaRds
import Derived.Test.YtoifppfhnedahaaCodes
namespace Go.Proofs.Ytoifppfhnedahaa
open Go.RowKit Hf

/-- The bits of a turned number. -/
theorem trn_bit (c n k : Nat) (hk : k < n) : trn c n / 2 ^ k % 2 = c / 2 ^ (n - 1 - k) % 2 := by
  induction n generalizing k with
  | zero => omega
  | succ n ih =>
    rw [trn]
    cases k with
    | zero =>
      rw [show n + 1 - 1 - 0 = n by omega]; simp
    | succ k =>
      have := ih k (by omega)
      rw [Nat.pow_succ, Nat.mul_comm (2 ^ k), ← Nat.div_div_eq_div_mul, show (2 * trn c n + c / 2 ^ n % 2) / 2 = trn c n by omega, this, show n + 1 - 1 - (k + 1) = n - 1 - k by omega]
theorem bits_same : ∀ (n x y : Nat), x < 2 ^ n → y < 2 ^ n → (∀ k, k < n → x / 2 ^ k % 2 = y / 2 ^ k % 2) → x = y
  | 0, x, y, hx, hy, _ => by simp at hx hy; omega
  | n + 1, x, y, hx, hy, h => by
    have h0 := h 0 (by omega)
    have := bits_same n (x / 2) (y / 2) (by rw [Nat.pow_succ] at hx; omega) (by rw [Nat.pow_succ] at hy; omega) (fun k hk => by
      have := h (k + 1) (by omega)
      rw [Nat.pow_succ, Nat.mul_comm (2 ^ k), ← Nat.div_div_eq_div_mul, ← Nat.div_div_eq_div_mul] at this
      exact this)
    simp at h0
    omega
/-- Turned twice it is as it was. -/
theorem trn_twice (c n : Nat) (h : c < 2 ^ n) : trn (trn c n) n = c := by
  refine bits_same n _ _ (trn_lt _ _) h fun k hk => ?_
  rw [trn_bit _ _ _ hk, trn_bit _ _ _ (by omega), show n - 1 - (n - 1 - k) = k by omega]
/-- The bits of a number, its first one ahead. -/
def bitsN (c n : Nat) : List Bool := (List.range n).map fun k => decide (trn c n / 2 ^ k % 2 = 1)
theorem bitsN_length (c n : Nat) : (bitsN c n).length = n := by simp [bitsN]
theorem bitsN_15 (c n : Nat) (hn : n ≤ 15) : bitsN c n = (bits15 (c * 2 ^ (15 - n))).take n := by
  apply List.ext_getElem
  · rw [bitsN_length, List.length_take, bits15_length]; omega
  · intro k h1 h2
    rw [bitsN_length] at h1
    rw [List.getElem_take]
    simp only [bitsN, bits15, List.getElem_map, List.getElem_range]
    rw [trn_bit c n k h1]
    have e : c * 2 ^ (15 - n) / 2 ^ (14 - k) = c / 2 ^ (n - 1 - k) := by
      rw [show 14 - k = (15 - n) + (n - 1 - k) by omega, Nat.pow_add, ← Nat.div_div_eq_div_mul, Nat.mul_div_cancel _ (Nat.pow_pos (by decide))]
    rw [e]
/-- What is read depends on what is taken. -/
theorem rd_local (zs : List Int) : ∀ f n c (bs bs' : List Bool) (m s : Nat), rd zs f n c bs = (s, 0, n + m) → bs'.take m = bs.take m → rd zs f n c bs' = (s, 0, n + m) := by
  intro f
  induction f with
  | zero => intro n c bs bs' m s h _; rw [rd] at h; simp at h
  | succ f ih =>
    intro n c bs bs' m s h ht
    cases bs with
    | nil => rw [rd] at h; simp at h
    | cons b t =>
      rcases rd_ends zs (f + 1) n c (b :: t) with h1 | h1 | h1
      · rw [h] at h1
        simp only at h1
        obtain ⟨m, rfl⟩ : ∃ q, m = q + 1 := ⟨m - 1, by omega⟩
        cases bs' with
        | nil => simp at ht
        | cons b' t' =>
          rw [List.take_succ_cons, List.take_succ_cons] at ht
          injection ht with hb ht
          subst hb
          rw [rd] at h ⊢
          cases hs : sym zs (n + 1) (2 * c + b'.toNat) with
          | some x => rw [hs] at h; simpa using h
          | none =>
            rw [hs] at h
            simp only at h ⊢
            rw [show n + (m + 1) = n + 1 + m by omega] at h ⊢
            exact ih _ _ _ _ _ _ h ht
      · rw [h] at h1; simp at h1
      · rw [h] at h1; simp at h1
theorem hit_code {zs : List Int} (_hg : good zs) (s : Nat) (hs : 0 < zs.getD s 0) : hit zs (code zs s * 2 ^ (15 - (zs.getD s 0).toNat)) s :=
  ⟨hs, Nat.mul_div_cancel _ (Nat.pow_pos (by decide))⟩
theorem hit_kr {zs : List Int} (hg : good zs) (x s : Nat) (h : hit zs x s) : x < kr zs := by
  obtain ⟨_, n, hn, _, h3⟩ := (hit_sym hg x s).1 h
  exact sym_kr zs n x hn (by rw [h3]; rfl)
theorem code_lt {zs : List Int} (hg : good zs) (hk : kr zs ≤ 32768) (s : Nat) (hs : 0 < zs.getD s 0) : code zs s < 2 ^ (zs.getD s 0).toNat := by
  have h1 := hit_kr hg _ s (hit_code hg s hs)
  have hz := getD_good hg s
  have h2 : code zs s * 2 ^ (15 - (zs.getD s 0).toNat) < 2 ^ (zs.getD s 0).toNat * 2 ^ (15 - (zs.getD s 0).toNat) := by
    rw [← Nat.pow_add, show (zs.getD s 0).toNat + (15 - (zs.getD s 0).toNat) = 15 by omega]
    have : (2 : Nat) ^ 15 = 32768 := by decide
    omega
  exact Nat.lt_of_mul_lt_mul_right h2
/-- A code is read as its symbol, whatever stands behind. -/
theorem rd_code {zs : List Int} (hg : good zs) (hk : kr zs ≤ 32768) (s : Nat) (hs : 0 < zs.getD s 0) (rest : List Bool) : rd zs (deep zs) 0 0 (bitsN (code zs s) (zs.getD s 0).toNat ++ rest) = (s, 0, (zs.getD s 0).toNat) := by
  have hh := hit_code hg s hs
  have h1 := hit_kr hg _ s hh
  have hz := getD_good hg s
  rcases read_hit hg _ s hh with h | h
  · have := rd_local zs (deep zs) 0 0 _ (bitsN (code zs s) (zs.getD s 0).toNat ++ rest) (zs.getD s 0).toNat s (by rw [Nat.zero_add]; exact h) (by
      rw [bitsN_15 _ _ (by omega), List.take_append_of_le_length (by rw [List.length_take, bits15_length]; omega), List.take_take, Nat.min_self])
    rwa [Nat.zero_add] at this
  · omega
/-- No code is the beginning of another one. -/
theorem code_apart {zs : List Int} (hg : good zs) (i k : Nat) (hi : 0 < zs.getD i 0) (hk : 0 < zs.getD k 0) (hne : i ≠ k) : code zs i / 2 ^ (zs.getD i 0 - min (zs.getD i 0) (zs.getD k 0)).toNat ≠ code zs k / 2 ^ (zs.getD k 0 - min (zs.getD i 0) (zs.getD k 0)).toNat := by
  have key : ∀ i k, 0 < zs.getD i 0 → 0 < zs.getD k 0 → i ≠ k → zs.getD i 0 ≤ zs.getD k 0 → code zs i ≠ code zs k / 2 ^ (zs.getD k 0 - zs.getD i 0).toNat := by
    intro i k hi hk hne hle e
    have h1 := hit_code hg k hk
    have z1 := getD_good hg i
    have z2 := getD_good hg k
    have h2 : hit zs (code zs k * 2 ^ (15 - (zs.getD k 0).toNat)) i := by
      refine ⟨hi, ?_⟩
      rw [e, show 15 - (zs.getD i 0).toNat = (15 - (zs.getD k 0).toNat) + (zs.getD k 0 - zs.getD i 0).toNat by omega, Nat.pow_add, ← Nat.div_div_eq_div_mul, Nat.mul_div_cancel _ (Nat.pow_pos (by decide))]
    exact hne (hit_one hg _ i k h2 h1)
  rcases Int.le_total (zs.getD i 0) (zs.getD k 0) with h | h
  · rw [show min (zs.getD i 0) (zs.getD k 0) = zs.getD i 0 by omega]
    have := key i k hi hk hne h
    simpa using this
  · rw [show min (zs.getD i 0) (zs.getD k 0) = zs.getD k 0 by omega]
    have := key k i hk hi (Ne.symm hne) h
    intro e
    exact this (by simpa using e.symm)
/-- All codes of a row of symbols, one behind the other. -/
def bitsAll (zs : List Int) (ss : List Nat) : List Bool := ss.flatMap fun s => bitsN (code zs s) (zs.getD s 0).toNat
theorem bitsAll_snoc (zs : List Int) (ss : List Nat) (s : Nat) : bitsAll zs (ss ++ [s]) = bitsAll zs ss ++ bitsN (code zs s) (zs.getD s 0).toNat := by simp [bitsAll]
theorem bitsAll_cons (zs : List Int) (ss : List Nat) (s : Nat) : bitsAll zs (s :: ss) = bitsN (code zs s) (zs.getD s 0).toNat ++ bitsAll zs ss := rfl
theorem bitsAll_length {zs : List Int} (hg : good zs) (ss : List Nat) : (bitsAll zs ss).length ≤ 15 * ss.length := by
  induction ss with
  | nil => simp [bitsAll]
  | cons s t ih =>
    rw [bitsAll_cons, List.length_append, bitsN_length, List.length_cons]
    have := getD_good hg s
    omega
theorem rd_nobits (zs : List Int) (h : 1 ≤ deep zs) : rd zs (deep zs) 0 0 [] = (0, 4, 0) := by
  obtain ⟨d, hd⟩ : ∃ d, deep zs = d + 1 := ⟨deep zs - 1, by omega⟩
  rw [hd, rd]
end Go.Proofs.Ytoifppfhnedahaa
