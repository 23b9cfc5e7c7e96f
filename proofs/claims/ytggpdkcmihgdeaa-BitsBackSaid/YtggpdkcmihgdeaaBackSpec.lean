/-
  Plain mathematics for there and back: what things put one behind the other lay, and how it is read again.
-/
import Derived.Test.YtggpdkcmihgdeaaSpec
namespace Bt
open Go

/-- A thing: the number, how many bits, as a code?, the bytes' value and bytes. -/
abbrev T := Nat × Nat × Bool × Value × List UInt8
def T.k (x : T) : Nat := x.2.1 % 58
def T.n (x : T) : Nat := x.1 % 2 ^ x.k
def T.c (x : T) : Bool := x.2.2.1
def T.b (x : T) : List UInt8 := x.2.2.2.2.take 20
theorem T.k_le (x : T) : x.k ≤ 57 := by unfold T.k; omega
theorem T.n_lt (x : T) : x.n < 2 ^ x.k := Nat.mod_lt _ (Nat.two_pow_pos _)
theorem T.b_le (x : T) : x.b.length ≤ 20 := by unfold T.b; simp; omega
def T.bits (x : T) : List Bool := if x.c then (bitsN x.n x.k).reverse else bitsN x.n x.k
theorem T.bits_length (x : T) : x.bits.length = x.k := by unfold T.bits; split <;> simp [bitsN_length]
def stepT (L : List Bool) (x : T) : List Bool := if x.b.length = 0 then L ++ x.bits else fill L ++ bitsOf x.b
def st (ts : List T) : List Bool := ts.foldl stepT []
theorem st_succ (ts : List T) (i : Nat) (x : T) (hx : ts[i]? = some x) : st (ts.take (i + 1)) = stepT (st (ts.take i)) x := by
  rw [List.take_add_one, hx]; simp [st]
theorem st_succ' (ts : List T) (i n m : Nat) (c : Bool) (v : Value) (bs : List UInt8) (hx : ts[i]? = some (n, m, c, v, bs)) :
    st (ts.take (i + 1)) = if (bs.take 20).length = 0 then st (ts.take i) ++ (if c then (bitsN (n % 2 ^ (m % 58)) (m % 58)).reverse else bitsN (n % 2 ^ (m % 58)) (m % 58)) else fill (st (ts.take i)) ++ bitsOf (bs.take 20) := st_succ ts i _ hx
theorem st_le (ts : List T) : (st ts).length ≤ 200 * ts.length := by
  have key : ∀ (ts : List T) (L : List Bool), (ts.foldl stepT L).length ≤ L.length + 200 * ts.length := by
    intro ts
    induction ts with
    | nil => intro L; simp
    | cons x t ih =>
      intro L
      have h1 := ih (stepT L x)
      have h2 : (stepT L x).length ≤ L.length + 200 := by
        unfold stepT
        split
        · rw [List.length_append, T.bits_length]; have := x.k_le; omega
        · rw [List.length_append, fill_length, bitsOf_length]; have := x.b_le; omega
      simp only [List.foldl_cons, List.length_cons]
      omega
  have := key ts []
  simpa [st] using this
theorem stepT_prefix (L : List Bool) (x : T) : ∃ R, stepT L x = L ++ R := by
  unfold stepT
  split
  · exact ⟨_, rfl⟩
  · exact ⟨_, by rw [fill, List.append_assoc]⟩
theorem st_prefix (ts : List T) (i : Nat) : ∃ R, st ts = st (ts.take i) ++ R := by
  have key : ∀ (ts : List T) (L : List Bool), ∃ R, ts.foldl stepT L = L ++ R := by
    intro ts
    induction ts with
    | nil => intro L; exact ⟨[], by simp⟩
    | cons x t ih =>
      intro L
      obtain ⟨R1, h1⟩ := stepT_prefix L x
      obtain ⟨R2, h2⟩ := ih (stepT L x)
      exact ⟨R1 ++ R2, by rw [List.foldl_cons, h2, h1, List.append_assoc]⟩
  obtain ⟨R, h⟩ := key (ts.drop i) (st (ts.take i))
  refine ⟨R, ?_⟩
  rw [← h]
  unfold st
  rw [← List.foldl_append, List.take_append_drop]
theorem seg_at (S X A R : List Bool) (h : fill S = X ++ A ++ R) : seg (pack S) X.length A.length = A := by
  have hl : X.length + A.length ≤ 8 * (pack S).length := by
    have h1 : (fill S).length = 8 * (pack S).length := by rw [fill_length, pack_length]; omega
    have h2 : (fill S).length = X.length + A.length + R.length := by rw [h]; simp; omega
    omega
  rw [seg_eq _ _ _ hl, bitsOf_pack, h, List.append_assoc, List.drop_left, List.take_left]
theorem bytes_at (S Y R : List Bool) (b : List UInt8) (q : Nat) (h : fill S = Y ++ bitsOf b ++ R) (hq : Y.length = 8 * q) : ((pack S).drop q).take b.length = b := by
  have h1 : (fill S).length = 8 * (pack S).length := by rw [fill_length, pack_length]; omega
  have h2 : (fill S).length = Y.length + 8 * b.length + R.length := by rw [h]; simp [bitsOf_length]; omega
  have hl : (((pack S).drop q).take b.length).length = b.length := by simp; omega
  apply bytes_ext hl
  intro k hk j hj
  rw [hl] at hk
  have e1 : (((pack S).drop q).take b.length).getD k 0 = (pack S).getD (q + k) 0 := by
    rw [List.getD_eq_getElem?_getD, List.getElem?_take, if_pos hk, List.getElem?_drop, ← List.getD_eq_getElem?_getD]
  rw [e1, pack_bit _ _ _ hj, ← fill_getD, h, List.append_assoc]
  have e2 : (Y ++ (bitsOf b ++ R)).getD (8 * (q + k) + j) false = (bitsOf b).getD (8 * k + j) false := by
    rw [List.getD_eq_getElem?_getD, List.getElem?_append_right (by omega), List.getElem?_append_left (by rw [bitsOf_length]; omega), ← List.getD_eq_getElem?_getD]
    congr 1; omega
  rw [e2, bitsOf_getD]
  have e3 : (8 * k + j) / 8 = k := by omega
  have e4 : (8 * k + j) % 8 = j := by omega
  rw [e3, e4]
/-- What is read of thing i. -/
theorem read_bits (ts : List T) (i : Nat) (x : T) (hx : ts[i]? = some x) (hb : x.b.length = 0) : seg (pack (st ts)) (st (ts.take i)).length x.k = x.bits ∧ (st (ts.take (i + 1))).length = (st (ts.take i)).length + x.k := by
  obtain ⟨R, hR⟩ := st_prefix ts (i + 1)
  have hs := st_succ ts i x hx
  unfold stepT at hs
  rw [if_pos hb] at hs
  refine ⟨?_, by rw [hs, List.length_append, T.bits_length]⟩
  have := seg_at (st ts) (st (ts.take i)) x.bits (R ++ List.replicate (((st ts).length + 7) / 8 * 8 - (st ts).length) false) (by
    rw [fill, ← List.append_assoc, ← hs, ← hR])
  rwa [T.bits_length] at this
theorem read_bytes (ts : List T) (i : Nat) (x : T) (hx : ts[i]? = some x) (hb : x.b.length ≠ 0) :
    ((pack (st ts)).drop (((st (ts.take i)).length + 7) / 8 * 8 / 8)).take x.b.length = x.b ∧ (st (ts.take (i + 1))).length = ((st (ts.take i)).length + 7) / 8 * 8 + x.b.length * 8 := by
  obtain ⟨R, hR⟩ := st_prefix ts (i + 1)
  have hs := st_succ ts i x hx
  unfold stepT at hs
  rw [if_neg hb] at hs
  refine ⟨?_, by rw [hs, List.length_append, fill_length, bitsOf_length]; omega⟩
  exact bytes_at (st ts) (fill (st (ts.take i))) (R ++ List.replicate (((st ts).length + 7) / 8 * 8 - (st ts).length) false) x.b _ (by
    rw [fill, ← List.append_assoc, ← hs, ← hR]) (by rw [fill_length]; omega)
theorem st_take_le (ts : List T) (i : Nat) : (st (ts.take i)).length ≤ (st ts).length := by
  obtain ⟨R, hR⟩ := st_prefix ts i
  rw [hR, List.length_append]; omega
/-- What is left: bits of 0. -/
theorem read_rest (S : List Bool) : seg (pack S) S.length (8 * (pack S).length - S.length) = List.replicate (8 * (pack S).length - S.length) false := by
  have h1 : (S.length + 7) / 8 * 8 - S.length = 8 * (pack S).length - S.length := by rw [pack_length]; omega
  have := seg_at S S (List.replicate (8 * (pack S).length - S.length) false) [] (by rw [fill, h1, List.append_nil])
  rwa [List.length_replicate] at this
end Bt
