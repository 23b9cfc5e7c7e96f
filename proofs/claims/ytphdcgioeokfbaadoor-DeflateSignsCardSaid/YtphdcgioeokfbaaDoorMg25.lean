/-
  Merged, in the order in which they build: Dfm.
-/
import Derived.Test.YtphdcgioeokfbaaDoorMg15
import Derived.Test.YtphdcgioeokfbaaDoorMg24
/-
  Deflate as mathematics: signs of copies, how lengths are told, headings.
-/
namespace Go.Proofs.YtphdcgioeokfbaaDoor
open Hf
/-- How often each number below n stands in a row. -/
def cnt (l : List Nat) (n : Nat) : List Int := (List.range n).map fun s => (l.count s : Int)
@[simp] theorem cnt_length (l : List Nat) (n : Nat) : (cnt l n).length = n := by simp [cnt]
theorem cnt_getD (l : List Nat) (n s : Nat) (h : s < n) : (cnt l n).getD s 0 = (l.count s : Int) := by simp [cnt, h]
theorem cnt_nil (n : Nat) : cnt [] n = List.replicate n 0 := by
  apply List.ext_getElem
  · simp
  · intro i h1 h2; simp [cnt]
theorem cnt_more (l : List Nat) (n s : Nat) (h : s < n) : (cnt l n).set s ((cnt l n).getD s 0 + 1) = cnt (l ++ [s]) n := by
  rw [cnt_getD _ _ _ h]
  apply List.ext_getElem
  · simp
  · intro i h1 h2
    simp at h1
    rw [List.getElem_set]
    simp only [cnt, List.getElem_map, List.getElem_range, List.count_append, List.count_singleton]
    by_cases e : s = i
    · subst e; simp
    · simp [e]
theorem cnt_ok (l : List Nat) (n : Nat) (hn : n ≤ 1024) (hl : l.length ≤ 1000000) : okC (cnt l n) = true := by
  rw [okC_of (cnt l n) (fun i hi => ?_), cnt_length, decide_eq_true hn]
  rw [cnt_length] at hi
  rw [cnt_getD _ _ _ hi]
  have := List.count_le_length (a := i) (l := l)
  omega
theorem cnt_pos (l : List Nat) (n s : Nat) (h : s < n) (hs : s ∈ l) : 0 < (cnt l n).getD s 0 := by
  rw [cnt_getD _ _ _ h]
  have := List.count_pos_iff.2 hs
  omega
namespace Df
def longs : List (Nat × Nat) := [(3, 0), (4, 0), (5, 0), (6, 0), (7, 0), (8, 0), (9, 0), (10, 0), (11, 1), (13, 1), (15, 1), (17, 1), (19, 2), (23, 2), (27, 2), (31, 2), (35, 3), (43, 3), (51, 3), (59, 3), (67, 4), (83, 4), (99, 4), (115, 4), (131, 5), (163, 5), (195, 5), (227, 5), (258, 0)]
def fars : List (Nat × Nat) := [(1, 0), (2, 0), (3, 0), (4, 0), (5, 1), (7, 1), (9, 2), (13, 2), (17, 3), (25, 3), (33, 4), (49, 4), (65, 5), (97, 5), (129, 6), (193, 6), (257, 7), (385, 7), (513, 8), (769, 8), (1025, 9), (1537, 9), (2049, 10), (3073, 10), (4097, 11), (6145, 11), (8193, 12), (12289, 12), (16385, 13), (24577, 13)]
/-- How many entries begin at n or below, less one. -/
def look (t : List (Nat × Nat)) (n : Nat) : Nat := (t.takeWhile fun e => Nat.ble e.1 n).length - 1
def lsg (n : Nat) : Sg := ⟨257 + look longs n, n - (longs.getD (look longs n) (0, 0)).1, (longs.getD (look longs n) (0, 0)).2⟩
def fsg (n : Nat) : Sg := ⟨look fars n, n - (fars.getD (look fars n) (0, 0)).1, (fars.getD (look fars n) (0, 0)).2⟩
def lchk (n : Nat) : Bool := (Nat.beq n 258 && (Nat.beq (lsg n).s 285 && (Nat.beq (lsg n).x 0 && Nat.beq (lsg n).m 0))) || (Nat.ble 257 (lsg n).s && (Nat.ble (lsg n).s 284 && (Nat.beq (lsg n).m (((lsg n).s - 257) / 4 - 1) && (Nat.blt (lsg n).x (2 ^ (lsg n).m) && Nat.beq n (3 + (lb 4 ((lsg n).s - 257) + (lsg n).x))))))
theorem lchk_all : (List.range 256).all (fun i => lchk (i + 3)) = true := by decide +kernel
theorem lsg_ok (n : Nat) (h1 : 3 ≤ n) (h2 : n ≤ 258) : LSg n (lsg n) := by
  have h := List.all_eq_true.1 lchk_all (n - 3) (List.mem_range.2 (by omega))
  rw [show n - 3 + 3 = n by omega] at h
  unfold lchk at h
  simp only [Bool.or_eq_true, Bool.and_eq_true, Nat.beq_eq, Nat.ble_eq, Nat.blt_eq] at h
  rcases h with ⟨a, b, c, d⟩ | ⟨a, b, c, d, e⟩
  · refine .inl ⟨a, ?_⟩
    generalize lsg n = g at b c d
    cases g
    simp only at b c d
    subst b; subst c; subst d
    rfl
  · exact .inr ⟨a, b, c, d, e⟩
def fchk (k n : Nat) : Bool := Nat.beq (n - (fars.getD k (0, 0)).1 + (1 + lb 2 k)) n && (Nat.beq (fars.getD k (0, 0)).2 (k / 2 - 1) && Nat.blt (n - (fars.getD k (0, 0)).1) (2 ^ (k / 2 - 1)))
theorem fars_at : ∀ k, k < 30 → (fars.getD k (0, 0)).1 = 1 + lb 2 k ∧ (fars.getD k (0, 0)).2 = k / 2 - 1 ∧ (k = 29 → 1 + lb 2 k + 2 ^ (k / 2 - 1) = 32769) ∧ (k < 29 → (fars.getD (k + 1) (0, 0)).1 = 1 + lb 2 k + 2 ^ (k / 2 - 1)) := by decide +kernel
theorem take_while_at {α : Type} (p : α → Bool) (d : α) : ∀ (t : List α) (i : Nat), i < (t.takeWhile p).length → p (t.getD i d) = true
  | [], i, h => by simp at h
  | a :: t, i, h => by
    rw [List.takeWhile_cons] at h
    cases hp : p a with
    | false => rw [hp] at h; simp at h
    | true =>
      rw [hp] at h
      cases i with
      | zero => simpa using hp
      | succ i =>
        rw [List.getD_cons_succ]
        exact take_while_at p d t i (by simpa using h)
theorem take_while_end {α : Type} (p : α → Bool) (d : α) : ∀ (t : List α), (t.takeWhile p).length < t.length → p (t.getD (t.takeWhile p).length d) = false
  | [], h => by simp at h
  | a :: t, h => by
    cases hp : p a with
    | false => rw [List.takeWhile_cons, hp]; simpa using hp
    | true =>
      rw [List.takeWhile_cons, hp] at h ⊢
      simp only [if_true, List.length_cons, List.getD_cons_succ] at h ⊢
      exact take_while_end p d t (by omega)
theorem look_at (t : List (Nat × Nat)) (n : Nat) (h : (t.getD 0 (0, 0)).1 ≤ n) (h0 : 0 < t.length) : look t n < t.length ∧ (t.getD (look t n) (0, 0)).1 ≤ n ∧ (look t n + 1 < t.length → n < (t.getD (look t n + 1) (0, 0)).1) := by
  obtain ⟨m, hm⟩ : ∃ m, m = (t.takeWhile fun e => Nat.ble e.1 n).length := ⟨_, rfl⟩
  have hle : m ≤ t.length := by rw [hm]; exact (List.takeWhile_prefix _).length_le
  have hpos : 0 < m := by
    cases t with
    | nil => simp at h0
    | cons a t =>
      rw [hm, List.takeWhile_cons]
      have : Nat.ble a.1 n = true := Nat.ble_eq_true_of_le (by simpa using h)
      rw [this]; simp
  have e : look t n = m - 1 := by unfold look; rw [← hm]
  have h1 := take_while_at (fun e : Nat × Nat => Nat.ble e.1 n) (0, 0) t (m - 1) (by rw [← hm]; omega)
  have h2 : m < t.length → (fun e : Nat × Nat => Nat.ble e.1 n) (t.getD m (0, 0)) = false := fun hl => by
    rw [hm] at hl ⊢
    exact take_while_end (fun e : Nat × Nat => Nat.ble e.1 n) (0, 0) t hl
  rw [e]
  refine ⟨by omega, Nat.le_of_ble_eq_true h1, fun hl => ?_⟩
  have := h2 (by omega)
  rw [show m - 1 + 1 = m by omega]
  rcases Nat.lt_or_ge n (t.getD m (0, 0)).1 with h3 | h3
  · exact h3
  · have h4 : Nat.ble (t.getD m (0, 0)).1 n = true := Nat.ble_eq_true_of_le h3
    simp only at this
    rw [h4] at this; cases this
theorem fsg_ok (n : Nat) (h1 : 1 ≤ n) (h2 : n ≤ 32768) : FSg n (fsg n) := by
  obtain ⟨a, b, c⟩ := look_at fars n h1 (by decide)
  obtain ⟨k, hk⟩ : ∃ k, k = look fars n := ⟨_, rfl⟩
  have e : fsg n = ⟨k, n - (fars.getD k (0, 0)).1, (fars.getD k (0, 0)).2⟩ := by unfold fsg; rw [← hk]
  rw [← hk] at a b c
  have ha : k < 30 := a
  obtain ⟨f1, f2, f3, f4⟩ := fars_at k ha
  rw [e]
  refine ⟨by show k ≤ 29; omega, f2, ?_, ?_⟩
  · show n - (fars.getD k (0, 0)).1 < 2 ^ (fars.getD k (0, 0)).2
    rw [f1, f2]
    rw [f1] at b
    rcases (by omega : k = 29 ∨ k < 29) with h | h
    · have := f3 h; omega
    · have := c (show k + 1 < 30 by omega)
      rw [f4 h] at this; omega
  · show n = 1 + (lb 2 k + (n - (fars.getD k (0, 0)).1))
    rw [f1] at b ⊢
    omega
/-- What stands next in a row of lengths: z, then t. -/
def nxt (z : Int) (t : List Int) (known : Bool) : Sg × Nat :=
  if z = 0 ∧ 11 ≤ 1 + (t.takeWhile (· == z)).length then (⟨18, min (1 + (t.takeWhile (· == z)).length) 138 - 11, 7⟩, min (1 + (t.takeWhile (· == z)).length) 138)
  else if z = 0 ∧ 3 ≤ 1 + (t.takeWhile (· == z)).length then (⟨17, 1 + (t.takeWhile (· == z)).length - 3, 3⟩, 1 + (t.takeWhile (· == z)).length)
  else if known = true ∧ 3 ≤ 1 + (t.takeWhile (· == z)).length then (⟨16, min (1 + (t.takeWhile (· == z)).length) 6 - 3, 2⟩, min (1 + (t.takeWhile (· == z)).length) 6)
  else (⟨z.toNat, 0, 0⟩, 1)
def kno (l : List Int) (k : Nat) : Bool := decide (0 < k) && (l.getD (k - 1) 0 == l.getD k 0)
def runsF (l : List Int) : Nat → Nat → List Sg
  | 0, _ => []
  | f + 1, k => if k < l.length then (nxt (l.getD k 0) (l.drop (k + 1)) (kno l k)).1 :: runsF l f (k + (nxt (l.getD k 0) (l.drop (k + 1)) (kno l k)).2) else []
def runsOf (l : List Int) : List Sg := runsF l l.length 0
theorem take_rep (z : Int) : ∀ (t : List Int) (n : Nat), n ≤ (t.takeWhile (· == z)).length → t.take n = List.replicate n z
  | [], n, h => by simp at h; subst h; rfl
  | a :: t, 0, _ => rfl
  | a :: t, n + 1, h => by
    rw [List.takeWhile_cons] at h
    cases hp : (a == z) with
    | false => rw [hp] at h; simp at h
    | true =>
      rw [hp] at h
      have ha : a = z := by simpa using hp
      rw [List.take_succ_cons, List.replicate_succ, ha, take_rep z t n (by simpa using h)]
theorem nxt_pos (z : Int) (t : List Int) (known : Bool) : 1 ≤ (nxt z t known).2 ∧ (nxt z t known).2 ≤ 1 + (t.takeWhile (· == z)).length := by
  unfold nxt
  split
  · simp only; omega
  split
  · simp only; omega
  split
  · simp only; omega
  · simp only; omega
/-- What is told is what stands there. -/
theorem nxt_dec (z : Int) (t ahead : List Int) (known : Bool) (h0 : 0 ≤ z) (h15 : z ≤ 15) (hk : known = true → ahead ≠ [] ∧ ahead.getD (ahead.length - 1) 0 = z) :
    okG ahead (nxt z t known).1 ∧ runV ahead (nxt z t known).1 = (z, (nxt z t known).2) := by
  obtain ⟨n, hn⟩ : ∃ n, n = 1 + (t.takeWhile (· == z)).length := ⟨_, rfl⟩
  unfold nxt
  rw [← hn]
  split
  · rename_i h
    refine ⟨⟨by simp, ?_, rfl, fun h => by cases h⟩, ?_⟩
    · simp only; omega
    · unfold runV; simp only; rw [if_neg (by decide), if_neg (by decide), if_pos trivial, h.1]
      congr 1; omega
  split
  · rename_i h1 h
    refine ⟨⟨by simp, ?_, rfl, fun h => by cases h⟩, ?_⟩
    · simp only
      have : n < 11 := by
        rcases Nat.lt_or_ge n 11 with h2 | h2
        · exact h2
        · exact absurd ⟨h.1, h2⟩ h1
      omega
    · unfold runV; simp only; rw [if_neg (by decide), if_pos trivial, h.1]
      congr 1; omega
  split
  · rename_i h1 h2 h
    obtain ⟨ha, hl⟩ := hk h.1
    refine ⟨⟨by simp, ?_, rfl, fun _ => ha⟩, ?_⟩
    · simp only; omega
    · unfold runV; simp only; rw [if_pos trivial, hl]
      congr 1; omega
  · have hz : z.toNat ≤ 15 := by omega
    refine ⟨⟨by show z.toNat ≤ 18; omega, by show (0 : Nat) < 2 ^ 0; decide, ?_, fun h => ?_⟩, ?_⟩
    · show (0 : Nat) = if z.toNat = 16 then 2 else if z.toNat = 17 then 3 else if z.toNat = 18 then 7 else 0
      rw [if_neg (by omega), if_neg (by omega), if_neg (by omega)]
    · have h2 : z.toNat = 16 := h
      omega
    · unfold runV
      simp only
      rw [if_neg (by omega), if_neg (by omega), if_neg (by omega)]
      congr 1
      omega
theorem runs_dec (l : List Int) (hb : ∀ i, 0 ≤ l.getD i 0 ∧ l.getD i 0 ≤ 15) : ∀ (f k : Nat), k ≤ l.length → l.length - k ≤ f → okGs (runsF l f k) (l.take k) ∧ dec (runsF l f k) (l.take k) = l
  | 0, k, h1, h2 => by
    have e : l.take k = l := List.take_of_length_le (by omega)
    rw [runsF, e]
    exact ⟨trivial, rfl⟩
  | f + 1, k, h1, h2 => by
    rw [runsF]
    by_cases hk : k < l.length
    · rw [if_pos hk]
      obtain ⟨z, hz⟩ : ∃ z, z = l.getD k 0 := ⟨_, rfl⟩
      have hd : l.drop k = z :: l.drop (k + 1) := by
        rw [List.drop_eq_getElem_cons hk, hz]
        simp [hk]
      have hkn : kno l k = true → l.take k ≠ [] ∧ (l.take k).getD ((l.take k).length - 1) 0 = z := by
        intro h
        unfold kno at h
        simp only [Bool.and_eq_true, decide_eq_true_eq, beq_iff_eq] at h
        obtain ⟨h3, h4⟩ := h
        have hl : (l.take k).length = k := by rw [List.length_take]; omega
        refine ⟨fun e => by rw [e] at hl; simp at hl; omega, ?_⟩
        rw [hl, hz, ← h4]
        simp only [List.getD_eq_getElem?_getD]
        rw [List.getElem?_take_of_lt (by omega)]
      have hzb := hb k
      rw [← hz] at hzb ⊢
      have hdec := nxt_dec z (l.drop (k + 1)) (l.take k) (kno l k) hzb.1 hzb.2 hkn
      have hpos := nxt_pos z (l.drop (k + 1)) (kno l k)
      obtain ⟨q, hq⟩ : ∃ q, q = nxt z (l.drop (k + 1)) (kno l k) := ⟨_, rfl⟩
      rw [← hq] at hdec hpos ⊢
      have hlen : q.2 ≤ l.length - k := by
        have h3 := (List.takeWhile_prefix (· == z) (l := l.drop (k + 1))).length_le
        rw [List.length_drop] at h3
        omega
      have htk : l.take (k + q.2) = dec1 (l.take k) q.1 := by
        unfold dec1
        rw [hdec.2, List.take_add, hd]
        congr 1
        obtain ⟨m, hm⟩ : ∃ m, q.2 = m + 1 := ⟨q.2 - 1, by omega⟩
        show (z :: l.drop (k + 1)).take q.2 = List.replicate q.2 z
        rw [hm, List.take_succ_cons, List.replicate_succ, take_rep z _ m (by omega)]
      have ih := runs_dec l hb f (k + q.2) (by omega) (by omega)
      rw [htk] at ih
      exact ⟨⟨hdec.1, ih.1⟩, ih.2⟩
    · rw [if_neg hk]
      have e : l.take k = l := List.take_of_length_le (by omega)
      rw [e]
      exact ⟨trivial, rfl⟩
theorem runsOf_dec (l : List Int) (hb : ∀ i, 0 ≤ l.getD i 0 ∧ l.getD i 0 ≤ 15) : okGs (runsOf l) [] ∧ dec (runsOf l) [] = l := by
  have h := runs_dec l hb l.length 0 (Nat.zero_le _) (by omega)
  rwa [List.take_zero] at h
/-- How many there are up to the last one that is not 0. -/
def usdN (l : List Int) : Nat → Nat
  | 0 => 0
  | n + 1 => if l.getD n 0 = 0 then usdN l n else n + 1
def usd (l : List Int) : Nat := usdN l l.length
theorem usdN_le (l : List Int) : ∀ n, usdN l n ≤ n
  | 0 => Nat.le_refl _
  | n + 1 => by rw [usdN]; have := usdN_le l n; split <;> omega
theorem usdN_zero (l : List Int) : ∀ n i, usdN l n ≤ i → i < n → l.getD i 0 = 0
  | 0, i, _, h => by omega
  | n + 1, i, h1, h2 => by
    rw [usdN] at h1
    split at h1
    · rename_i h
      rcases (by omega : i = n ∨ i < n) with e | e
      · rw [e]; exact h
      · exact usdN_zero l n i h1 e
    · omega
theorem usdN_gt (l : List Int) (k : Nat) (hk : l.getD k 0 ≠ 0) : ∀ n, k < n → k < usdN l n
  | 0, h => by omega
  | n + 1, h => by
    rw [usdN]
    split
    · rename_i h0
      rcases (by omega : k = n ∨ k < n) with e | e
      · rw [e] at hk; exact absurd h0 hk
      · exact usdN_gt l k hk n e
    · omega
/-- Noughts at the end tell nothing. -/
theorem take_getD (l : List Int) (n : Nat) (h0 : ∀ i, n ≤ i → l.getD i 0 = 0) (i : Nat) : (l.take n).getD i 0 = l.getD i 0 := by
  rcases Nat.lt_or_ge i n with h | h
  · simp only [List.getD_eq_getElem?_getD]; rw [List.getElem?_take_of_lt h]
  · rw [h0 i h]
    simp only [List.getD_eq_getElem?_getD]
    rw [List.getElem?_eq_none (by rw [List.length_take]; omega)]
    rfl
theorem drop_zero (l : List Int) (n : Nat) (h0 : ∀ i, n ≤ i → l.getD i 0 = 0) : l.drop n = List.replicate (l.length - n) 0 := by
  apply List.ext_getElem
  · simp
  · intro i h1 h2
    rw [List.getElem_drop, List.getElem_replicate]
    have := h0 (n + i) (by omega)
    simp at h1
    rw [List.getD_eq_getElem?_getD, List.getElem?_eq_getElem (by omega)] at this
    exact this
theorem ct_take (l : List Int) (n k : Nat) (h0 : ∀ i, n ≤ i → l.getD i 0 = 0) : ct (l.take n) k = ct l k := by
  unfold ct
  split
  · rfl
  · rename_i hk
    have e : l = l.take n ++ List.replicate (l.length - n) 0 := by rw [← drop_zero l n h0, List.take_append_drop]
    conv => rhs; rw [e]
    rw [List.count_append, List.count_replicate]
    have : ((0 : Int) == (k : Int)) = false := by
      rw [beq_eq_false_iff_ne]; omega
    simp [this]
theorem F_take (l : List Int) (n : Nat) (h0 : ∀ i, n ≤ i → l.getD i 0 = 0) : ∀ k, F (l.take n) k = F l k
  | 0 => rfl
  | k + 1 => by rw [F_succ, F_succ]; unfold K; rw [F_take l n h0 k, ct_take l n k h0]
theorem kr_take (l : List Int) (n : Nat) (h0 : ∀ i, n ≤ i → l.getD i 0 = 0) : kr (l.take n) = kr l := by
  unfold kr K
  rw [F_take l n h0, ct_take l n _ h0]
theorem may_take (l : List Int) (n : Nat) (h0 : ∀ i, n ≤ i → l.getD i 0 = 0) (hm : may l = 0) : may (l.take n) = 0 := by
  have hg := may_good hm
  have hg2 : good (l.take n) := ⟨Nat.le_trans (by rw [List.length_take]; omega) hg.1, fun z hz => hg.2 z (List.mem_of_mem_take hz)⟩
  have hs : st (l.take n) = st l := by unfold st; rw [kr_take l n h0]
  have hl : Hf.lone (l.take n) = Hf.lone l := by
    have e : l = l.take n ++ List.replicate (l.length - n) 0 := by rw [← drop_zero l n h0, List.take_append_drop]
    have c0 : l.count 0 = (l.take n).count 0 + (l.length - n) := by
      conv => lhs; rw [e]
      rw [List.count_append, List.count_replicate]; simp
    have c1 : l.count 1 = (l.take n).count 1 := by
      conv => lhs; rw [e]
      rw [List.count_append, List.count_replicate]; simp
    have hll : l.length = (l.take n).length + (l.length - n) := by rw [List.length_take]; omega
    have hle := List.count_le_length (a := (0 : Int)) (l := l.take n)
    unfold Hf.lone
    have e1 : l.length - l.count 0 = (l.take n).length - (l.take n).count 0 := by omega
    rw [e1, c1]
  unfold may at hm ⊢
  rw [if_pos hg] at hm
  rw [if_pos hg2, hs, hl]
  exact hm
end Df
end Go.Proofs.YtphdcgioeokfbaaDoor
