/-
  Merged, in the order in which they build: Math.
-/
/-
  Matches, cuts and steps, as mathematics.
-/
namespace Go.Proofs.YtphdcgioeokfbaaDoor.Mt
abbrev Bs := List UInt8
def byt (b : Bs) (i : Nat) : UInt8 := b.getD i 0
/-- How many bytes from p and from k on are alike, of m. -/
def run (b : Bs) (p k : Nat) : Nat → Nat
  | 0 => 0
  | m + 1 => if byt b p = byt b k then run b (p + 1) (k + 1) m + 1 else 0
theorem run_le (b : Bs) (m : Nat) : ∀ p k, run b p k m ≤ m := by
  induction m with
  | zero => intro p k; exact Nat.le_refl _
  | succ m ih =>
    intro p k
    unfold run
    by_cases h : byt b p = byt b k
    · rw [if_pos h]; have := ih (p + 1) (k + 1); omega
    · rw [if_neg h]; omega
theorem run_eq (b : Bs) (m : Nat) : ∀ p k i, i < run b p k m → byt b (p + i) = byt b (k + i) := by
  induction m with
  | zero => intro p k i h; cases h
  | succ m ih =>
    intro p k i h
    unfold run at h
    by_cases h0 : byt b p = byt b k
    · rw [if_pos h0] at h
      cases i with
      | zero => exact h0
      | succ i =>
        have := ih (p + 1) (k + 1) i (by omega)
        rw [show p + (i + 1) = p + 1 + i by omega, show k + (i + 1) = k + 1 + i by omega]; exact this
    · rw [if_neg h0] at h; cases h
theorem run_max (b : Bs) (m : Nat) : ∀ p k n, n ≤ m → (∀ i, i < n → byt b (p + i) = byt b (k + i)) → n ≤ run b p k m := by
  induction m with
  | zero => intro p k n h _; omega
  | succ m ih =>
    intro p k n h he
    cases n with
    | zero => omega
    | succ n =>
      unfold run
      rw [if_pos (by simpa using he 0 (by omega))]
      have := ih (p + 1) (k + 1) n (by omega) (fun i hi => by
        have := he (i + 1) (by omega)
        rw [show p + (i + 1) = p + 1 + i by omega, show k + (i + 1) = k + 1 + i by omega] at this; exact this)
      omega
theorem run_ne (b : Bs) (m p k : Nat) (h : run b p k m < m) : byt b (p + run b p k m) ≠ byt b (k + run b p k m) := by
  intro e
  have := run_max b m p k (run b p k m + 1) (by omega) (fun i hi => by
    rcases Nat.lt_or_ge i (run b p k m) with h | h
    · exact run_eq b m p k i h
    · rw [show i = run b p k m by omega]; exact e)
  omega
/-- What tells a run. -/
theorem run_is (b : Bs) (m p k n : Nat) (h : n ≤ m) (he : ∀ i, i < n → byt b (p + i) = byt b (k + i)) (hne : n < m → byt b (p + n) ≠ byt b (k + n)) : run b p k m = n := by
  have h1 := run_max b m p k n h he
  rcases Nat.lt_or_ge n (run b p k m) with h2 | h2
  · have := run_le b m p k
    exact absurd (run_eq b m p k n h2) (hne (by omega))
  · omega
/-- The same three bytes. -/
def same3 (b : Bs) (p k : Nat) : Bool := decide (byt b p = byt b k) && decide (byt b (p + 1) = byt b (k + 1)) && decide (byt b (p + 2) = byt b (k + 2))
theorem same3_iff (b : Bs) (p k : Nat) : same3 b p k = true ↔ ∀ i, i < 3 → byt b (p + i) = byt b (k + i) := by
  unfold same3
  simp only [Bool.and_eq_true, decide_eq_true_iff]
  constructor
  · rintro ⟨⟨h0, h1⟩, h2⟩ i hi
    match i, hi with
    | 0, _ => exact h0
    | 1, _ => exact h1
    | 2, _ => exact h2
  · intro h
    exact ⟨⟨h 0 (by omega), h 1 (by omega)⟩, h 2 (by omega)⟩
theorem same3_run (b : Bs) (p k m : Nat) (hm : 3 ≤ m) : same3 b p k = true ↔ 3 ≤ run b p k m := by
  rw [same3_iff]
  exact ⟨fun h => run_max b m p k 3 hm h, fun h i hi => run_eq b m p k i (by omega)⟩
theorem same3_symm {b : Bs} {p k : Nat} (h : same3 b p k = true) : same3 b k p = true := by
  rw [same3_iff] at h ⊢; exact fun i hi => (h i hi).symm
theorem same3_trans {b : Bs} {p k q : Nat} (h : same3 b p k = true) (h2 : same3 b k q = true) : same3 b p q = true := by
  rw [same3_iff] at h h2 ⊢; exact fun i hi => (h i hi).trans (h2 i hi)
/-- The places below q at which the same three bytes stand as at k, the nearest first. -/
def chain (b : Bs) (k : Nat) : Nat → List Nat
  | 0 => []
  | q + 1 => if same3 b q k then q :: chain b k q else chain b k q
theorem chain_congr {b : Bs} {p k : Nat} (h : same3 b p k = true) : ∀ q, chain b p q = chain b k q
  | 0 => rfl
  | q + 1 => by
    unfold chain
    rw [chain_congr h q]
    by_cases h1 : same3 b q p = true
    · rw [if_pos h1, if_pos (same3_trans h1 h)]
    · rw [if_neg h1, if_neg (fun h2 => h1 (same3_trans h2 (same3_symm h)))]
/-- The next place ahead of p with p's three bytes, or -1. -/
def ahead (b : Bs) (p : Nat) : Int := match chain b p p with
  | [] => -1
  | q :: _ => (q : Int)
theorem chain_head {b : Bs} {k : Nat} : ∀ {q p : Nat} {t : List Nat}, chain b k q = p :: t → p < q ∧ same3 b p k = true ∧ t = chain b k p
  | 0, p, t, h => by cases h
  | q + 1, p, t, h => by
    unfold chain at h
    by_cases h1 : same3 b q k = true
    · rw [if_pos h1] at h
      injection h with h2 h3
      subst h2
      exact ⟨Nat.lt_succ_self _, h1, h3.symm⟩
    · rw [if_neg h1] at h
      obtain ⟨h2, h3⟩ := chain_head h
      exact ⟨by omega, h3⟩
theorem chain_none {b : Bs} {k : Nat} : ∀ {q : Nat}, chain b k q = [] → ∀ p, p < q → same3 b p k = false
  | 0, _, p, hp => by omega
  | q + 1, h, p, hp => by
    unfold chain at h
    by_cases h1 : same3 b q k = true
    · rw [if_pos h1] at h; cases h
    · rw [if_neg h1] at h
      rcases Nat.lt_or_ge p q with h2 | h2
      · exact chain_none h p h2
      · obtain rfl : p = q := by omega
        simpa using h1
theorem chain_mem {b : Bs} {k : Nat} : ∀ {q p : Nat}, p ∈ chain b k q ↔ p < q ∧ same3 b p k = true
  | 0, p => by simp [chain]
  | q + 1, p => by
    unfold chain
    by_cases h1 : same3 b q k = true
    · rw [if_pos h1, List.mem_cons, chain_mem (q := q)]
      constructor
      · rintro (rfl | h)
        · exact ⟨Nat.lt_succ_self _, h1⟩
        · exact ⟨by omega, h.2⟩
      · rintro ⟨h, h2⟩
        rcases Nat.lt_or_ge p q with h3 | h3
        · exact .inr ⟨h3, h2⟩
        · exact .inl (by omega)
    · rw [if_neg h1, chain_mem (q := q)]
      constructor
      · rintro ⟨h, h2⟩; exact ⟨by omega, h2⟩
      · rintro ⟨h, h2⟩
        refine ⟨?_, h2⟩
        rcases Nat.lt_or_ge p q with h3 | h3
        · exact h3
        · obtain rfl : p = q := by omega
          exact absurd h2 h1
def lim (b : Bs) (k : Nat) : Nat := min 258 (b.length - k)
/-- A match: length, distance. -/
def better (b : Bs) (k : Nat) (f : Nat × Nat) (p : Nat) : Nat × Nat := if f.1 < run b p k (lim b k) then (run b p k (lim b k), k - p) else f
def best (b : Bs) (k d : Nat) : Nat × Nat := if k + 3 ≤ b.length then ((chain b k k).take d).foldl (better b k) (0, 0) else (0, 0)
theorem better_le (b : Bs) (k : Nat) (f : Nat × Nat) (p : Nat) (h : f.1 ≤ lim b k) : (better b k f p).1 ≤ lim b k := by
  unfold better
  by_cases h1 : f.1 < run b p k (lim b k)
  · rw [if_pos h1]; exact run_le b _ p k
  · rw [if_neg h1]; exact h
theorem fold_full (b : Bs) (k : Nat) : ∀ (l : List Nat) (f : Nat × Nat), f.1 = lim b k → l.foldl (better b k) f = f
  | [], f, _ => rfl
  | p :: t, f, h => by
    rw [List.foldl_cons]
    have h1 := run_le b (lim b k) p k
    have : better b k f p = f := by unfold better; rw [if_neg (by omega)]
    rw [this]; exact fold_full b k t f h
/-- A place whose byte behind what was found is another tells nothing. -/
theorem better_skip (b : Bs) (k : Nat) (f : Nat × Nat) (p : Nat) (h : byt b (p + f.1) ≠ byt b (k + f.1)) : better b k f p = f := by
  unfold better
  rw [if_neg (fun h1 => h (run_eq b _ p k f.1 h1))]
theorem ahead_nil {b : Bs} {p : Nat} (h : chain b p p = []) : ahead b p = -1 := by unfold ahead; rw [h]
theorem ahead_cons {b : Bs} {p q : Nat} {t : List Nat} (h : chain b p p = q :: t) : ahead b p = (q : Int) := by unfold ahead; rw [h]
/-- A step: length (0: a literal), distance, byte. -/
abbrev St := Nat × Nat × UInt8
/-- The steps from a place on. -/
def cutF (b : Bs) (d : Nat) : Nat → Nat → List St
  | 0, _ => []
  | n + 1, k => if k < b.length then
      (if 0 < (best b k d).1 ∧ (best b (k + 1) d).1 ≤ (best b k d).1 then ((best b k d).1, (best b k d).2, 0) :: cutF b d n (k + (best b k d).1) else (0, 0, byt b k) :: cutF b d n (k + 1))
    else []
def cut (b : Bs) (d : Nat) : List St := cutF b d b.length 0
theorem cutF_end (b : Bs) (d n k : Nat) (h : b.length ≤ k) : cutF b d n k = [] := by
  cases n with
  | zero => rfl
  | succ n => unfold cutF; rw [if_neg (by omega)]
theorem cutF_more (b : Bs) (d : Nat) : ∀ (n m k : Nat), b.length - k ≤ n → b.length - k ≤ m → cutF b d n k = cutF b d m k
  | 0, m, k, h, _ => by rw [cutF_end b d m k (by omega)]; rfl
  | n + 1, 0, k, _, h => by rw [cutF_end b d (n + 1) k (by omega)]; rfl
  | n + 1, m + 1, k, h, h2 => by
    unfold cutF
    by_cases h0 : k < b.length
    · rw [if_pos h0, if_pos h0]
      by_cases h1 : 0 < (best b k d).1 ∧ (best b (k + 1) d).1 ≤ (best b k d).1
      · rw [if_pos h1, if_pos h1, cutF_more b d n m _ (by omega) (by omega)]
      · rw [if_neg h1, if_neg h1, cutF_more b d n m _ (by omega) (by omega)]
    · rw [if_neg h0, if_neg h0]
def cutAt (b : Bs) (d k : Nat) : List St := cutF b d (b.length - k) k
theorem cutAt_end {b : Bs} {d k : Nat} (h : b.length ≤ k) : cutAt b d k = [] := cutF_end b d _ k h
theorem cutAt_copy {b : Bs} {d k : Nat} (h : k < b.length) (h1 : 0 < (best b k d).1 ∧ (best b (k + 1) d).1 ≤ (best b k d).1) : cutAt b d k = ((best b k d).1, (best b k d).2, 0) :: cutAt b d (k + (best b k d).1) := by
  unfold cutAt
  rw [show b.length - k = (b.length - k - 1) + 1 by omega]
  conv => lhs; unfold cutF
  rw [if_pos h, if_pos h1, cutF_more b d (b.length - k - 1) (b.length - (k + (best b k d).1)) _ (by omega) (by omega)]
theorem cutAt_lit {b : Bs} {d k : Nat} (h : k < b.length) (h1 : ¬ (0 < (best b k d).1 ∧ (best b (k + 1) d).1 ≤ (best b k d).1)) : cutAt b d k = (0, 0, byt b k) :: cutAt b d (k + 1) := by
  unfold cutAt
  rw [show b.length - k = (b.length - k - 1) + 1 by omega]
  conv => lhs; unfold cutF
  rw [if_pos h, if_neg h1, cutF_more b d (b.length - k - 1) (b.length - (k + 1)) _ (by omega) (by omega)]
/-- What a best match is. -/
structure Mat (b : Bs) (k : Nat) (f : Nat × Nat) : Prop where
  least : 3 ≤ f.1
  le : f.1 ≤ lim b k
  far : 1 ≤ f.2 ∧ f.2 ≤ k
  is : f.1 = run b (k - f.2) k (lim b k)
theorem fold_mat (b : Bs) (k : Nat) (hk : k + 3 ≤ b.length) : ∀ (l : List Nat) (f : Nat × Nat), (∀ p ∈ l, p < k ∧ same3 b p k = true) → (f = (0, 0) ∨ Mat b k f) → (l.foldl (better b k) f = (0, 0) ∨ Mat b k (l.foldl (better b k) f))
  | [], f, _, h => h
  | p :: t, f, hl, h => by
    rw [List.foldl_cons]
    refine fold_mat b k hk t _ (fun q hq => hl q (by simp [hq])) ?_
    unfold better
    by_cases h1 : f.1 < run b p k (lim b k)
    · rw [if_pos h1]
      obtain ⟨h2, h3⟩ := hl p (by simp)
      have h4 := (same3_run b p k (lim b k) (by unfold lim; omega)).1 h3
      exact .inr ⟨h4, run_le b _ p k, ⟨by show 1 ≤ k - p; omega, Nat.sub_le _ _⟩, by show _ = run b (k - (k - p)) k _; rw [show k - (k - p) = p by omega]⟩
    · rw [if_neg h1]; exact h
theorem best_mat (b : Bs) (k d : Nat) : best b k d = (0, 0) ∨ Mat b k (best b k d) := by
  unfold best
  by_cases h : k + 3 ≤ b.length
  · rw [if_pos h]
    exact fold_mat b k h _ _ (fun p hp => chain_mem.1 (List.mem_of_mem_take hp)) (.inl rfl)
  · rw [if_neg h]; exact .inl rfl
theorem best_le (b : Bs) (k d : Nat) : (best b k d).1 ≤ lim b k := by
  rcases best_mat b k d with h | h
  · rw [h]; exact Nat.zero_le _
  · exact h.le
theorem byt_take (b : Bs) (k i : Nat) (h : i < k) : byt (b.take k) i = byt b i := by
  unfold byt
  rw [List.getD_eq_getElem?_getD, List.getD_eq_getElem?_getD, List.getElem?_take, if_pos h]
theorem take_snoc (b : Bs) (k : Nat) (h : k < b.length) : b.take (k + 1) = b.take k ++ [byt b k] := by
  rw [List.take_add_one, List.getElem?_eq_getElem h]
  simp [byt, h]
/-- n bytes more, each one the byte that stands far ahead. -/
def cpy : Nat → Nat → Bs → Bs
  | 0, _, l => l
  | n + 1, far, l => cpy n far (l ++ [byt l (l.length - far)])
theorem cpy_length : ∀ (n far : Nat) (l : Bs), (cpy n far l).length = l.length + n
  | 0, _, _ => rfl
  | n + 1, far, l => by unfold cpy; rw [cpy_length n far]; simp; omega
theorem cpy_is (b : Bs) (far : Nat) : ∀ (n k : Nat), 1 ≤ far → far ≤ k → k + n ≤ b.length → (∀ i, i < n → byt b (k - far + i) = byt b (k + i)) → cpy n far (b.take k) = b.take (k + n)
  | 0, k, _, _, _, _ => rfl
  | n + 1, k, h1, h2, h3, he => by
    unfold cpy
    have e : byt (b.take k) ((b.take k).length - far) = byt b k := by
      rw [List.length_take, Nat.min_eq_left (by omega), byt_take b k _ (by omega)]
      simpa using he 0 (by omega)
    rw [e, ← take_snoc b k (by omega), cpy_is b far n (k + 1) h1 (by omega) (by omega) (fun i hi => by
      have := he (i + 1) (by omega)
      rw [show k + 1 - far + i = k - far + (i + 1) by omega, show k + 1 + i = k + (i + 1) by omega]; exact this), show k + 1 + n = k + (n + 1) by omega]
def mk (s : St) : Nat := max s.1 1
def outS (l : Bs) (s : St) : Bs := if s.1 = 0 then l ++ [s.2.2] else cpy s.1 s.2.1 l
def outL (l : Bs) (ss : List St) : Bs := ss.foldl outS l
def sizeL (ss : List St) : Nat := (ss.map mk).sum
/-- A step that may stand at a place. -/
def okS (s : St) (k : Nat) : Prop := s.1 = 0 ∨ (3 ≤ s.1 ∧ s.1 ≤ 258 ∧ 1 ≤ s.2.1 ∧ s.2.1 ≤ 32768 ∧ s.2.1 ≤ k ∧ s.2.2 = 0)
def okL : List St → Nat → Prop
  | [], _ => True
  | s :: t, k => okS s k ∧ okL t (k + mk s)
/-- The steps from k on: each one is a literal of the byte that stands there, or the best match there. -/
def tells (b : Bs) (d : Nat) : List St → Nat → Prop
  | [], k => k = b.length
  | s :: t, k => k < b.length ∧ ((s = (0, 0, byt b k)) ∨ (Mat b k (s.1, s.2.1) ∧ best b k d = (s.1, s.2.1) ∧ s.2.2 = 0)) ∧ tells b d t (k + mk s)
theorem cut_tells (b : Bs) (d : Nat) (n : Nat) : ∀ k, k ≤ b.length → b.length - k ≤ n → tells b d (cutAt b d k) k := by
  induction n with
  | zero => intro k h h2; rw [cutAt_end (by omega)]; show k = b.length; omega
  | succ n ih =>
    intro k h h2
    rcases Nat.lt_or_ge k b.length with h0 | h0
    · by_cases h1 : 0 < (best b k d).1 ∧ (best b (k + 1) d).1 ≤ (best b k d).1
      · rw [cutAt_copy h0 h1]
        have hm : Mat b k (best b k d) := by
          rcases best_mat b k d with h3 | h3
          · rw [h3] at h1; exact absurd h1.1 (by decide)
          · exact h3
        have hmk : mk ((best b k d).1, (best b k d).2, (0 : UInt8)) = (best b k d).1 := by show max (best b k d).1 1 = _; omega
        have hle := hm.le
        unfold lim at hle
        refine ⟨h0, .inr ⟨hm, rfl, rfl⟩, ?_⟩
        rw [hmk]
        exact ih _ (by omega) (by omega)
      · rw [cutAt_lit h0 h1]
        exact ⟨h0, .inl rfl, ih (k + 1) (by omega) (by omega)⟩
    · rw [cutAt_end h0]; show k = b.length; omega
theorem tells_out (b : Bs) (d : Nat) : ∀ (ss : List St) (k : Nat), tells b d ss k → outL (b.take k) ss = b
  | [], k, h => by
    have h : k = b.length := h
    rw [h]; exact List.take_length
  | s :: t, k, ⟨h0, h1, h2⟩ => by
    show outL (outS (b.take k) s) t = b
    have e : outS (b.take k) s = b.take (k + mk s) := by
      rcases h1 with rfl | ⟨hm, _, _⟩
      · show b.take k ++ [byt b k] = _
        rw [← take_snoc b k h0]; rfl
      · have h3 := hm.least
        have hle := hm.le
        have hf := hm.far
        have his := hm.is
        simp only at h3 hle hf his
        unfold lim at hle
        unfold outS mk
        rw [if_neg (by omega), Nat.max_eq_left (by omega)]
        refine cpy_is b s.2.1 s.1 k hf.1 hf.2 (by omega) (fun i hi => ?_)
        exact run_eq b _ _ _ _ (by rw [← his]; exact hi)
    rw [e]; exact tells_out b d t _ h2
theorem tells_ok (b : Bs) (d : Nat) (hb : b.length ≤ 32768) : ∀ (ss : List St) (k : Nat), tells b d ss k → okL ss k
  | [], k, h => trivial
  | s :: t, k, ⟨h0, h1, h2⟩ => by
    refine ⟨?_, tells_ok b d hb t _ h2⟩
    rcases h1 with rfl | ⟨hm, _, hz⟩
    · exact .inl rfl
    · have h3 := hm.least
      have hle := hm.le
      have hf := hm.far
      simp only at h3 hle hf
      unfold lim at hle
      exact .inr ⟨h3, by omega, hf.1, by omega, hf.2, hz⟩
theorem tells_size (b : Bs) (d : Nat) : ∀ (ss : List St) (k : Nat), tells b d ss k → k + sizeL ss = b.length
  | [], k, h => h
  | s :: t, k, ⟨h0, h1, h2⟩ => by
    have := tells_size b d t _ h2
    show k + (mk s + sizeL t) = _
    omega
theorem tells_length (b : Bs) (d : Nat) : ∀ (ss : List St) (k : Nat), tells b d ss k → k + ss.length ≤ b.length
  | [], k, h => Nat.le_of_eq h
  | s :: t, k, ⟨h0, h1, h2⟩ => by
    have := tells_length b d t _ h2
    have : 1 ≤ mk s := Nat.le_max_right _ _
    rw [List.length_cons]; omega
/-! More chains. -/
theorem fold_le (b : Bs) (k : Nat) : ∀ (l : List Nat) (f : Nat × Nat), f.1 ≤ (l.foldl (better b k) f).1
  | [], f => Nat.le_refl _
  | p :: t, f => by
    rw [List.foldl_cons]
    refine Nat.le_trans ?_ (fold_le b k t _)
    unfold better
    by_cases h : f.1 < run b p k (lim b k)
    · rw [if_pos h]; exact Nat.le_of_lt h
    · rw [if_neg h]; exact Nat.le_refl _
theorem fold_same (b : Bs) (k : Nat) : ∀ (l : List Nat) (f : Nat × Nat), (l.foldl (better b k) f).1 = f.1 → l.foldl (better b k) f = f
  | [], f, _ => rfl
  | p :: t, f, h => by
    rw [List.foldl_cons] at h ⊢
    by_cases h1 : f.1 < run b p k (lim b k)
    · have h2 := fold_le b k t (better b k f p)
      have h3 : (better b k f p).1 = run b p k (lim b k) := by unfold better; rw [if_pos h1]
      omega
    · have h3 : better b k f p = f := by unfold better; rw [if_neg h1]
      rw [h3] at h ⊢; exact fold_same b k t f h
theorem best_more (b : Bs) (k d e : Nat) (h : d ≤ e) : (best b k d).1 ≤ (best b k e).1 ∧ ((best b k d).1 = (best b k e).1 → best b k d = best b k e) := by
  unfold best
  by_cases h0 : k + 3 ≤ b.length
  · rw [if_pos h0, if_pos h0]
    have e1 : (chain b k k).take e = (chain b k k).take d ++ ((chain b k k).drop d).take (e - d) := by
      rw [← List.take_add, Nat.add_sub_cancel' h]
    rw [e1, List.foldl_append]
    exact ⟨fold_le b k _ _, fun h1 => (fold_same b k _ _ h1.symm).symm⟩
  · rw [if_neg h0, if_neg h0]; exact ⟨Nat.le_refl _, fun _ => rfl⟩
theorem chain_len (b : Bs) (k : Nat) : ∀ q, (chain b k q).length ≤ q
  | 0 => Nat.le_refl _
  | q + 1 => by
    have := chain_len b k q
    unfold chain
    by_cases h : same3 b q k = true
    · rw [if_pos h, List.length_cons]; omega
    · rw [if_neg h]; omega
/-- The longest of the runs at distances 1 to n. -/
def longest (b : Bs) (k : Nat) : Nat → Nat
  | 0 => 0
  | n + 1 => max (longest b k n) (run b (k - (n + 1)) k (lim b k))
/-- The best one of distances 1 to n. -/
def bestF (b : Bs) (k : Nat) : Nat → Nat × Nat
  | 0 => (0, 0)
  | n + 1 => if 3 ≤ run b (k - (n + 1)) k (lim b k) ∧ (bestF b k n).1 < run b (k - (n + 1)) k (lim b k) then (run b (k - (n + 1)) k (lim b k), n + 1) else bestF b k n
theorem bestF_fold (b : Bs) (k : Nat) (hk : k + 3 ≤ b.length) : ∀ n, n ≤ k → (chain b k k).foldl (better b k) (0, 0) = (chain b k (k - n)).foldl (better b k) (bestF b k n)
  | 0, _ => rfl
  | n + 1, h => by
    rw [bestF_fold b k hk n (by omega), show k - n = (k - (n + 1)) + 1 by omega]
    have h3 := same3_run b (k - (n + 1)) k (lim b k) (by unfold lim; omega)
    conv => lhs; unfold chain
    conv => rhs; unfold bestF
    by_cases h1 : same3 b (k - (n + 1)) k = true
    · rw [if_pos h1, List.foldl_cons]
      congr 1
      unfold better
      have h4 := h3.1 h1
      by_cases h2 : (bestF b k n).1 < run b (k - (n + 1)) k (lim b k)
      · rw [if_pos h2, if_pos ⟨h4, h2⟩, show k - (k - (n + 1)) = n + 1 by omega]
      · rw [if_neg h2, if_neg (fun h => h2 h.2)]
    · rw [if_neg h1, if_neg (fun h => h1 (h3.2 h.1))]
theorem best_all (b : Bs) (k d : Nat) (hk : k + 3 ≤ b.length) (hd : k ≤ d) : best b k d = bestF b k k := by
  unfold best
  rw [if_pos hk, List.take_of_length_le (Nat.le_trans (chain_len b k k) hd), bestF_fold b k hk k (Nat.le_refl _), Nat.sub_self]
  rfl
theorem bestF_long (b : Bs) (k : Nat) : ∀ n, (bestF b k n).1 = if 3 ≤ longest b k n then longest b k n else 0
  | 0 => rfl
  | n + 1 => by
    have ih := bestF_long b k n
    unfold bestF longest
    by_cases h : 3 ≤ longest b k n
    · rw [if_pos h] at ih
      rw [if_pos (show 3 ≤ max _ _ by omega)]
      by_cases h1 : 3 ≤ run b (k - (n + 1)) k (lim b k) ∧ (bestF b k n).1 < run b (k - (n + 1)) k (lim b k)
      · rw [if_pos h1]; show run b (k - (n + 1)) k (lim b k) = _; omega
      · rw [if_neg h1, ih]; omega
    · rw [if_neg h] at ih
      by_cases h1 : 3 ≤ run b (k - (n + 1)) k (lim b k)
      · rw [if_pos ⟨h1, by omega⟩, if_pos (by omega)]; show run b (k - (n + 1)) k (lim b k) = _; omega
      · rw [if_neg (fun h2 => h1 h2.1), if_neg (by omega), ih]
theorem bestF_far (b : Bs) (k : Nat) : ∀ n far, 1 ≤ far → far ≤ n → 3 ≤ run b (k - far) k (lim b k) → run b (k - far) k (lim b k) = (bestF b k n).1 → (bestF b k n).2 ≤ far
  | 0, far, h, h2, _, _ => by omega
  | n + 1, far, h, h2, h3, h4 => by
    unfold bestF at h4 ⊢
    by_cases h1 : 3 ≤ run b (k - (n + 1)) k (lim b k) ∧ (bestF b k n).1 < run b (k - (n + 1)) k (lim b k)
    · rw [if_pos h1] at h4 ⊢
      show n + 1 ≤ far
      rcases Nat.lt_or_ge far (n + 1) with h5 | h5
      · have h6 : ∀ m, m ≤ n → far ≤ m → run b (k - far) k (lim b k) ≤ longest b k m := by
          intro m
          induction m with
          | zero => intro _ h; omega
          | succ m ih =>
            intro h7 h8
            unfold longest
            rcases Nat.lt_or_ge far (m + 1) with h9 | h9
            · have := ih (by omega) (by omega); omega
            · obtain rfl : far = m + 1 := by omega
              exact Nat.le_max_right _ _
        have h7 := h6 n (Nat.le_refl _) (by omega)
        have h8 := bestF_long b k n
        rw [if_pos (by omega)] at h8
        have h4 : run b (k - far) k (lim b k) = run b (k - (n + 1)) k (lim b k) := h4
        omega
      · exact h5
    · rw [if_neg h1] at h4 ⊢
      rcases Nat.lt_or_ge far (n + 1) with h5 | h5
      · exact bestF_far b k n far h (by omega) h3 h4
      · obtain rfl : far = n + 1 := by omega
        have h8 : (bestF b k n).2 ≤ n := by
          have : ∀ m, (bestF b k m).2 ≤ m := by
            intro m
            induction m with
            | zero => exact Nat.le_refl _
            | succ m ih =>
              unfold bestF
              by_cases h9 : 3 ≤ run b (k - (m + 1)) k (lim b k) ∧ (bestF b k m).1 < run b (k - (m + 1)) k (lim b k)
              · rw [if_pos h9]; exact Nat.le_refl _
              · rw [if_neg h9]; omega
          exact this n
        omega
/-- What no place at all tells, where fewer than three bytes are left. -/
theorem longest_short (b : Bs) (k : Nat) : ∀ n, longest b k n ≤ lim b k
  | 0 => Nat.zero_le _
  | n + 1 => by
    have h1 := longest_short b k n
    have h2 := run_le b (lim b k) (k - (n + 1)) k
    unfold longest; omega
theorem more_all (b : Bs) (k d : Nat) (hk : k < b.length) (hd : k ≤ d) : (best b k d).1 = (if 3 ≤ longest b k k then longest b k k else 0) ∧ (∀ far, 1 ≤ far → far ≤ k → 3 ≤ run b (k - far) k (lim b k) → run b (k - far) k (lim b k) = (best b k d).1 → (best b k d).2 ≤ far) := by
  by_cases h : k + 3 ≤ b.length
  · rw [best_all b k d h hd]
    exact ⟨bestF_long b k k, fun far h1 h2 h3 h4 => bestF_far b k k far h1 h2 h3 h4⟩
  · have hl : lim b k < 3 := by unfold lim; omega
    have h1 := longest_short b k k
    refine ⟨?_, fun far h1 h2 h3 h4 => ?_⟩
    · rw [if_neg (by omega)]; unfold best; rw [if_neg h]
    · have := run_le b (lim b k) (k - far) k; omega
/-! Runs of one byte. -/
theorem byt_rep (c : UInt8) (m i : Nat) (h : i < m) : byt (List.replicate m c) i = c := by
  unfold byt
  rw [List.getD_eq_getElem?_getD, List.getElem?_replicate, if_pos h]; rfl
theorem best_rep0 (b : Bs) (d : Nat) : best b 0 d = (0, 0) := by
  unfold best
  by_cases h : 0 + 3 ≤ b.length
  · rw [if_pos h]; simp [chain]
  · rw [if_neg h]
theorem best_rep (c : UInt8) (m k : Nat) (hk : 1 ≤ k) : best (List.replicate m c) k 1 = if k + 3 ≤ m then (min 258 (m - k), 1) else (0, 0) := by
  unfold best
  rw [List.length_replicate]
  by_cases h : k + 3 ≤ m
  · rw [if_pos h, if_pos h]
    obtain ⟨j, rfl⟩ : ∃ j, k = j + 1 := ⟨k - 1, by omega⟩
    have hs : same3 (List.replicate m c) j (j + 1) = true := by
      rw [same3_iff]
      intro i hi
      rw [byt_rep c m _ (by omega), byt_rep c m _ (by omega)]
    have hl : lim (List.replicate m c) (j + 1) = min 258 (m - (j + 1)) := by unfold lim; rw [List.length_replicate]
    have hr : run (List.replicate m c) j (j + 1) (lim (List.replicate m c) (j + 1)) = min 258 (m - (j + 1)) := by
      rw [hl]
      refine run_is _ _ _ _ _ (Nat.le_refl _) (fun i hi => ?_) (fun h => by omega)
      rw [byt_rep c m _ (by omega), byt_rep c m _ (by omega)]
    unfold chain
    rw [if_pos hs, List.take_succ_cons, List.take_zero, List.foldl_cons, List.foldl_nil]
    unfold better
    rw [hr, if_pos (show 0 < min 258 (m - (j + 1)) by omega), show j + 1 - j = 1 by omega]
  · rw [if_neg h, if_neg h]
theorem cut_rep0 (c : UInt8) (m d : Nat) (hm : 1 ≤ m) : cutAt (List.replicate m c) d 0 = (0, 0, c) :: cutAt (List.replicate m c) d 1 := by
  rw [cutAt_lit (by rw [List.length_replicate]; omega) (by rw [best_rep0]; intro h; exact absurd h.1 (by decide)), byt_rep c m 0 (by omega)]
theorem cut_rep (c : UInt8) (m k : Nat) (hk : 1 ≤ k) (h : k < m) : cutAt (List.replicate m c) 1 k = if 3 ≤ m - k then (min 258 (m - k), 1, 0) :: cutAt (List.replicate m c) 1 (k + min 258 (m - k)) else (0, 0, c) :: cutAt (List.replicate m c) 1 (k + 1) := by
  have h1 := best_rep c m k hk
  have h2 := best_rep c m (k + 1) (by omega)
  by_cases h3 : 3 ≤ m - k
  · rw [if_pos (by omega)] at h1
    rw [if_pos h3, cutAt_copy (by rw [List.length_replicate]; exact h) (by
      rw [h1, h2]
      refine ⟨by show 0 < min 258 (m - k); omega, ?_⟩
      by_cases h4 : k + 1 + 3 ≤ m
      · rw [if_pos h4]; show min 258 (m - (k + 1)) ≤ min 258 (m - k); omega
      · rw [if_neg h4]; exact Nat.zero_le _), h1]
  · rw [if_neg (by omega)] at h1
    rw [if_neg h3, cutAt_lit (by rw [List.length_replicate]; exact h) (by rw [h1]; intro h; exact absurd h.1 (by decide)), byt_rep c m k h]
/-! The document's own way. -/
/-- What is found from distance n + 1 on, where t places more may be tried. -/
def rest (b : Bs) (k t n : Nat) (f : Nat × Nat) : Nat × Nat := ((chain b k (k - n)).take t).foldl (better b k) f
theorem rest_best (b : Bs) (k d : Nat) (hk : k + 3 ≤ b.length) : best b k d = rest b k d 0 (0, 0) := by unfold best rest; rw [if_pos hk]; rfl
theorem rest_end (b : Bs) (k t n : Nat) (f : Nat × Nat) (h : t = 0 ∨ k ≤ n) : rest b k t n f = f := by
  unfold rest
  rcases h with rfl | h
  · rw [List.take_zero]; rfl
  · rw [show k - n = 0 by omega]; simp [chain]
theorem rest_step (b : Bs) (k t n : Nat) (f : Nat × Nat) (hk : k + 3 ≤ b.length) (h : n < k) : rest b k (t + 1) n f = if run b (k - (n + 1)) k (lim b k) < 3 then rest b k (t + 1) (n + 1) f else
    rest b k t (n + 1) (if f.1 < run b (k - (n + 1)) k (lim b k) then (run b (k - (n + 1)) k (lim b k), n + 1) else f) := by
  unfold rest
  rw [show k - n = (k - (n + 1)) + 1 by omega]
  have h3 := same3_run b (k - (n + 1)) k (lim b k) (by unfold lim; omega)
  conv => lhs; unfold chain
  by_cases h1 : same3 b (k - (n + 1)) k = true
  · rw [if_pos h1, if_neg (by have := h3.1 h1; omega), List.take_succ_cons, List.foldl_cons]
    congr 1
    unfold better
    rw [show k - (k - (n + 1)) = n + 1 by omega]
  · rw [if_neg h1, if_pos (by
      rcases Nat.lt_or_ge (run b (k - (n + 1)) k (lim b k)) 3 with h4 | h4
      · exact h4
      · exact absurd (h3.2 h4) h1)]
end Go.Proofs.YtphdcgioeokfbaaDoor.Mt
