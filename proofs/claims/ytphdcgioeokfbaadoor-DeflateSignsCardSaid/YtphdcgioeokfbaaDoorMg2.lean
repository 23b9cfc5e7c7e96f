/-
  Merged, in the order in which they build: Pre Rds.
-/
import Derived.Test.YtphdcgioeokfbaaDoorMg1
/-
  The plain mathematics of reading: codes cut the numbers of 15 bits into rows side by side; what is read of 15 bits.
-/
namespace Hf

/-- What lies below the codes behind a length, in parts of 2 to -15. -/
def U (zs : List Int) (n : Nat) : Nat := K zs n * 2 ^ (15 - n)
theorem U_zero (zs : List Int) : U zs 0 = 0 := by simp [U, K_zero]
theorem U_all (zs : List Int) : U zs 15 = kr zs := by simp [U, kr]
theorem U_F (zs : List Int) (n : Nat) (hn : n < 15) : U zs n = F zs (n + 1) * 2 ^ (15 - (n + 1)) := by
  unfold U; rw [F_succ, show 15 - n = (15 - (n + 1)) + 1 by omega, Nat.pow_succ, Nat.mul_comm _ 2, ← Nat.mul_assoc, Nat.mul_comm (K zs n) 2]
theorem U_step (zs : List Int) (n : Nat) (hn : n < 15) : U zs n ≤ U zs (n + 1) := by
  rw [U_F zs n hn]; unfold U; exact Nat.mul_le_mul_right _ (by unfold K; omega)
theorem U_mono (zs : List Int) (n d : Nat) (h : n + d ≤ 15) : U zs n ≤ U zs (n + d) := by
  induction d with
  | zero => exact Nat.le_refl _
  | succ d ih => exact Nat.le_trans (ih (by omega)) (U_step zs (n + d) (by omega))
theorem U_le (zs : List Int) (n m : Nat) (h : n ≤ m) (hm : m ≤ 15) : U zs n ≤ U zs m := by
  have := U_mono zs n (m - n) (by omega)
  rwa [show n + (m - n) = m by omega] at this
/-- A number of 15 bits begins with a code of that length. -/
theorem sym_is (zs : List Int) (n x : Nat) (hn : n < 15) : (sym zs (n + 1) (x / 2 ^ (15 - (n + 1)))).isSome = true ↔ U zs n ≤ x ∧ x < U zs (n + 1) := by
  have hp : 0 < 2 ^ (15 - (n + 1)) := Nat.pow_pos (by decide)
  rw [U_F zs n hn]
  unfold sym U
  rw [← Nat.le_div_iff_mul_le hp, ← Nat.div_lt_iff_lt_mul hp]
  by_cases h : F zs (n + 1) ≤ x / 2 ^ (15 - (n + 1))
  · rw [if_pos h, Option.isSome_iff_ne_none, ne_eq, List.getElem?_eq_none_iff, places_length zs (n + 1) (by omega)]
    unfold K; omega
  · rw [if_neg h]
    exact ⟨fun h' => (by cases h'), fun h' => absurd h'.1 h⟩
theorem sym_one (zs : List Int) (n m x : Nat) (hn : n < 15) (hm : m < 15) (h1 : (sym zs (n + 1) (x / 2 ^ (15 - (n + 1)))).isSome = true) (h2 : (sym zs (m + 1) (x / 2 ^ (15 - (m + 1)))).isSome = true) : n = m := by
  rw [sym_is zs n x hn] at h1
  rw [sym_is zs m x hm] at h2
  rcases Nat.lt_trichotomy n m with h | h | h
  · have := U_le zs (n + 1) m h (by omega); omega
  · exact h
  · have := U_le zs (m + 1) n h (by omega); omega
theorem sym_full (zs : List Int) (x : Nat) (h : x < kr zs) : ∃ n, n < 15 ∧ (sym zs (n + 1) (x / 2 ^ (15 - (n + 1)))).isSome = true := by
  rw [← U_all] at h
  have : ∀ d, d ≤ 15 → x < U zs d → ∃ n, n < d ∧ U zs n ≤ x ∧ x < U zs (n + 1) := by
    intro d
    induction d with
    | zero => intro _ h; rw [U_zero] at h; omega
    | succ d ih =>
      intro hd h
      rcases Nat.lt_or_ge x (U zs d) with h1 | h1
      · obtain ⟨n, h2, h3⟩ := ih (by omega) h1
        exact ⟨n, by omega, h3⟩
      · exact ⟨d, by omega, h1, h⟩
  obtain ⟨n, h1, h2⟩ := this 15 (Nat.le_refl _) h
  exact ⟨n, h1, (sym_is zs n x h1).2 h2⟩
theorem sym_kr (zs : List Int) (n x : Nat) (hn : n < 15) (h : (sym zs (n + 1) (x / 2 ^ (15 - (n + 1)))).isSome = true) : x < kr zs := by
  rw [sym_is zs n x hn] at h
  have := U_le zs (n + 1) 15 (by omega) (Nat.le_refl _)
  rw [U_all] at this; omega

/-- A symbol whose code a number of 15 bits begins with. -/
def hit (zs : List Int) (x i : Nat) : Prop := 0 < zs.getD i 0 ∧ x / 2 ^ (15 - (zs.getD i 0).toNat) = code zs i
instance (zs : List Int) (x i : Nat) : Decidable (hit zs x i) := by unfold hit; infer_instance
theorem getD_good {zs : List Int} (hg : good zs) (i : Nat) : 0 ≤ zs.getD i 0 ∧ zs.getD i 0 ≤ 15 := by
  rcases Nat.lt_or_ge i zs.length with h | h
  · have e : zs.getD i 0 = zs[i] := by simp [h]
    rw [e]; exact hg.2 _ (List.getElem_mem h)
  · simp [h]
theorem hit_sym {zs : List Int} (hg : good zs) (x i : Nat) : hit zs x i ↔ i < zs.length ∧ ∃ n, n < 15 ∧ zs.getD i 0 = ((n + 1 : Nat) : Int) ∧ sym zs (n + 1) (x / 2 ^ (15 - (n + 1))) = some i := by
  have hz := getD_good hg i
  constructor
  · rintro ⟨h1, h2⟩
    obtain ⟨n, hn⟩ : ∃ n : Nat, zs.getD i 0 = ((n + 1 : Nat) : Int) := ⟨(zs.getD i 0).toNat - 1, by omega⟩
    have hi : i < zs.length := by
      rcases Nat.lt_or_ge i zs.length with h | h
      · exact h
      · simp [h] at h1
    refine ⟨hi, n, by omega, hn, ?_⟩
    rw [hn, Int.toNat_natCast] at h2
    exact (sym_some zs (n + 1) _ i (by omega)).2 ⟨hi, hn, h2.symm⟩
  · rintro ⟨hi, n, hn, hzn, hs⟩
    have := (sym_some zs (n + 1) _ i (by omega)).1 hs
    refine ⟨by omega, ?_⟩
    rw [hzn, Int.toNat_natCast]; exact this.2.2.symm
theorem hit_one {zs : List Int} (hg : good zs) (x i j : Nat) (h1 : hit zs x i) (h2 : hit zs x j) : i = j := by
  obtain ⟨_, n, hn, _, h3⟩ := (hit_sym hg x i).1 h1
  obtain ⟨_, m, hm, _, h4⟩ := (hit_sym hg x j).1 h2
  obtain rfl := sym_one zs n m x hn hm (by rw [h3]; rfl) (by rw [h4]; rfl)
  rw [h3] at h4; injection h4
theorem hit_full {zs : List Int} (hg : good zs) (x : Nat) (h : x < kr zs) : ∃ i, i < zs.length ∧ hit zs x i := by
  obtain ⟨n, hn, hs⟩ := sym_full zs x h
  obtain ⟨i, hi⟩ := Option.isSome_iff_exists.1 hs
  have := (sym_some zs (n + 1) _ i (by omega)).1 hi
  exact ⟨i, this.1, (hit_sym hg x i).2 ⟨this.1, n, hn, this.2.1, hi⟩⟩

/-- Fifteen bits, the first one the highest. -/
def bits15 (x : Nat) : List Bool := (List.range 15).map fun j => decide (x / 2 ^ (14 - j) % 2 = 1)
theorem bits15_length (x : Nat) : (bits15 x).length = 15 := by simp [bits15]
theorem bits15_drop (x n : Nat) (hn : n < 15) : (bits15 x).drop n = decide (x / 2 ^ (14 - n) % 2 = 1) :: (bits15 x).drop (n + 1) := by
  have h : n < (bits15 x).length := by rw [bits15_length]; exact hn
  rw [List.drop_eq_getElem_cons h]
  congr 1
  simp [bits15]
theorem bits15_next (x n : Nat) (hn : n < 15) : 2 * (x / 2 ^ (15 - n)) + (decide (x / 2 ^ (14 - n) % 2 = 1)).toNat = x / 2 ^ (15 - (n + 1)) := by
  rw [show 15 - n = (14 - n) + 1 by omega, show 15 - (n + 1) = 14 - n by omega, Nat.pow_succ, ← Nat.div_div_eq_div_mul]
  generalize x / 2 ^ (14 - n) = y
  rcases Nat.mod_two_eq_zero_or_one y with h | h <;> simp [h] <;> omega
theorem rd_hit (zs : List Int) (x m s : Nat) (hm : m < 15) (hs : sym zs (m + 1) (x / 2 ^ (15 - (m + 1))) = some s) :
    ∀ d n fuel, n + d = m → d < fuel → rd zs fuel n (x / 2 ^ (15 - n)) ((bits15 x).drop n) = (s, 0, m + 1) := by
  intro d
  induction d with
  | zero =>
    intro n fuel hd hf
    obtain rfl : n = m := by omega
    obtain ⟨f, rfl⟩ : ∃ f, fuel = f + 1 := ⟨fuel - 1, by omega⟩
    rw [bits15_drop x n hm, rd, bits15_next x n hm, hs]
  | succ d ih =>
    intro n fuel hd hf
    obtain ⟨f, rfl⟩ : ∃ f, fuel = f + 1 := ⟨fuel - 1, by omega⟩
    have hno : sym zs (n + 1) (x / 2 ^ (15 - (n + 1))) = none := by
      cases h : sym zs (n + 1) (x / 2 ^ (15 - (n + 1))) with
      | none => rfl
      | some t =>
        have := sym_one zs n m x (by omega) hm (by rw [h]; rfl) (by rw [hs]; rfl)
        omega
    rw [bits15_drop x n (by omega), rd, bits15_next x n (by omega), hno]
    exact ih (n + 1) f (by omega) (by omega)
theorem foldl_max (l : List Int) (a : Int) : a ≤ l.foldl max a ∧ ∀ z ∈ l, z ≤ l.foldl max a := by
  induction l generalizing a with
  | nil => exact ⟨Int.le_refl _, fun z h => by cases h⟩
  | cons b t ih =>
    have := ih (max a b)
    refine ⟨Int.le_trans (by omega) this.1, fun z hz => ?_⟩
    rcases List.mem_cons.1 hz with rfl | h
    · exact Int.le_trans (by omega) this.1
    · exact this.2 z h
theorem deep_le (zs : List Int) (i n : Nat) (h : zs.getD i 0 = ((n + 1 : Nat) : Int)) : n + 1 ≤ deep zs := by
  have hi : i < zs.length := by
    rcases Nat.lt_or_ge i zs.length with hh | hh
    · exact hh
    · rw [List.getD_eq_getElem?_getD, List.getElem?_eq_none hh] at h; simp at h; omega
  have e : zs.getD i 0 = zs[i] := by simp [hi]
  have := (foldl_max zs 1).2 _ (List.getElem_mem hi)
  unfold deep; rw [← e, h] at this; omega
theorem deep_pos (zs : List Int) : 1 ≤ deep zs := by
  have := (foldl_max zs 1).1
  unfold deep; omega
/-- A symbol is read whose code is there. -/
theorem read_hit {zs : List Int} (hg : good zs) (x i : Nat) (h : hit zs x i) : rd zs (deep zs) 0 0 (bits15 x) = (i, 0, (zs.getD i 0).toNat) ∨ 32768 ≤ x := by
  rcases Nat.lt_or_ge x 32768 with hx | hx
  · obtain ⟨hi, n, hn, hz, hs⟩ := (hit_sym hg x i).1 h
    have := rd_hit zs x n i hn hs n 0 (deep zs) (by omega) (by have := deep_le zs i n hz; omega)
    rw [show x / 2 ^ (15 - 0) = 0 from Nat.div_eq_of_lt hx] at this
    left; rw [hz, Int.toNat_natCast]; exact this
  · exact .inr hx
theorem lone_deep {zs : List Int} (h : lone zs = true) : deep zs = 1 ∧ kr zs ≤ 16384 := by
  unfold lone at h
  rw [Bool.and_eq_true, decide_eq_true_iff, decide_eq_true_iff] at h
  have hc : ∀ z : Int, z ≠ 0 → z ≠ 1 → zs.count z = 0 := by
    intro z h0 h1
    have key : ∀ l : List Int, l.count 0 + l.count 1 + l.count z ≤ l.length := by
      intro l
      induction l with
      | nil => simp
      | cons a t ih =>
        rw [List.count_cons, List.count_cons, List.count_cons, List.length_cons]
        by_cases ha0 : a = 0
        · subst ha0; simp [Ne.symm h0]; omega
        · by_cases ha1 : a = 1
          · subst ha1; simp [Ne.symm h1]; omega
          · simp [ha0, ha1]; split <;> omega
    have := key zs
    omega
  have hn : ∀ n, 2 ≤ n → ct zs n = 0 := fun n hn => by
    unfold ct; rw [if_neg (by omega)]; exact hc _ (by omega) (by omega)
  have h1 : K zs 1 ≤ 1 := by
    show F zs 1 + ct zs 1 ≤ 1
    rw [F_one]; unfold ct; rw [if_neg (by decide)]
    have : zs.count ((1 : Nat) : Int) = zs.count 1 := rfl
    omega
  have hK : ∀ n, K zs (n + 1) ≤ 2 ^ n := by
    intro n
    induction n with
    | zero => simpa using h1
    | succ n ih =>
      show F zs (n + 2) + ct zs (n + 2) ≤ _
      rw [F_succ, hn (n + 2) (by omega), Nat.pow_succ]; omega
  constructor
  · have hall : ∀ z ∈ zs, z ≤ 1 := by
      intro z hz
      rcases Int.lt_or_le 1 z with h2 | h2
      · have := hc z (by omega) (by omega)
        rw [List.count_eq_zero] at this
        exact absurd hz this
      · exact h2
    have : ∀ (l : List Int), (∀ z ∈ l, z ≤ 1) → l.foldl max 1 = 1 := by
      intro l
      induction l with
      | nil => intro _; rfl
      | cons a t ih =>
        intro h
        rw [List.foldl_cons, show max (1 : Int) a = 1 by have := h a (by simp); omega]
        exact ih (fun z hz => h z (by simp [hz]))
    unfold deep; rw [this zs hall]; rfl
  · exact hK 14
/-- Nothing is read: behind one bit. -/
theorem read_none {zs : List Int} (hg : good zs) (h1 : lone zs = true) (x : Nat) (h : ∀ i, i < zs.length → ¬ hit zs x i) : rd zs (deep zs) 0 0 (bits15 x) = (0, 20, 1) ∨ 32768 ≤ x := by
  rcases Nat.lt_or_ge x 32768 with hx | hx
  · left
    rw [(lone_deep h1).1]
    have hd := bits15_drop x 0 (by decide)
    have hn := bits15_next x 0 (by decide)
    rw [show x / 2 ^ (15 - 0) = 0 from Nat.div_eq_of_lt hx] at hn
    rw [List.drop_zero] at hd
    have hno : sym zs (0 + 1) (x / 2 ^ (15 - (0 + 1))) = none := by
      cases hs : sym zs (0 + 1) (x / 2 ^ (15 - (0 + 1))) with
      | none => rfl
      | some t =>
        have := (sym_some zs (0 + 1) _ t (by omega)).1 hs
        exact absurd ((hit_sym hg x t).2 ⟨this.1, 0, by decide, this.2.1, hs⟩) (h t this.1)
    rw [hd, rd, hn, hno]
    rfl
  · exact .inr hx
end Hf
/-
  What a book reads is what the document's Next reads.
-/
namespace Hf

theorem ct_deep (zs : List Int) (n : Nat) (h : deep zs < n) : ct zs n = 0 := by
  unfold ct
  split
  · rfl
  · rw [List.count_eq_zero]
    intro hm
    have := (foldl_max zs 1).2 _ hm
    unfold deep at h; omega
theorem K_above (zs : List Int) (d : Nat) : K zs (deep zs + d) = 2 ^ d * K zs (deep zs) := by
  induction d with
  | zero => simp
  | succ d ih =>
    have e : K zs (deep zs + d + 1) = 2 * K zs (deep zs + d) + ct zs (deep zs + d + 1) := rfl
    rw [show deep zs + (d + 1) = deep zs + d + 1 by omega, e, ih, ct_deep zs _ (by omega), Nat.pow_succ, Nat.add_zero, ← Nat.mul_assoc, Nat.mul_comm 2]
theorem K_deep (zs : List Int) (h : kr zs = 32768) (hd : deep zs ≤ 15) : K zs (deep zs) = 2 ^ deep zs := by
  have h1 := K_above zs (15 - deep zs)
  rw [show deep zs + (15 - deep zs) = 15 by omega, show K zs 15 = 32768 from h] at h1
  have h2 : (32768 : Nat) = 2 ^ (15 - deep zs) * 2 ^ deep zs := by rw [← Nat.pow_add, show 15 - deep zs + deep zs = 15 by omega]
  have hp : 0 < 2 ^ (15 - deep zs) := Nat.pow_pos (by decide)
  exact Nat.eq_of_mul_eq_mul_left hp (h1.symm.trans h2)
theorem rd_same (zs : List Int) (h : kr zs = 32768) (hd : deep zs ≤ 15) : ∀ f n c (bs : List Bool), n + f = deep zs → c < 2 ^ n → K zs n ≤ c → rd zs f n c bs = rd zs (15 - n) n c bs := by
  intro f
  induction f with
  | zero =>
    intro n c bs hn hc hk
    exfalso
    obtain rfl : n = deep zs := by omega
    rw [K_deep zs h hd] at hk
    omega
  | succ f ih =>
    intro n c bs hn hc hk
    have e : 15 - n = (15 - (n + 1)) + 1 := by omega
    rw [e]
    match bs with
    | [] => rfl
    | b :: t =>
      rw [rd, rd]
      cases hs : sym zs (n + 1) (2 * c + b.toNat) with
      | some s => rfl
      | none =>
        have hF : F zs (n + 1) ≤ 2 * c + b.toNat := by rw [F_succ]; omega
        have hb : b.toNat < 2 := by cases b <;> decide
        exact ih (n + 1) (2 * c + b.toNat) t (by omega) (by rw [Nat.pow_succ]; omega) ((sym_none zs (n + 1) _ (by omega) hF).1 hs)
theorem rd_full (zs : List Int) (h : kr zs = 32768) (hd : deep zs ≤ 15) (bs : List Bool) : rd zs (deep zs) 0 0 bs = rd zs 15 0 0 bs :=
  rd_same zs h hd (deep zs) 0 0 bs (by omega) (by decide) (by rw [K_zero]; omega)
/-- What may come of reading. -/
theorem rd_ends (zs : List Int) : ∀ f n c (bs : List Bool), ((rd zs f n c bs).2.1 = 0 ∧ n < (rd zs f n c bs).2.2) ∨ ((rd zs f n c bs).2.1 = 4 ∧ (rd zs f n c bs).1 = 0) ∨ ((rd zs f n c bs).2.1 = 20 ∧ (rd zs f n c bs).1 = 0) := by
  intro f
  induction f with
  | zero => intro n c bs; cases bs <;> exact .inr (.inr ⟨rfl, rfl⟩)
  | succ f ih =>
    intro n c bs
    match bs with
    | [] => exact .inr (.inl ⟨rfl, rfl⟩)
    | b :: t =>
      rw [rd]
      cases hs : sym zs (n + 1) (2 * c + b.toNat) with
      | some s => exact .inl ⟨rfl, by simp⟩
      | none =>
        rcases ih (n + 1) (2 * c + b.toNat) t with h | h
        · exact .inl ⟨h.1, by simp only at h ⊢; omega⟩
        · exact .inr h
theorem rd_took (zs : List Int) : ∀ f n c (bs : List Bool), (rd zs f n c bs).2.2 ≤ n + bs.length := by
  intro f
  induction f with
  | zero => intro n c bs; cases bs <;> (simp [rd])
  | succ f ih =>
    intro n c bs
    match bs with
    | [] => simp [rd]
    | b :: t =>
      rw [rd]
      cases hs : sym zs (n + 1) (2 * c + b.toNat) with
      | some s => simp only [List.length_cons]; omega
      | none =>
        have := ih (n + 1) (2 * c + b.toNat) t
        simp only [List.length_cons]; omega
end Hf
