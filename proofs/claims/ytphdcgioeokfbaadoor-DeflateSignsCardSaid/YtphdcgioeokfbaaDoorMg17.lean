/-
  Merged, in the order in which they build: Ord Swaps.
-/
import Derived.Test.YtphdcgioeokfbaaDoorMg16
/-
  The plain mathematics of sorting in place: two places changed over, ranges changed over, a turned range, insertion, and when a whole is in order.
-/
namespace Go.Proofs.YtphdcgioeokfbaaDoor
open Go.RowKit Hf

theorem eq_of_getD {l l' : List Nat} (hl : l.length = l'.length) (h : ∀ k, l.getD k 0 = l'.getD k 0) : l = l' := by
  apply List.ext_getElem hl
  intro i h1 h2
  have := h i
  simpa [h1, h2] using this
/-- In order: by counts, of one count by symbols. -/
def lx (c : Nat → Int) (s t : Nat) : Prop := c s < c t ∨ (c s = c t ∧ s < t)
theorem lx_trans {c : Nat → Int} {a b d : Nat} (h : lx c a b) (k : lx c b d) : lx c a d := by unfold lx at *; omega
theorem lx_not {c : Nat → Int} {a b : Nat} (h : lx c a b) : ¬ lx c b a := by unfold lx at *; omega
def at0 (l : List Nat) (i : Nat) : Nat := l.getD i 0
theorem at0_out (l : List Nat) (i : Nat) (h : l.length ≤ i) : at0 l i = 0 := by unfold at0; simp [h]
theorem eq_of_at0 {l l' : List Nat} (hl : l.length = l'.length) (h : ∀ k, at0 l k = at0 l' k) : l = l' := eq_of_getD hl h
theorem at0_map (l : List Nat) (f : Nat → Nat) (k : Nat) : at0 ((List.range l.length).map f) k = if k < l.length then f k else 0 := by
  unfold at0
  split
  · rename_i h; simp [h]
  · rename_i h; simp [h]
theorem at0_swp (l : List Nat) (i j k : Nat) (hi : i < l.length) (hj : j < l.length) : at0 (swp l i j) k = if k = j then at0 l i else if k = i then at0 l j else at0 l k := by
  unfold at0 swp
  simp only [List.getD_eq_getElem?_getD, List.getElem?_set, List.length_set]
  by_cases h1 : j = k
  · subst h1; simp [hj]
  · have h1' : ¬ k = j := fun e => h1 e.symm
    by_cases h2 : i = k
    · subst h2; simp [hi, h1, h1']
    · have h2' : ¬ k = i := fun e => h2 e.symm
      simp [h1, h2, h1', h2']
theorem swp_perm (l : List Nat) (i j : Nat) (hi : i < l.length) (hj : j < l.length) : (swp l i j).Perm l := by
  unfold swp
  have e1 : l.getD i 0 = l[i] := by simp [hi]
  have e2 : l.getD j 0 = l[j] := by simp [hj]
  rw [e1, e2]
  exact List.set_set_perm hi hj
/-- Two ranges of i places, from a and from b on, changed over. -/
def sr (l : List Nat) (a b i : Nat) : List Nat := (List.range l.length).map fun k => if a ≤ k ∧ k < a + i then at0 l (k + (b - a)) else if b ≤ k ∧ k < b + i then at0 l (k - (b - a)) else at0 l k
theorem sr_length (l : List Nat) (a b i : Nat) : (sr l a b i).length = l.length := by simp [sr]
theorem at0_sr (l : List Nat) (a b i k : Nat) (h : a + i ≤ b) (hl : b + i ≤ l.length) : at0 (sr l a b i) k = if a ≤ k ∧ k < a + i then at0 l (k + (b - a)) else if b ≤ k ∧ k < b + i then at0 l (k - (b - a)) else at0 l k := by
  unfold sr
  rw [at0_map]
  split
  · rfl
  · rename_i hk
    rw [if_neg (by omega), if_neg (by omega), at0_out _ _ (by omega)]
/-- A range from s to e, what stands behind m put ahead. -/
def rot (l : List Nat) (s m e : Nat) : List Nat := (List.range l.length).map fun k => if s ≤ k ∧ k < e then (if k < s + (e - m) then at0 l (k + (m - s)) else at0 l (k - (e - m))) else at0 l k
theorem rot_length (l : List Nat) (s m e : Nat) : (rot l s m e).length = l.length := by simp [rot]
theorem at0_rot (l : List Nat) (s m e k : Nat) (hl : e ≤ l.length) : at0 (rot l s m e) k = if s ≤ k ∧ k < e then (if k < s + (e - m) then at0 l (k + (m - s)) else at0 l (k - (e - m))) else at0 l k := by
  unfold rot
  rw [at0_map]
  split
  · rfl
  · rename_i hk
    rw [if_neg (by omega), at0_out _ _ (by omega)]
theorem sr_zero (l : List Nat) (a b : Nat) (h : a ≤ b) (hl : b ≤ l.length) : sr l a b 0 = l := by
  refine eq_of_at0 (sr_length _ _ _ _) fun k => ?_
  rw [at0_sr _ _ _ _ _ (by omega) (by omega), if_neg (by omega), if_neg (by omega)]
theorem sr_step (l : List Nat) (a b i : Nat) (h : a + (i + 1) ≤ b) (hl : b + (i + 1) ≤ l.length) : swp (sr l a b i) (a + i) (b + i) = sr l a b (i + 1) := by
  refine eq_of_at0 (by rw [swp_length, sr_length, sr_length]) fun k => ?_
  rw [at0_swp _ _ _ _ (by rw [sr_length]; omega) (by rw [sr_length]; omega)]
  simp only [at0_sr l a b i _ (show a + i ≤ b by omega) (show b + i ≤ l.length by omega), at0_sr l a b (i + 1) _ (show a + (i + 1) ≤ b by omega) hl]
  repeat' split
  all_goals first | omega | rfl | (congr 1; omega)
theorem rot_left (l : List Nat) (s m : Nat) (hl : m ≤ l.length) : rot l s m m = l := by
  refine eq_of_at0 (rot_length _ _ _ _) fun k => ?_
  rw [at0_rot _ _ _ _ _ hl]
  repeat' split
  all_goals first | omega | rfl | (congr 1; omega)
theorem rot_right (l : List Nat) (m e : Nat) (h : m ≤ e) (hl : e ≤ l.length) : rot l m m e = l := by
  refine eq_of_at0 (rot_length _ _ _ _) fun k => ?_
  rw [at0_rot _ _ _ _ _ hl]
  repeat' split
  all_goals first | omega | rfl | (congr 1; omega)
/-- The first goes up by one place. -/
theorem rot_up (l : List Nat) (a k : Nat) (hk : a ≤ k) (hl : k + 2 ≤ l.length) : swp (rot l a (a + 1) (k + 1)) k (k + 1) = rot l a (a + 1) (k + 2) := by
  refine eq_of_at0 (by rw [swp_length, rot_length, rot_length]) fun q => ?_
  rw [at0_swp _ _ _ _ (by rw [rot_length]; omega) (by rw [rot_length]; omega)]
  simp only [at0_rot l a (a + 1) (k + 1) _ (show k + 1 ≤ l.length by omega), at0_rot l a (a + 1) (k + 2) _ hl]
  repeat' split
  all_goals first | omega | rfl | (congr 1; omega)
/-- The last goes down by one place. -/
theorem rot_down (l : List Nat) (k m : Nat) (hk : k + 1 ≤ m) (hl : m + 1 ≤ l.length) : swp (rot l (k + 1) m (m + 1)) (k + 1) k = rot l k m (m + 1) := by
  refine eq_of_at0 (by rw [swp_length, rot_length, rot_length]) fun q => ?_
  rw [at0_swp _ _ _ _ (by rw [rot_length]; omega) (by rw [rot_length]; omega)]
  simp only [at0_rot l (k + 1) m (m + 1) _ hl, at0_rot l k m (m + 1) _ hl]
  repeat' split
  all_goals first | omega | rfl | (congr 1; omega)
theorem rot_same (l : List Nat) (m i : Nat) (hi : i ≤ m) (hl : m + i ≤ l.length) : sr l (m - i) m i = rot l (m - i) m (m + i) := by
  refine eq_of_at0 (by rw [sr_length, rot_length]) fun q => ?_
  rw [at0_sr _ _ _ _ _ (by omega) hl, at0_rot _ _ _ _ _ hl]
  repeat' split
  all_goals first | omega | rfl | (congr 1; omega)
theorem rot_long (l : List Nat) (m i j : Nat) (hi : i ≤ m) (hj : j < i) (hl : m + j ≤ l.length) : rot (sr l (m - i) m j) (m - (i - j)) m (m + j) = rot l (m - i) m (m + j) := by
  refine eq_of_at0 (by rw [rot_length, sr_length, rot_length]) fun q => ?_
  rw [at0_rot _ _ _ _ _ (by rw [sr_length]; exact hl), at0_rot _ _ _ _ _ hl]
  simp only [at0_sr l (m - i) m j _ (show m - i + j ≤ m by omega) hl]
  repeat' split
  all_goals first | omega | rfl | (congr 1; omega)
theorem rot_short (l : List Nat) (m i j : Nat) (hi : i ≤ m) (hj : i < j) (hl : m + j ≤ l.length) : rot (sr l (m - i) (m + j - i) i) (m - i) m (m + (j - i)) = rot l (m - i) m (m + j) := by
  refine eq_of_at0 (by rw [rot_length, sr_length, rot_length]) fun q => ?_
  rw [at0_rot _ _ _ _ _ (by rw [sr_length]; omega), at0_rot _ _ _ _ _ hl]
  simp only [at0_sr l (m - i) (m + j - i) i _ (show m - i + i ≤ m + j - i by omega) (show m + j - i + i ≤ l.length by omega)]
  repeat' split
  all_goals first | omega | rfl | (congr 1; omega)
/-- In order from a to b. -/
def srt (c : Nat → Int) (l : List Nat) (a b : Nat) : Prop := ∀ i j, a ≤ i → i < j → j < b → lx c (at0 l i) (at0 l j)
/-- Of the symbols from a to m none is above one of those from m to b. -/
def apt (l : List Nat) (a m b : Nat) : Prop := ∀ i j, a ≤ i → i < m → m ≤ j → j < b → at0 l i < at0 l j
/-- Only from a to b has something moved. -/
structure Mv (a b : Nat) (l l' : List Nat) : Prop where
  perm : l'.Perm l
  out : ∀ i, i < a ∨ b ≤ i → at0 l' i = at0 l i
  into : ∀ i, a ≤ i → i < b → ∃ k, a ≤ k ∧ k < b ∧ at0 l' i = at0 l k
theorem Mv.refl (a b : Nat) (l : List Nat) : Mv a b l l := ⟨List.Perm.refl _, fun _ _ => rfl, fun i h1 h2 => ⟨i, h1, h2, rfl⟩⟩
theorem Mv.len {a b : Nat} {l l' : List Nat} (h : Mv a b l l') : l'.length = l.length := h.perm.length_eq
theorem Mv.trans {a b : Nat} {l l' l2 : List Nat} (h : Mv a b l l') (k : Mv a b l' l2) : Mv a b l l2 :=
  ⟨k.perm.trans h.perm, fun i hi => (k.out i hi).trans (h.out i hi), fun i h1 h2 => by
    obtain ⟨j, j1, j2, j3⟩ := k.into i h1 h2
    obtain ⟨q, q1, q2, q3⟩ := h.into j j1 j2
    exact ⟨q, q1, q2, j3.trans q3⟩⟩
theorem Mv.wide {a b a' b' : Nat} {l l' : List Nat} (h : Mv a b l l') (ha : a' ≤ a) (hb : b ≤ b') : Mv a' b' l l' :=
  ⟨h.perm, fun i hi => h.out i (by omega), fun i h1 h2 => by
    by_cases hi : a ≤ i ∧ i < b
    · obtain ⟨k, k1, k2, k3⟩ := h.into i hi.1 hi.2
      exact ⟨k, by omega, by omega, k3⟩
    · exact ⟨i, h1, h2, h.out i (by omega)⟩⟩
theorem Mv.rot {l : List Nat} {s m e : Nat} (hs : s ≤ m) (he : m ≤ e) (hl : e ≤ l.length) (hp : (rot l s m e).Perm l) : Mv s e l (rot l s m e) :=
  ⟨hp, fun i hi => by rw [at0_rot _ _ _ _ _ hl, if_neg (by omega)], fun i h1 h2 => by
    rw [at0_rot _ _ _ _ _ hl, if_pos ⟨h1, h2⟩]
    split
    · exact ⟨_, by omega, by omega, rfl⟩
    · exact ⟨_, by omega, by omega, rfl⟩⟩
/-- A turned range is in order as a whole. -/
theorem rot_srt {c : Nat → Int} {l : List Nat} {a m b s e : Nat} (h1 : a ≤ s) (h2 : s ≤ m) (h3 : m ≤ e) (h4 : e ≤ b) (hl : b ≤ l.length) (hL : srt c l a m) (hR : srt c l m b)
    (y1 : ∀ i j, a ≤ i → i < s → m ≤ j → j < e → lx c (at0 l i) (at0 l j)) (y2 : ∀ i j, s ≤ i → i < m → e ≤ j → j < b → lx c (at0 l i) (at0 l j))
    (x1 : ∀ i j, a ≤ i → i < s → e ≤ j → j < b → lx c (at0 l i) (at0 l j)) (x2 : ∀ i j, m ≤ i → i < e → s ≤ j → j < m → lx c (at0 l i) (at0 l j)) : srt c (rot l s m e) a b := by
  intro i j hi hij hj
  rw [at0_rot _ _ _ _ _ (by omega), at0_rot _ _ _ _ _ (by omega)]
  repeat' split
  all_goals first | omega | (apply hL <;> omega) | (apply hR <;> omega) | (apply y1 <;> omega) | (apply y2 <;> omega) | (apply x1 <;> omega) | (apply x2 <;> omega) | skip
  by_cases q1 : j < s
  · apply hL <;> omega
  · by_cases q2 : i < s
    · apply x1 <;> omega
    · apply hR <;> omega
/-- Both halves merged: the whole is in order. -/
theorem halves_srt {c : Nat → Int} {l l3 l4 : List Nat} {a m b s e : Nat} (h1 : a ≤ s) (h2 : s ≤ m) (h3 : m ≤ e) (h4 : e ≤ b) (hl : b ≤ l.length) (hL : srt c l a m) (hR : srt c l m b)
    (x1 : ∀ i j, a ≤ i → i < s → e ≤ j → j < b → lx c (at0 l i) (at0 l j)) (x2 : ∀ i j, m ≤ i → i < e → s ≤ j → j < m → lx c (at0 l i) (at0 l j))
    (m3 : Mv a (s + (e - m)) (rot l s m e) l3) (m4 : Mv (s + (e - m)) b l3 l4) (s3 : srt c l3 a (s + (e - m))) (s4 : srt c l4 (s + (e - m)) b) : srt c l4 a b := by
  intro i j hi hij hj
  by_cases c1 : j < s + (e - m)
  · rw [m4.out i (by omega), m4.out j (by omega)]; exact s3 i j hi hij c1
  · by_cases c2 : s + (e - m) ≤ i
    · exact s4 i j c2 hij hj
    · rw [m4.out i (by omega)]
      obtain ⟨k, k1, k2, k3⟩ := m3.into i hi (by omega)
      obtain ⟨q, q1, q2, q3⟩ := m4.into j (by omega) hj
      rw [k3, q3, m3.out q (by omega)]
      rw [at0_rot _ _ _ _ _ (by omega), at0_rot _ _ _ _ _ (by omega)]
      repeat' split
      all_goals first | omega | (apply hL <;> omega) | (apply hR <;> omega) | (apply x1 <;> omega) | (apply x2 <;> omega)
/-- The two parts that the lower half is merged of. -/
theorem lower_pre {c : Nat → Int} {l : List Nat} {a m b s e : Nat} (_h1 : a ≤ s) (h2 : s ≤ m) (h3 : m ≤ e) (h4 : e ≤ b) (hl : b ≤ l.length) (hL : srt c l a m) (hR : srt c l m b) (hA : apt l a m b) :
    srt c (rot l s m e) a s ∧ srt c (rot l s m e) s (s + (e - m)) ∧ apt (rot l s m e) a s (s + (e - m)) := by
  refine ⟨fun i j hi hij hj => ?_, fun i j hi hij hj => ?_, fun i j hi him hj hjb => ?_⟩
  all_goals
    rw [at0_rot _ _ _ _ _ (by omega), at0_rot _ _ _ _ _ (by omega)]
    repeat' split
  all_goals first | omega | (apply hL <;> omega) | (apply hR <;> omega) | (apply hA <;> omega)
theorem upper_pre {c : Nat → Int} {l l3 : List Nat} {a m b s e : Nat} (_h1 : a ≤ s) (h2 : s ≤ m) (h3 : m ≤ e) (h4 : e ≤ b) (hl : b ≤ l.length) (hL : srt c l a m) (hR : srt c l m b) (hA : apt l a m b) (m3 : Mv a (s + (e - m)) (rot l s m e) l3) :
    srt c l3 (s + (e - m)) e ∧ srt c l3 e b ∧ apt l3 (s + (e - m)) e b := by
  refine ⟨fun i j hi hij hj => ?_, fun i j hi hij hj => ?_, fun i j hi him hj hjb => ?_⟩
  all_goals
    rw [m3.out i (by omega), m3.out j (by omega)]
    rw [at0_rot _ _ _ _ _ (by omega), at0_rot _ _ _ _ _ (by omega)]
    repeat' split
  all_goals first | omega | (apply hL <;> omega) | (apply hR <;> omega) | (apply hA <;> omega)
/-- A sorted whole is one alone. -/
theorem srt_pair {c : Nat → Int} {l : List Nat} (h : srt c l 0 l.length) : l.Pairwise (lx c) := by
  rw [List.pairwise_iff_getElem]
  intro i j hi hj hij
  have := h i j (Nat.zero_le _) hij hj
  simpa [at0, hi, hj] using this
theorem perm_pair {c : Nat → Int} {l l' : List Nat} (hp : l.Perm l') (h : l.Pairwise (lx c)) (h' : l'.Pairwise (lx c)) : l = l' :=
  List.Perm.eq_of_pairwise (fun _ _ _ _ h1 h2 => absurd h2 (lx_not h1)) h h' hp
end Go.Proofs.YtphdcgioeokfbaaDoor
/-
  The contracts of swapRangeCmpFunc and rotateCmpFunc.
-/
namespace Go.Proofs.YtphdcgioeokfbaaDoor
open Go.RowKit Hf

theorem SortAt.re {w0 w : World} {gd n cap gb : Nat} {v : Value} {counts : List Int} {l : List Nat} (h : SortAt w0 w gd n cap gb v counts l) : SortAt w w gd n cap gb v counts l :=
  ⟨h.own, h.len, h.box, h.sl, h.nb, h.na, h.mem, OnlyS.refl _ _⟩
theorem SortAt.thn {w0 w w' : World} {gd n cap gb : Nat} {v : Value} {counts : List Int} {l l' : List Nat} (h : SortAt w0 w gd n cap gb v counts l) (k : SortAt w w' gd n cap gb v counts l') : SortAt w0 w' gd n cap gb v counts l' :=
  ⟨k.own, k.len, k.box, k.sl, k.nb, k.na, k.mem, h.only.trans k.only⟩
set_option maxRecDepth 100000 in
set_option maxHeartbeats 2000000 in
theorem swapRange_walk (w : World) (gd n cap gb : Nat) (v f : Value) (counts : List Int) (l : List Nat) (a b k : Nat) (hS : SortAt w w gd n cap gb v counts l) (hn : n ≤ 1099511627776) (hab : a + k ≤ b) (hb : b + k ≤ n) :
    Calls Tryd.prog 93 #[.slice (some ⟨gd, 0, none⟩) n cap, .int .i64 (a : Int), .int .i64 (b : Int), .int .i64 (k : Int), f] w fun e w' => e = .returned (.tuple #[]) ∧ SortAt w w' gd n cap gb v counts (sr l a b k) ∧ (sr l a b k).Perm l := by
  have HZ : Hid (SortAt w w gd n cap gb v counts (sr l a b 0) ∧ (sr l a b 0).Perm l) := Lib.hid (by rw [sr_zero l a b (by omega) (by rw [hS.len]; omega)]; exact ⟨hS, List.Perm.refl _⟩)
  have HLN : Hid (l.length = n) := Lib.hid hS.len
  clear hS
  go_enter Tryd.func93, Tryd.ntmps93
  go_wp2_with fail
  go_loopw [10] (fun v10 wr => ∃ i : Nat, i ≤ k ∧ v10 = .int .i64 (i : Int) ∧ SortAt w wr gd n cap gb v counts (sr l a b i) ∧ (sr l a b i).Perm l) (fun v10 _ => k - (intOf v10).toNat)
  case atStart => exact ⟨0, Nat.zero_le _, rfl, HZ.out⟩
  case round =>
    obtain ⟨i, hi, rfl, hR⟩ := hrel
    have HR := Lib.hid hR
    clear hR HZ
    by_cases hlt : i < k
    · have hlti : (i : Int) < (k : Int) := by omega
      obtain ⟨d1, g1, hcap⟩ := HR.out.1.cell (a + i) (by omega)
      obtain ⟨d0, g0, _⟩ := HR.out.1.cell (b + i) (by omega)
      have HSW := Lib.hid (HR.out.1.swap (a + i) (b + i) (by omega) (by omega))
      have HPM : Hid ((sr l a b (i + 1)).Perm l) := Lib.hid (by
        rw [← sr_step l a b i (by omega) (by rw [HLN.out]; omega)]
        exact (swp_perm _ _ _ (by rw [sr_length, HLN.out]; omega) (by rw [sr_length, HLN.out]; omega)).trans HR.out.2)
      rw [sr_step l a b i (by omega) (by rw [HLN.out]; omega)] at HSW
      clear HR
      generalize (sr l a b i).getD (a + i) 0 = x at *
      generalize (sr l a b i).getD (b + i) 0 = y at *
      have d1b : (wr.setCell ⟨gd, b + i, none⟩ (.int .i64 (x : Int))).cell? ⟨gd, a + i, none⟩ = some (.int .i64 (x : Int)) := by
        rw [World.cell?_setCell_other _ _ _ _ (by intro e; simp only [Addr.mk.injEq] at e; omega)]; exact d1
      have d0b : (wr.setCell ⟨gd, a + i, none⟩ (.int .i64 (y : Int))).cell? ⟨gd, b + i, none⟩ = some (.int .i64 (y : Int)) := by
        rw [World.cell?_setCell_other _ _ _ _ (by intro e; simp only [Addr.mk.injEq] at e; omega)]; exact d0
      have s0 : IntKind.i64.wrap ((a : Int) + (i : Int)) = ((a + i : Nat) : Int) := by rw [Int.natCast_add]; exact IntWalk.i64_in _ (by omega)
      have s1 : IntKind.i64.wrap ((b : Int) + (i : Int)) = ((b + i : Nat) : Int) := by rw [Int.natCast_add]; exact IntWalk.i64_in _ (by omega)
      have b0 : ((a + i : Nat) : Int) < (n : Int) := by omega
      have b1 : ((b + i : Nat) : Int) < (n : Int) := by omega
      go_wp2_with fail
      go_region
      go_wp2_with fail
      exact ⟨⟨i + 1, by omega, by go_num, HSW.out.drewN 1, HPM.out⟩, by simp [intOf]; omega⟩
    · have hik : i = k := by omega
      have HK := Lib.hid hik
      have hlti : (k : Int) ≤ (i : Int) := by omega
      clear hik
      go_wp2_with fail
      go_end0
      exact ⟨rfl, by rw [← HK.out]; exact HR.out⟩
set_option maxRecDepth 100000 in
set_option maxHeartbeats 2000000 in
theorem rotate_walk (w : World) (gd n cap gb : Nat) (v f : Value) (counts : List Int) (l : List Nat) (a m b : Nat) (hS : SortAt w w gd n cap gb v counts l) (hn : n ≤ 1099511627776) (ham : a < m) (hmb : m < b) (hb : b ≤ n) :
    Calls Tryd.prog 92 #[.slice (some ⟨gd, 0, none⟩) n cap, .int .i64 (a : Int), .int .i64 (m : Int), .int .i64 (b : Int), f] w fun e w' => e = .returned (.tuple #[]) ∧ SortAt w w' gd n cap gb v counts (rot l a m b) ∧ (rot l a m b).Perm l := by
  have HS := Lib.hid hS
  have HLN : Hid (l.length = n) := Lib.hid hS.len
  clear hS
  go_enter Tryd.func92, Tryd.ntmps92
  go_wp2_with fail
  go_loopw [10, 11] (fun v10 v11 wr => ∃ (i j : Nat) (lq : List Nat), 0 < i ∧ 0 < j ∧ i ≤ m - a ∧ j ≤ b - m ∧ v10 = .int .i64 (i : Int) ∧ v11 = .int .i64 (j : Int) ∧ SortAt w wr gd n cap gb v counts lq ∧ lq.Perm l ∧ rot lq (m - i) m (m + j) = rot l a m b) (fun v10 v11 _ => (intOf v10).toNat + (intOf v11).toNat)
  case atStart => exact ⟨m - a, b - m, l, by omega, by omega, Nat.le_refl _, Nat.le_refl _, by go_num, by go_num, HS.out, List.Perm.refl _, by rw [show m - (m - a) = a by omega, show m + (b - m) = b by omega]⟩
  case round =>
    obtain ⟨i, j, lq, hi0, hj0, hi, hj, rfl, rfl, hR, hP, hE⟩ := hrel
    have HR := Lib.hid hR
    have HP := Lib.hid hP
    have HE := Lib.hid hE
    have hlq : lq.length = n := hR.len
    clear hR HS hP hE
    rcases Nat.lt_trichotomy i j with hlt | heq | hlt
    · have hlti : (i : Int) < (j : Int) := by omega
      have hnl : ¬ (j : Int) < (i : Int) := by omega
      have hne : ¬ (i : Int) = (j : Int) := by omega
      have hnb : ((i : Int) != (j : Int)) = true := bne_iff_ne.2 hne
      have hc := swapRange_walk wr gd n cap gb v f counts lq (m - i) (m + j - i) i HR.out.re hn (by omega) (by omega)
      rw [show ((m - i : Nat) : Int) = (m : Int) - (i : Int) by omega, show ((m + j - i : Nat) : Int) = (m : Int) + (j : Int) - (i : Int) by omega] at hc
      have HC := Lib.hid hc
      have HE2 : Hid (rot (sr lq (m - i) (m + j - i) i) (m - i) m (m + (j - i)) = rot l a m b) := Lib.hid ((rot_short lq m i j (by omega) hlt (by omega)).trans HE.out)
      clear hc HE
      go_wp2_with fail
      refine HC.out.mono ?_
      rintro e w2 ⟨rfl, hS2, hp2⟩
      have HR2 := Lib.hid (HR.out.thn hS2)
      have HP2 := Lib.hid (hp2.trans HP.out)
      clear hS2 hp2 HC HR HP
      go_wp2_with fail
      exact ⟨⟨i, j - i, _, hi0, by omega, hi, by omega, rfl, by go_num, HR2.out, HP2.out, HE2.out⟩, by simp [intOf]; omega⟩
    · subst heq
      clear hj0
      have hc := swapRange_walk wr gd n cap gb v f counts lq (m - i) m i HR.out.re hn (by omega) (by omega)
      rw [show ((m - i : Nat) : Int) = (m : Int) - (i : Int) by omega] at hc
      have HC := Lib.hid hc
      have HE2 : Hid (sr lq (m - i) m i = rot l a m b) := Lib.hid ((rot_same lq m i (by omega) (by omega)).trans HE.out)
      clear hc HE
      go_wp2_with fail
      refine HC.out.mono ?_
      rintro e w2 ⟨rfl, hS2, hp2⟩
      have HR2 := Lib.hid (HR.out.thn hS2)
      have HP2 := Lib.hid (hp2.trans HP.out)
      clear hS2 hp2 HC HR HP
      go_wp2_with fail
      go_end0
      rw [HE2.out] at HR2 HP2
      exact ⟨rfl, HR2.out, HP2.out⟩
    · have hlti : (j : Int) < (i : Int) := by omega
      have hne : ¬ (i : Int) = (j : Int) := by omega
      have hnb : ((i : Int) != (j : Int)) = true := bne_iff_ne.2 hne
      have hc := swapRange_walk wr gd n cap gb v f counts lq (m - i) m j HR.out.re hn (by omega) (by omega)
      rw [show ((m - i : Nat) : Int) = (m : Int) - (i : Int) by omega] at hc
      have HC := Lib.hid hc
      have HE2 : Hid (rot (sr lq (m - i) m j) (m - (i - j)) m (m + j) = rot l a m b) := Lib.hid ((rot_long lq m i j (by omega) hlt (by omega)).trans HE.out)
      clear hc HE
      go_wp2_with fail
      refine HC.out.mono ?_
      rintro e w2 ⟨rfl, hS2, hp2⟩
      have HR2 := Lib.hid (HR.out.thn hS2)
      have HP2 := Lib.hid (hp2.trans HP.out)
      clear hS2 hp2 HC HR HP
      go_wp2_with fail
      exact ⟨⟨i - j, j, _, by omega, hj0, by omega, hj, by go_num, rfl, HR2.out, HP2.out, HE2.out⟩, by simp [intOf]; omega⟩
end Go.Proofs.YtphdcgioeokfbaaDoor
