/-
  Merged, in the order in which they build: Kraft.
-/
import Derived.Test.YtphdcgioeokfbaaDoorMg12
/-
  Lengths by packages are full.
-/
namespace Go.Proofs.YtphdcgioeokfbaaDoor
open Go.RowKit Hf
theorem lst_length (items : List (Int × Bool)) (j : Nat) : (lst items (j + 1)).length = items.length + (lst items j).length / 2 := by
  show (mg items (pk (lst items j))).length = _
  rw [mg_length, pk_length]
theorem lst_le (items : List (Int × Bool)) (j : Nat) : (lst items j).length ≤ 2 * items.length := by
  induction j with
  | zero => show items.length ≤ _; omega
  | succ j ih => rw [lst_length]; omega
theorem lst_ge (items : List (Int × Bool)) (j : Nat) : ∀ i, items.length ≤ 2 ^ (i + j) → 2 * items.length ≤ (lst items j).length + 2 ^ i := by
  induction j with
  | zero => intro i h; show _ ≤ items.length + _; simp at h; omega
  | succ j ih =>
    intro i h
    have := ih (i + 1) (by rw [show i + 1 + j = i + (j + 1) by omega]; exact h)
    rw [lst_length]
    rw [Nat.pow_succ] at this
    omega
/-- How many are taken of a round's list, and how many of these are symbols. -/
def tk (k : Nat) (ls : Nat → List (Int × Bool)) (L : Nat) : Nat → Nat
  | 0 => 2 * k - 2
  | d + 1 => 2 * pcs ((ls (L - 1 - d)).take (tk k ls L d))
def sq (k : Nat) (ls : Nat → List (Int × Bool)) (L d : Nat) : Nat := tk k ls L d - pcs ((ls (L - 1 - d)).take (tk k ls L d))
theorem stt_tk (syms : List Nat) (zs : List Int) (ls : Nat → List (Int × Bool)) (L d : Nat) : (stt syms zs ls L d).2 = tk syms.length ls L d := by
  induction d with
  | zero => rfl
  | succ d ih => show 2 * pcs ((ls (L - 1 - d)).take (stt syms zs ls L d).2) = _; rw [ih]; rfl
theorem stt_sq (syms : List Nat) (zs : List Int) (ls : Nat → List (Int × Bool)) (L d : Nat) : (stt syms zs ls L (d + 1)).1 = bump (syms.take (sq syms.length ls L d)) (stt syms zs ls L d).1 := by
  show bump (syms.take ((stt syms zs ls L d).2 - pcs ((ls (L - 1 - d)).take (stt syms zs ls L d).2))) _ = _
  rw [stt_tk]; rfl
theorem pcs_lst (cs : List Int) (j T : Nat) : pcs ((lst (its cs) (j + 1)).take T) ≤ (lst (its cs) j).length / 2 := by
  rw [pcs_count]
  refine Nat.le_trans ((List.take_sublist _ _).countP_le) ?_
  show (mg (its cs) (pk (lst (its cs) j))).countP _ ≤ _
  rw [mg_count, ← pcs_count, ← pcs_count, none_pcs (its_flag cs), Nat.zero_add, ← pk_length]
  exact pcs_le _
/-- What is taken is there. -/
theorem tk_le (cs : List Int) (k L : Nat) (hk : cs.length = k) (_hk1 : 1 ≤ k) (hL : k ≤ 2 ^ L) (d : Nat) (hd : d < L) : tk k (lst (its cs)) L d ≤ (lst (its cs) (L - 1 - d)).length := by
  cases d with
  | zero =>
    have := lst_ge (its cs) (L - 1) 1 (by rw [its_length, hk, show 1 + (L - 1) = L by omega]; exact hL)
    rw [its_length, hk] at this
    show 2 * k - 2 ≤ _
    simp only [Nat.sub_zero]
    omega
  | succ d =>
    have := pcs_lst cs (L - 1 - (d + 1)) (tk k (lst (its cs)) L d)
    show 2 * pcs ((lst (its cs) (L - 1 - d)).take (tk k (lst (its cs)) L d)) ≤ _
    rw [show L - 1 - d = L - 1 - (d + 1) + 1 by omega]
    omega
theorem sq_le (cs : List Int) (k L : Nat) (hk : cs.length = k) (hk1 : 1 ≤ k) (hL : k ≤ 2 ^ L) (d : Nat) (hd : d < L) : sq k (lst (its cs)) L d ≤ k := by
  unfold sq
  rw [take_split _ _ (tk_le cs k L hk hk1 hL d hd)]
  refine Nat.le_trans ((List.take_sublist _ _).countP_le) ?_
  rw [lst_all, hk]; exact Nat.le_refl _
theorem sq_fall (cs : List Int) (k L : Nat) (hr : ris (its cs)) (h0 : ∀ c ∈ cs, 0 ≤ c) (d : Nat) (hd : d + 1 < L) : sq k (lst (its cs)) L (d + 1) ≤ sq k (lst (its cs)) L d := by
  have := items_fall cs hr h0 (L - 1 - (d + 1)) (tk k (lst (its cs)) L d) _ rfl
  rw [show L - 1 - (d + 1) + 1 = L - 1 - d by omega] at this
  exact this
theorem tk_last (cs : List Int) (k L : Nat) (hL : 1 ≤ L) : tk k (lst (its cs)) L L = 0 := by
  obtain ⟨d, rfl⟩ : ∃ d, L = d + 1 := ⟨L - 1, by omega⟩
  show 2 * pcs ((lst (its cs) (d + 1 - 1 - d)).take _) = 0
  rw [show d + 1 - 1 - d = 0 by omega]
  show 2 * pcs ((its cs).take _) = 0
  rw [none_pcs (fun e he => its_flag cs e (List.mem_of_mem_take he))]
/-- Added up over a row. -/
def gs (g : Int → Int) (zs : List Int) : Int := (zs.map g).sum
theorem gs_set (g : Int → Int) (zs : List Int) (s : Nat) (hs : s < zs.length) (y : Int) : gs g (zs.set s y) = gs g zs - g (zs.getD s 0) + g y := by
  induction zs generalizing s with
  | nil => simp at hs
  | cons z t ih =>
    cases s with
    | zero => simp [gs]; omega
    | succ s =>
      have := ih s (by simpa using hs)
      simp only [gs, List.set_cons_succ, List.map_cons, List.sum_cons, List.getD_cons_succ] at this ⊢
      omega
theorem bump_cons (s : Nat) (t : List Nat) (zs : List Int) : bump (s :: t) zs = bump t (zs.set s (zs.getD s 0 + 1)) := rfl
theorem getD_set (zs : List Int) (s x : Nat) (y : Int) (hs : s < zs.length) : (zs.set s y).getD x 0 = if x = s then y else zs.getD x 0 := by
  by_cases h : x = s
  · subst h; simp [hs]
  · rw [if_neg h]
    simp only [List.getD_eq_getElem?_getD, List.getElem?_set]
    rw [if_neg (by omega)]
theorem bump_at (ss : List Nat) (zs : List Int) (x : Nat) (h : ∀ s ∈ ss, s < zs.length) : (bump ss zs).getD x 0 = zs.getD x 0 + (ss.count x : Nat) := by
  induction ss generalizing zs with
  | nil => simp [bump]
  | cons s t ih =>
    rw [bump_cons, ih _ (by intro y hy; rw [List.length_set]; exact h y (by simp [hy])), getD_set _ _ _ _ (h s (by simp)), List.count_cons]
    by_cases hx : x = s
    · subst hx; simp; omega
    · rw [if_neg hx, if_neg (by simpa using fun e => hx e.symm)]; rfl
theorem bump_gs (g : Int → Int) (ss : List Nat) (zs : List Int) (v : Int) (h : ∀ s ∈ ss, s < zs.length) (hv : ∀ s ∈ ss, zs.getD s 0 = v) (hn : ss.Nodup) : gs g (bump ss zs) = gs g zs + ss.length * (g (v + 1) - g v) := by
  induction ss generalizing zs with
  | nil => simp [bump]
  | cons s t ih =>
    have hn1 := List.nodup_cons.1 hn
    rw [bump_cons, ih _ (by intro y hy; rw [List.length_set]; exact h y (by simp [hy])) (fun y hy => by
      rw [getD_set _ _ _ _ (h s (by simp)), if_neg (by intro e; subst e; exact hn1.1 hy)]; exact hv y (by simp [hy])) hn1.2, gs_set _ _ _ (h s (by simp)), hv s (by simp), List.length_cons, Int.natCast_add, Int.add_mul]
    simp
    omega
/-- What a length has, in parts of 2 to -15. -/
def g3 (z : Int) : Int := if 0 < z ∧ z ≤ 15 then 2 ^ (15 - z.toNat) else 0
theorem kr_gs (zs : List Int) : (kr zs : Int) = gs g3 zs := by
  rw [← sm_all, ← List.reverse_reverse zs]
  generalize zs.reverse = ys
  induction ys with
  | nil => simp [sm, gs]
  | cons y t ih =>
    rw [List.reverse_cons, sm_snoc, Int.natCast_add, ih]
    simp only [gs, List.map_append, List.sum_append, List.map_cons, List.map_nil, List.sum_cons, List.sum_nil]
    by_cases h : 0 < y ∧ y ≤ 15
    · rw [if_pos (by omega), g3, if_pos h]; simp
    · rw [if_neg (by omega), g3, if_neg h]; simp
theorem g3_pos (z : Int) : 0 ≤ g3 z := by
  unfold g3; split
  · exact Int.le_of_lt (Int.pow_pos (by decide))
  · exact Int.le_refl _
theorem gs_pos (g : Int → Int) (hg : ∀ z, 0 ≤ g z) (zs : List Int) : 0 ≤ gs g zs := by
  induction zs with
  | nil => exact Int.le_refl _
  | cons z t ih => have := hg z; simp only [gs, List.map_cons, List.sum_cons] at ih ⊢; omega
theorem gs_mem (g : Int → Int) (hg : ∀ z, 0 ≤ g z) (zs : List Int) (z : Int) (hz : z ∈ zs) : g z ≤ gs g zs := by
  induction zs with
  | nil => cases hz
  | cons y t ih =>
    have h1 := hg y
    have h2 := gs_pos g hg t
    simp only [gs, List.map_cons, List.sum_cons] at ih h2 ⊢
    rcases List.mem_cons.1 hz with rfl | hz
    · omega
    · have := ih hz; omega
theorem g3_up (d : Nat) (h : 1 ≤ d) (h2 : d ≤ 14) : g3 ((d : Int) + 1) - g3 d = - 2 ^ (14 - d) := by
  unfold g3
  rw [if_pos (by omega), if_pos (by omega)]
  rw [show ((d : Int) + 1).toNat = d + 1 by omega, Int.toNat_natCast, show 15 - d = 14 - d + 1 by omega, show 15 - (d + 1) = 14 - d by omega, Int.pow_succ]
  omega
theorem zeros_gs (n : Nat) (g : Int → Int) (h : g 0 = 0) : gs g (List.replicate n 0) = 0 := by
  induction n with
  | zero => rfl
  | succ n ih => rw [List.replicate_succ]; simp only [gs, List.map_cons, List.sum_cons] at ih ⊢; omega
/-- What holds behind d rounds. -/
structure Rounds (syms : List Nat) (n k L : Nat) (ls : Nat → List (Int × Bool)) (d : Nat) (zs : List Int) : Prop where
  len : zs.length = n
  bound : ∀ x, 0 ≤ zs.getD x 0 ∧ zs.getD x 0 ≤ d
  top : ∀ x ∈ syms.take (if d = 0 then k else sq k ls L (d - 1)), zs.getD x 0 = d
  out : ∀ x, x ∉ syms → zs.getD x 0 = 0
  some : 0 < d → ∀ x ∈ syms.take (sq k ls L 0), 1 ≤ zs.getD x 0
  fall : ∀ i j, i < j → j < k → zs.getD (syms.getD j 0) 0 ≤ zs.getD (syms.getD i 0) 0
  sum : if d = 0 then gs g3 zs = 0 else 2 * gs g3 zs + (k - 1 : Nat) * 2 ^ 16 = sq k ls L 0 * 2 ^ 16 + tk k ls L d * 2 ^ (15 - d)
theorem count_nodup {l : List Nat} (h : l.Nodup) (x : Nat) : l.count x = if x ∈ l then 1 else 0 := h.count
theorem take_sub {l : List Nat} {a b : Nat} (h : a ≤ b) {x : Nat} (hx : x ∈ l.take a) : x ∈ l.take b := by
  rw [show a = min a b by omega, ← List.take_take] at hx
  exact List.mem_of_mem_take hx
theorem mem_take_iff {l : List Nat} (hn : l.Nodup) (i a : Nat) (hi : i < l.length) : l.getD i 0 ∈ l.take a ↔ i < a := by
  have e : l.getD i 0 = l[i] := by simp [hi]
  rw [e]
  constructor
  · intro h
    obtain ⟨j, hj, h1⟩ := List.getElem_of_mem h
    rw [List.getElem_take] at h1
    rw [List.length_take] at hj
    have := (List.getElem_inj hn).1 h1
    omega
  · intro h
    rw [List.mem_iff_getElem]
    exact ⟨i, by rw [List.length_take]; omega, by rw [List.getElem_take]⟩
theorem rounds (cs : List Int) (syms : List Nat) (n k L : Nat) (hk : syms.length = k) (hc : cs.length = k) (hk1 : 2 ≤ k) (hL : k ≤ 2 ^ L) (hL15 : L ≤ 15) (hr : ris (its cs)) (h0 : ∀ c ∈ cs, 0 ≤ c) (hs : ∀ x ∈ syms, x < n) (hn : syms.Nodup) (d : Nat) (hd : d ≤ L) :
    Rounds syms n k L (lst (its cs)) d (stt syms (List.replicate n 0) (lst (its cs)) L d).1 := by
  induction d with
  | zero =>
    have e : ∀ x, (List.replicate n (0 : Int)).getD x 0 = 0 := by
      intro x; simp only [List.getD_eq_getElem?_getD, List.getElem?_replicate]; split <;> rfl
    show Rounds _ _ _ _ _ _ (List.replicate n 0)
    refine ⟨by simp, fun x => by rw [e x]; omega, fun x _ => by rw [e x]; rfl, fun x _ => e x, fun h => by omega, fun i j _ _ => by rw [e, e]; exact Int.le_refl _, ?_⟩
    rw [if_pos rfl]; exact zeros_gs _ _ (by simp [g3])
  | succ d ih =>
    have ih := ih (by omega)
    rw [stt_sq, hk]
    generalize (stt syms (List.replicate n 0) (lst (its cs)) L d).1 = zs at *
    have hsq := sq_le cs k L hc (by omega) hL d (by omega)
    have htop : ∀ x ∈ syms.take (sq k (lst (its cs)) L d), zs.getD x 0 = d := by
      intro x hx
      refine ih.top x ?_
      split
      · exact take_sub hsq hx
      · refine take_sub ?_ hx
        have := sq_fall cs k L hr h0 (d - 1) (by omega)
        rw [show d - 1 + 1 = d by omega] at this; exact this
    have hlt : ∀ s ∈ syms.take (sq k (lst (its cs)) L d), s < zs.length := fun s h => by rw [ih.len]; exact hs s (List.mem_of_mem_take h)
    have hnt : (syms.take (sq k (lst (its cs)) L d)).Nodup := List.Pairwise.sublist (List.take_sublist _ _) hn
    have hat := fun x => bump_at (syms.take (sq k (lst (its cs)) L d)) zs x hlt
    have hcn := fun x => count_nodup hnt x
    refine ⟨by rw [bump_length, ih.len], fun x => ?_, fun x hx => ?_, fun x hx => ?_, fun _ x hx => ?_, fun i j hij hj => ?_, ?_⟩
    · rw [hat, hcn]
      have := ih.bound x
      split
      · rename_i h; have := htop x h; omega
      · omega
    · rw [if_neg (by omega), Nat.add_sub_cancel] at hx
      rw [hat, hcn, if_pos hx, htop x hx]; simp
    · rw [hat, hcn, if_neg (fun h => hx (List.mem_of_mem_take h)), ih.out x hx]; simp
    · rw [hat, hcn]
      rcases Nat.eq_zero_or_pos d with h | h
      · subst h; rw [if_pos hx]; have := ih.bound x; omega
      · have := ih.some h x hx; split <;> omega
    · have := ih.fall i j hij hj
      rw [hat, hat, hcn, hcn]
      have m1 := mem_take_iff hn i (sq k (lst (its cs)) L d) (by omega)
      have m2 := mem_take_iff hn j (sq k (lst (its cs)) L d) (by omega)
      by_cases h1 : j < sq k (lst (its cs)) L d
      · rw [if_pos (m2.2 h1), if_pos (m1.2 (by omega))]; omega
      · rw [if_neg (fun h => h1 (m2.1 h))]; split <;> omega
    · rw [if_neg (by omega), bump_gs g3 _ _ d hlt htop hnt, List.length_take, Nat.min_eq_left (by omega)]
      have e2 : tk k (lst (its cs)) L (d + 1) = 2 * (tk k (lst (its cs)) L d - sq k (lst (its cs)) L d) ∧ sq k (lst (its cs)) L d ≤ tk k (lst (its cs)) L d := by
        have h2 : pcs ((lst (its cs) (L - 1 - d)).take (tk k (lst (its cs)) L d)) ≤ tk k (lst (its cs)) L d := by
          have := pcs_le ((lst (its cs) (L - 1 - d)).take (tk k (lst (its cs)) L d)); rw [List.length_take] at this; omega
        unfold sq
        refine ⟨?_, by omega⟩
        show 2 * pcs ((lst (its cs) (L - 1 - d)).take (tk k (lst (its cs)) L d)) = _
        omega
      have hsum := ih.sum
      rcases Nat.eq_zero_or_pos d with h | h
      · subst h
        rw [if_pos rfl] at hsum
        rw [hsum]
        have e3 : tk k (lst (its cs)) L 0 = 2 * k - 2 := rfl
        have e4 : g3 (((0 : Nat) : Int) + 1) - g3 ((0 : Nat) : Int) = 16384 := by decide
        rw [e4]
        simp only [Nat.zero_add] at e2 ⊢
        obtain ⟨e2, e5⟩ := e2
        rw [e2, e3]
        rw [e3] at e5
        simp only [Nat.reduceSub, Int.reducePow]
        omega
      · rw [if_neg (by omega)] at hsum
        rw [g3_up d h (by omega)]
        obtain ⟨e2, e5⟩ := e2
        rw [e2, show 15 - (d + 1) = 14 - d by omega]
        rw [show 15 - d = 14 - d + 1 by omega, show (2 : Int) ^ (14 - d + 1) = 2 ^ (14 - d) * 2 from Int.pow_succ _ _] at hsum
        have e6 : ((2 * (tk k (lst (its cs)) L d - sq k (lst (its cs)) L d) : Nat) : Int) = 2 * ((tk k (lst (its cs)) L d : Int) - (sq k (lst (its cs)) L d : Int)) := by omega
        rw [e6]
        generalize (2 : Int) ^ (14 - d) = q at *
        generalize (tk k (lst (its cs)) L d : Int) = t at *
        generalize (sq k (lst (its cs)) L d : Int) = s at *
        have a1 : 2 * (gs g3 zs + s * -q) = 2 * gs g3 zs - 2 * (s * q) := by rw [Int.mul_neg]; omega
        have a2 : 2 * (t - s) * q = 2 * (t * q) - 2 * (s * q) := by rw [Int.mul_assoc, Int.sub_mul]; omega
        have a3 : t * (q * 2) = 2 * (t * q) := by rw [← Int.mul_assoc]; omega
        rw [a1, a2]
        rw [a3] at hsum
        omega
theorem fin_sum (cs : List Int) (syms : List Nat) (n k L : Nat) (hk : syms.length = k) (hc : cs.length = k) (hk1 : 2 ≤ k) (hL : k ≤ 2 ^ L) (hL1 : 1 ≤ L) (hL15 : L ≤ 15) (hr : ris (its cs)) (h0 : ∀ c ∈ cs, 0 ≤ c) (hs : ∀ x ∈ syms, x < n) (hn : syms.Nodup) :
    kr (stt syms (List.replicate n 0) (lst (its cs)) L L).1 = 32768 ∧ ∀ x ∈ syms, 1 ≤ (stt syms (List.replicate n 0) (lst (its cs)) L L).1.getD x 0 := by
  have hR := rounds cs syms n k L hk hc hk1 hL hL15 hr h0 hs hn L (Nat.le_refl _)
  generalize (stt syms (List.replicate n 0) (lst (its cs)) L L).1 = zs at *
  have h1 := hR.sum
  rw [if_neg (by omega), tk_last cs k L hL1, ← kr_gs] at h1
  have h2 := sq_le cs k L hc (by omega) hL 0 (by omega)
  have h3 := hR.some (by omega)
  have h4 : sq k (lst (its cs)) L 0 = k := by
    apply Classical.byContradiction
    intro h
    simp only [Int.reducePow] at h1
    have e0 : (kr zs : Int) = 0 := by omega
    have e1 : sq k (lst (its cs)) L 0 = k - 1 := by omega
    have h5 := h3 (syms.getD 0 0) (by rw [mem_take_iff hn _ _ (by omega)]; omega)
    have h6 := hR.bound (syms.getD 0 0)
    have h7 : syms.getD 0 0 < zs.length := by
      rw [hR.len]; refine hs _ ?_
      rw [List.getD_eq_getElem?_getD, List.getElem?_eq_getElem (by omega)]; exact List.getElem_mem _
    have h8 : zs.getD (syms.getD 0 0) 0 ∈ zs := by
      rw [List.getD_eq_getElem?_getD, List.getElem?_eq_getElem h7]; exact List.getElem_mem _
    have h9 := gs_mem g3 g3_pos zs _ h8
    rw [← kr_gs, e0] at h9
    unfold g3 at h9
    rw [if_pos (by omega)] at h9
    have : (0 : Int) < 2 ^ (15 - (zs.getD (syms.getD 0 0) 0).toNat) := Int.pow_pos (by decide)
    omega
  refine ⟨?_, fun x hx => h3 x (by rw [h4, ← hk, List.take_length]; exact hx)⟩
  rw [h4] at h1
  simp only [Int.reducePow] at h1
  omega
theorem fin_bound (cs : List Int) (syms : List Nat) (n k L : Nat) (hk : syms.length = k) (hc : cs.length = k) (hk1 : 2 ≤ k) (hL : k ≤ 2 ^ L) (hL15 : L ≤ 15) (hr : ris (its cs)) (h0 : ∀ c ∈ cs, 0 ≤ c) (hs : ∀ x ∈ syms, x < n) (hn : syms.Nodup) :
    (stt syms (List.replicate n 0) (lst (its cs)) L L).1.length = n ∧ (∀ x, 0 ≤ (stt syms (List.replicate n 0) (lst (its cs)) L L).1.getD x 0 ∧ (stt syms (List.replicate n 0) (lst (its cs)) L L).1.getD x 0 ≤ L) ∧
    (∀ x, x ∉ syms → (stt syms (List.replicate n 0) (lst (its cs)) L L).1.getD x 0 = 0) ∧ (∀ i j, i < j → j < k → (stt syms (List.replicate n 0) (lst (its cs)) L L).1.getD (syms.getD j 0) 0 ≤ (stt syms (List.replicate n 0) (lst (its cs)) L L).1.getD (syms.getD i 0) 0) := by
  have hR := rounds cs syms n k L hk hc hk1 hL hL15 hr h0 hs hn L (Nat.le_refl _)
  exact ⟨hR.len, hR.bound, hR.out, hR.fall⟩
theorem sttOk_all (cs : List Int) (syms : List Nat) (n k L : Nat) (hk : syms.length = k) (hc : cs.length = k) (hk1 : 2 ≤ k) (hk2 : k ≤ 1024) (hL : k ≤ 2 ^ L) (hL15 : L ≤ 15) (hr : ris (its cs)) (h0 : ∀ c ∈ cs, 0 ≤ c) (hs : ∀ x ∈ syms, x < n) (hn : syms.Nodup) :
    sttOk syms (List.replicate n 0) (lst (its cs)) L := by
  intro d hd
  have hR := rounds cs syms n k L hk hc hk1 hL hL15 hr h0 hs hn d (by omega)
  have h1 := tk_le cs k L hc (by omega) hL d hd
  have h2 := sq_le cs k L hc (by omega) hL d hd
  have h3 := lst_le (its cs) (L - 1 - d)
  rw [its_length] at h3
  rw [stt_tk, hk]
  refine ⟨h1, h2, fun z hz => ?_, by omega⟩
  obtain ⟨i, hi, rfl⟩ := List.getElem_of_mem hz
  have := hR.bound i
  rw [List.getD_eq_getElem?_getD, List.getElem?_eq_getElem hi] at this
  simp only [Option.getD_some] at this
  omega
end Go.Proofs.YtphdcgioeokfbaaDoor
