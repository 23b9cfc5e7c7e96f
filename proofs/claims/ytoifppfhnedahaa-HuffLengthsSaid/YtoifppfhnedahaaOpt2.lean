/-
  The document's lengths cost least.
-/
import Derived.Test.YtoifppfhnedahaaOpt
import Derived.Test.YtoifppfhnedahaaSymF
namespace Go.Proofs.Ytoifppfhnedahaa
open Go.RowKit Hf
theorem fsum_add (f g : Nat → Int) (n : Nat) : fsum (fun i => f i + g i) n = fsum f n + fsum g n := by
  induction n with
  | zero => rfl
  | succ n ih => rw [fsum, fsum, fsum, ih]; omega
theorem fsum_congr (f g : Nat → Int) (n : Nat) (h : ∀ i, i < n → f i = g i) : fsum f n = fsum g n := by
  induction n with
  | zero => rfl
  | succ n ih => rw [fsum, fsum, ih (fun i hi => h i (by omega)), h n (by omega)]
theorem fsum_le (f g : Nat → Int) (n : Nat) (h : ∀ i, i < n → f i ≤ g i) : fsum f n ≤ fsum g n := by
  induction n with
  | zero => exact Int.le_refl _
  | succ n ih =>
    have := ih (fun i hi => h i (by omega))
    have := h n (by omega)
    rw [fsum, fsum]; omega
theorem fsum_zero (n : Nat) : fsum (fun _ => 0) n = 0 := by
  induction n with
  | zero => rfl
  | succ n ih => rw [fsum, ih]; rfl
theorem fsum_head (f : Nat → Int) (n : Nat) : fsum f (n + 1) = f 0 + fsum (fun i => f (i + 1)) n := by
  induction n with
  | zero => simp [fsum]
  | succ n ih => rw [fsum, ih, fsum]; omega
theorem fsum_rev (f : Nat → Int) (n : Nat) : fsum (fun i => f (n - 1 - i)) n = fsum f n := by
  induction n with
  | zero => rfl
  | succ n ih =>
    rw [fsum_head, fsum, ← ih]
    have : fsum (fun i => f (n + 1 - 1 - (i + 1))) n = fsum (fun i => f (n - 1 - i)) n := fsum_congr _ _ _ (fun i hi => by rw [show n + 1 - 1 - (i + 1) = n - 1 - i by omega])
    rw [this]
    simp only [Nat.add_sub_cancel, Nat.sub_zero]
    omega
/-- Added up over a row of symbols. -/
def ssum (f : Nat → Int) (ss : List Nat) : Int := (ss.map f).sum
theorem ssum_cons (f : Nat → Int) (s : Nat) (t : List Nat) : ssum f (s :: t) = f s + ssum f t := rfl
theorem ssum_append (f : Nat → Int) (a b : List Nat) : ssum f (a ++ b) = ssum f a + ssum f b := by simp [ssum]
theorem ssum_congr (f g : Nat → Int) (ss : List Nat) (h : ∀ x ∈ ss, f x = g x) : ssum f ss = ssum g ss := by
  unfold ssum; rw [List.map_congr_left h]
theorem ssum_add (f g : Nat → Int) (ss : List Nat) : ssum (fun x => f x + g x) ss = ssum f ss + ssum g ss := by
  induction ss with
  | nil => rfl
  | cons s t ih => rw [ssum_cons, ssum_cons, ssum_cons, ih]; omega
theorem ssum_perm (f : Nat → Int) {a b : List Nat} (h : a.Perm b) : ssum f a = ssum f b := by
  induction h with
  | nil => rfl
  | cons x _ ih => rw [ssum_cons, ssum_cons, ih]
  | swap x y l => rw [ssum_cons, ssum_cons, ssum_cons, ssum_cons]; omega
  | trans _ _ h1 h2 => exact h1.trans h2
/-- A sum over all is one over those where something is. -/
theorem fsum_some (f : Nat → Int) (p : Nat → Bool) (n : Nat) (h : ∀ i, p i = false → f i = 0) : fsum f n = ssum f ((List.range n).filter p) := by
  induction n with
  | zero => rfl
  | succ n ih =>
    rw [fsum, ih, List.range_succ, List.filter_append, ssum_append]
    cases hp : p n with
    | true => simp [hp, ssum]
    | false => rw [h n hp]; simp [hp, ssum]
/-- The sum of a length's parts, one for each depth. -/
theorem ssum_depth (c : Nat → Int) (o : Nat → Int) (ss : List Nat) (L : Nat) (h : ∀ x ∈ ss, 0 ≤ o x ∧ o x ≤ L) : ssum (fun x => c x * o x) ss = fsum (fun d => ssum c (ss.filter fun x => decide ((d : Int) < o x))) L := by
  induction ss with
  | nil =>
    have : fsum (fun d => ssum c (([] : List Nat).filter fun x => decide ((d : Int) < o x))) L = fsum (fun _ => 0) L := fsum_congr _ _ _ fun _ _ => rfl
    rw [this, fsum_zero]; rfl
  | cons s t ih =>
    have hs := h s (by simp)
    have key : ∀ M : Nat, fsum (fun d => if (d : Int) < o s then c s else 0) M = c s * min (o s) M := by
      intro M
      induction M with
      | zero => rw [fsum, show min (o s) ((0 : Nat) : Int) = 0 by omega]; simp
      | succ M ihM =>
        rw [fsum, ihM]
        by_cases hM : (M : Int) < o s
        · rw [if_pos hM, show min (o s) ((M + 1 : Nat) : Int) = min (o s) (M : Int) + 1 by omega, Int.mul_add]; omega
        · rw [if_neg hM, show min (o s) ((M + 1 : Nat) : Int) = min (o s) (M : Int) by omega]; omega
    have e : fsum (fun d => ssum c ((s :: t).filter fun x => decide ((d : Int) < o x))) L = fsum (fun d => (if (d : Int) < o s then c s else 0) + ssum c (t.filter fun x => decide ((d : Int) < o x))) L := fsum_congr _ _ _ fun d _ => by
      rw [List.filter_cons]
      by_cases hd : (d : Int) < o s
      · rw [if_pos (by simpa using hd), if_pos hd, ssum_cons]
      · rw [if_neg (by simpa using hd), if_neg hd]; omega
    rw [e, fsum_add, key, ssum_cons, ih (fun x hx => h x (by simp [hx])), show min (o s) (L : Int) = o s by omega]
theorem its_cons (c : Int) (t : List Int) : its (c :: t) = (c, false) :: its t := rfl
/-- Some of a rising row weigh no less than as many first ones. -/
theorem filter_ge (v : Int) (c : Nat → Int) (P : Nat → Bool) (ss : List Nat) : (ss.filter P).length * v + und v (its (ss.map c)) ≤ ssum c (ss.filter P) := by
  induction ss with
  | nil => simp [und, its, ssum]
  | cons s t ih =>
    rw [List.map_cons, its_cons, und_cons, List.filter_cons]
    simp only
    split
    · rw [List.length_cons, mul_up, ssum_cons]; omega
    · omega
theorem filter_least (c : Nat → Int) (P : Nat → Bool) (ss : List Nat) (hr : ris (its (ss.map c))) : esum ((its (ss.map c)).take (ss.filter P).length) ≤ ssum c (ss.filter P) := by
  have hl : (ss.filter P).length ≤ ss.length := List.length_filter_le _ _
  rcases Nat.eq_zero_or_pos (ss.filter P).length with h | h
  · rw [h, List.eq_nil_of_length_eq_zero h]; exact Int.le_refl _
  · obtain ⟨T, hT⟩ : ∃ T, (ss.filter P).length = T + 1 := ⟨(ss.filter P).length - 1, by omega⟩
    have hTl : T < (its (ss.map c)).length := by rw [its_length, List.length_map]; omega
    have h1 := take_eq (its (ss.map c)) hr T hTl
    have h2 := filter_ge ((its (ss.map c))[T]).1 c P ss
    rw [hT] at h2 ⊢
    omega
theorem had_is (a : Nat → Nat) (j : Nat) : ∃ Y : Nat, had a j = Y / 2 ^ j ∧ (Y : Int) = fsum (fun i => (a i : Int) * 2 ^ i) (j + 1) := by
  induction j with
  | zero => exact ⟨a 0, by simp [had], by simp [fsum]⟩
  | succ j ih =>
    obtain ⟨Y, h1, h2⟩ := ih
    refine ⟨a (j + 1) * 2 ^ (j + 1) + Y, ?_, ?_⟩
    · rw [had, h1, Nat.div_div_eq_div_mul, ← Nat.pow_succ, Nat.add_comm (a (j + 1) * 2 ^ (j + 1)), Nat.add_mul_div_right _ _ (Nat.pow_pos (by decide)), Nat.add_comm]
    · rw [fsum, ← h2]; simp; omega
/-- What lengths take of the whole, depth by depth. -/
theorem kraft_depth (o : Nat → Int) (ss : List Nat) (L : Nat) (h : ∀ x ∈ ss, 0 ≤ o x ∧ o x ≤ L) : ssum (fun x => 2 ^ L - 2 ^ (L - (o x).toNat)) ss = fsum (fun d => ((ss.filter fun x => decide ((d : Int) < o x)).length : Int) * 2 ^ (L - 1 - d)) L := by
  induction ss with
  | nil =>
    have : fsum (fun d => ((([] : List Nat).filter fun x => decide ((d : Int) < o x)).length : Int) * 2 ^ (L - 1 - d)) L = fsum (fun _ => 0) L := fsum_congr _ _ _ fun _ _ => by simp
    rw [this, fsum_zero]; rfl
  | cons s t ih =>
    have hs := h s (by simp)
    have key : ∀ M : Nat, M ≤ L → fsum (fun d => if (d : Int) < o s then 2 ^ (L - 1 - d) else 0) M = 2 ^ L - 2 ^ (L - (min (o s) M).toNat) := by
      intro M hM
      induction M with
      | zero => rw [fsum, show min (o s) ((0 : Nat) : Int) = 0 by omega]; simp
      | succ M ihM =>
        rw [fsum, ihM (by omega)]
        by_cases hM2 : (M : Int) < o s
        · rw [if_pos hM2, show (min (o s) ((M + 1 : Nat) : Int)).toNat = M + 1 by omega, show (min (o s) (M : Int)).toNat = M by omega, show L - M = L - 1 - M + 1 by omega, show L - (M + 1) = L - 1 - M by omega, show (2 : Int) ^ (L - 1 - M + 1) = 2 ^ (L - 1 - M) * 2 from Int.pow_succ _ _]
          omega
        · rw [if_neg hM2, show min (o s) ((M + 1 : Nat) : Int) = min (o s) (M : Int) by omega]; omega
    have e : fsum (fun d => (((s :: t).filter fun x => decide ((d : Int) < o x)).length : Int) * 2 ^ (L - 1 - d)) L = fsum (fun d => (if (d : Int) < o s then 2 ^ (L - 1 - d) else 0) + ((t.filter fun x => decide ((d : Int) < o x)).length : Int) * 2 ^ (L - 1 - d)) L := fsum_congr _ _ _ fun d _ => by
      rw [List.filter_cons]
      by_cases hd : (d : Int) < o s
      · rw [if_pos (by simpa using hd), if_pos hd, List.length_cons, mul_up]; omega
      · rw [if_neg (by simpa using hd), if_neg hd]; omega
    rw [e, fsum_add, key L (Nat.le_refl _), ssum_cons, ih (fun x hx => h x (by simp [hx])), show min (o s) (L : Int) = o s by omega]
theorem gs_fsum (g : Int → Int) (zs : List Int) : gs g zs = fsum (fun i => g (zs.getD i 0)) zs.length := by
  induction zs with
  | nil => rfl
  | cons z t ih =>
    rw [List.length_cons, fsum_head]
    show g z + gs g t = _
    rw [ih]; rfl
theorem esum_its (c : Nat → Int) (ss : List Nat) : esum (its (ss.map c)) = ssum c ss := by
  induction ss with
  | nil => rfl
  | cons s t ih => rw [List.map_cons, its_cons, esum_cons, ih, ssum_cons]
theorem its_take (c : Nat → Int) (ss : List Nat) (T : Nat) : esum ((its (ss.map c)).take T) = ssum c (ss.take T) := by
  rw [← esum_its]
  congr 1
  simp [its, List.map_take]
theorem ssum_count (c : Nat → Int) (ss : List Nat) (hn : ss.Nodup) (T : Nat) : ssum (fun x => c x * ((ss.take T).count x : Nat)) ss = ssum c (ss.take T) := by
  have h := List.take_append_drop T ss
  have hn2 := hn
  rw [← h] at hn2
  obtain ⟨n1, n2, n3⟩ := List.nodup_append.1 hn2
  have e1 : ssum (fun x => c x * ((ss.take T).count x : Nat)) (ss.take T) = ssum c (ss.take T) := ssum_congr _ _ _ fun x hx => by
    rw [count_nodup n1, if_pos hx]; simp
  have e2 : ssum (fun x => c x * ((ss.take T).count x : Nat)) (ss.drop T) = 0 := by
    have e3 : ssum (fun x => c x * ((ss.take T).count x : Nat)) (ss.drop T) = ssum (fun _ => 0) (ss.drop T) := ssum_congr _ _ _ fun x hx => by
      rw [count_nodup n1, if_neg (fun h => n3 x h x hx rfl)]; simp
    rw [e3]
    generalize ss.drop T = l
    induction l with
    | nil => rfl
    | cons a t ih => rw [ssum_cons, ih]; rfl
  have e4 : ∀ l, l = ss.take T ++ ss.drop T → ssum (fun x => c x * ((ss.take T).count x : Nat)) l = ssum c (ss.take T) := by
    intro l hl
    rw [hl, ssum_append, e1, e2]; omega
  exact e4 ss h.symm
/-- Behind each round: what is laid and what is still to be laid weigh the same. -/
theorem weigh (c : Nat → Int) (syms : List Nat) (n L : Nat) (hL1 : 1 ≤ L) (hs : ∀ x ∈ syms, x < n) (hn : syms.Nodup) (d : Nat) (hd : d ≤ L) :
    ssum (fun x => c x * (stt syms (List.replicate n 0) (lst (its (syms.map c))) L d).1.getD x 0) syms + (if d < L then esum ((lst (its (syms.map c)) (L - 1 - d)).take (tk syms.length (lst (its (syms.map c))) L d)) else 0) = esum ((lst (its (syms.map c)) (L - 1)).take (2 * syms.length - 2)) := by
  have hlen : ∀ d, (stt syms (List.replicate n 0) (lst (its (syms.map c))) L d).1.length = n := by
    intro d
    induction d with
    | zero => simp [stt]
    | succ d ih => rw [stt_sq, bump_length, ih]
  induction d with
  | zero =>
    rw [if_pos (by omega)]
    have e : ssum (fun x => c x * (stt syms (List.replicate n 0) (lst (its (syms.map c))) L 0).1.getD x 0) syms = 0 := by
      have e3 : ssum (fun x => c x * (stt syms (List.replicate n 0) (lst (its (syms.map c))) L 0).1.getD x 0) syms = ssum (fun _ => 0) syms := ssum_congr _ _ _ fun x _ => by
        show c x * (List.replicate n (0 : Int)).getD x 0 = 0
        have : (List.replicate n (0 : Int)).getD x 0 = 0 := by simp only [List.getD_eq_getElem?_getD, List.getElem?_replicate]; split <;> rfl
        rw [this]; simp
      rw [e3]
      generalize syms = l
      induction l with
      | nil => rfl
      | cons a t ih => rw [ssum_cons, ih]; rfl
    rw [e]
    show 0 + esum ((lst (its (syms.map c)) (L - 1 - 0)).take (2 * syms.length - 2)) = _
    rw [Nat.sub_zero]; omega
  | succ d ih =>
    have ih := ih (by omega)
    rw [if_pos (by omega)] at ih
    have hl := hlen d
    have e1 : ssum (fun x => c x * (stt syms (List.replicate n 0) (lst (its (syms.map c))) L (d + 1)).1.getD x 0) syms = ssum (fun x => c x * (stt syms (List.replicate n 0) (lst (its (syms.map c))) L d).1.getD x 0) syms + ssum c (syms.take (sq syms.length (lst (its (syms.map c))) L d)) := by
      rw [stt_sq, ← ssum_count c syms hn, ← ssum_add]
      refine ssum_congr _ _ _ fun x _ => ?_
      rw [bump_at _ _ _ (fun s h => by rw [hl]; exact hs s (List.mem_of_mem_take h)), Int.mul_add]
    rw [e1]
    by_cases hdl : d + 1 < L
    · rw [if_pos hdl]
      have h2 := lst_take (syms.map c) (L - 1 - (d + 1)) (tk syms.length (lst (its (syms.map c))) L d)
      rw [show L - 1 - (d + 1) + 1 = L - 1 - d by omega] at h2
      rw [h2, its_take] at ih
      show _ + ssum c (syms.take (tk syms.length (lst (its (syms.map c))) L d - _)) + esum ((lst (its (syms.map c)) (L - 1 - (d + 1))).take (2 * _)) = _
      omega
    · rw [if_neg hdl]
      have hd2 : L - 1 - d = 0 := by omega
      rw [hd2] at ih
      have e2 : sq syms.length (lst (its (syms.map c))) L d = tk syms.length (lst (its (syms.map c))) L d := by
        unfold sq
        rw [hd2]
        show _ - pcs ((its (syms.map c)).take _) = _
        rw [none_pcs (fun e he => its_flag _ e (List.mem_of_mem_take he)), Nat.sub_zero]
      have e3 : esum ((lst (its (syms.map c)) 0).take (tk syms.length (lst (its (syms.map c))) L d)) = ssum c (syms.take (tk syms.length (lst (its (syms.map c))) L d)) := its_take c syms _
      rw [e3] at ih
      rw [e2]; omega
theorem least (c : Nat → Int) (syms : List Nat) (n L : Nat) (hk1 : 2 ≤ syms.length) (hL1 : 1 ≤ L) (hr : ris (its (syms.map c))) (h0 : ∀ x ∈ syms, 0 ≤ c x) (hs : ∀ x ∈ syms, x < n) (hn : syms.Nodup)
    (o : Nat → Int) (ho : ∀ x ∈ syms, 0 ≤ o x ∧ o x ≤ L) (hkr : ssum (fun x => 2 ^ (L - (o x).toNat)) syms ≤ 2 ^ L) :
    ssum (fun x => c x * (stt syms (List.replicate n 0) (lst (its (syms.map c))) L L).1.getD x 0) syms ≤ ssum (fun x => c x * o x) syms := by
  have h1 := weigh c syms n L hL1 hs hn L (Nat.le_refl _)
  rw [if_neg (by omega), Int.add_zero] at h1
  rw [h1]
  have h0' : ∀ z ∈ syms.map c, 0 ≤ z := by
    intro z hz
    obtain ⟨x, hx, rfl⟩ := List.mem_map.1 hz
    exact h0 x hx
  obtain ⟨a, ha⟩ : ∃ a : Nat → Nat, a = fun i => (syms.filter fun x => decide (((L - 1 - i : Nat) : Int) < o x)).length := ⟨_, rfl⟩
  have hak : ∀ i, a i ≤ (syms.map c).length := fun i => by rw [ha, List.length_map]; exact List.length_filter_le _ _
  obtain ⟨Y, y1, y2⟩ := had_is a (L - 1)
  rw [show L - 1 + 1 = L by omega] at y2
  have e1 : fsum (fun i => (a i : Int) * 2 ^ i) L = fsum (fun d => ((syms.filter fun x => decide ((d : Int) < o x)).length : Int) * 2 ^ (L - 1 - d)) L := by
    rw [← fsum_rev (fun d => ((syms.filter fun x => decide ((d : Int) < o x)).length : Int) * 2 ^ (L - 1 - d))]
    refine fsum_congr _ _ _ fun i hi => ?_
    rw [ha, show L - 1 - (L - 1 - i) = i by omega]
  rw [e1, ← kraft_depth o syms L ho] at y2
  have e2 : ssum (fun x => 2 ^ L - 2 ^ (L - (o x).toNat)) syms + ssum (fun x => 2 ^ (L - (o x).toNat)) syms = syms.length * 2 ^ L := by
    rw [← ssum_add]
    have : ∀ l : List Nat, ssum (fun x => 2 ^ L - 2 ^ (L - (o x).toNat) + 2 ^ (L - (o x).toNat)) l = l.length * 2 ^ L := by
      intro l
      induction l with
      | nil => simp [ssum]
      | cons s t ih => rw [ssum_cons, ih, List.length_cons, mul_up]; omega
    exact this syms
  have e3 : 2 * syms.length - 2 ≤ had a (L - 1) := by
    rw [y1, Nat.le_div_iff_mul_le (Nat.pow_pos (by decide))]
    have e4 : (2 : Int) ^ L = 2 * 2 ^ (L - 1) := by
      rw [show (2 : Int) ^ L = 2 ^ (L - 1 + 1) from by rw [show L - 1 + 1 = L by omega], Int.pow_succ]; omega
    rw [← y2, e4] at e2
    rw [e4] at hkr
    have e5 : (((2 * syms.length - 2) * 2 ^ (L - 1) : Nat) : Int) = (2 * (syms.length : Int) - 2) * 2 ^ (L - 1) := by
      rw [Int.natCast_mul, Int.natCast_sub (by omega)]; simp
    have e6 : (2 * (syms.length : Int) - 2) * 2 ^ (L - 1) = syms.length * (2 * 2 ^ (L - 1)) - 2 * 2 ^ (L - 1) := by
      rw [Int.sub_mul, Int.mul_comm 2 (syms.length : Int), Int.mul_assoc]
    have e7 : (((2 * syms.length - 2) * 2 ^ (L - 1) : Nat) : Int) ≤ (Y : Int) := by rw [e5, e6]; omega
    omega
  refine Int.le_trans (lst_least (syms.map c) hr h0' a hak (L - 1) _ e3) ?_
  rw [show L - 1 + 1 = L by omega, ssum_depth c o syms L ho, ← fsum_rev (fun d => ssum c (syms.filter fun x => decide ((d : Int) < o x)))]
  refine fsum_le _ _ _ fun i _ => ?_
  rw [ha]
  exact filter_least c _ syms hr
theorem ssum_le (f g : Nat → Int) (ss : List Nat) (h : ∀ x ∈ ss, f x ≤ g x) : ssum f ss ≤ ssum g ss := by
  induction ss with
  | nil => exact Int.le_refl _
  | cons s t ih =>
    have := h s (by simp)
    have := ih (fun x hx => h x (by simp [hx]))
    rw [ssum_cons, ssum_cons]; omega
theorem ssum_mul (f : Nat → Int) (k : Int) (ss : List Nat) : ssum (fun x => f x * k) ss = ssum f ss * k := by
  induction ss with
  | nil => simp [ssum]
  | cons s t ih => rw [ssum_cons, ssum_cons, ih, Int.add_mul]
/-- All together, of as many as there are. -/
def cost (counts zs : List Int) (n : Nat) : Int := fsum (fun i => counts.getD i 0 * zs.getD i 0) n
theorem over_syms (counts : List Int) (f : Nat → Int) (h : ∀ i, ¬ 0 < counts.getD i 0 → f i = 0) : fsum f counts.length = ssum f (syms counts) := by
  rw [fsum_some f (fun i => decide (0 < counts.getD i 0)) counts.length (fun i hi => h i (by simpa using hi))]
  exact ssum_perm f (syms_srt counts).2.symm
/-- THE DOCUMENT's LENGTHS COST LEAST. -/
theorem cost_least (counts : List Int) (L : Nat) (hL1 : 1 ≤ L) (hL : L ≤ 15) (hc : ∀ i, 0 ≤ counts.getD i 0) (_hk : (syms counts).length ≤ 2 ^ L) (o : List Int) (hlen : o.length = counts.length)
    (ho : ∀ i, (0 < counts.getD i 0 → 1 ≤ o.getD i 0 ∧ o.getD i 0 ≤ L) ∧ (¬ 0 < counts.getD i 0 → o.getD i 0 = 0)) (hkr : kr o ≤ 32768) : cost counts (lensF counts L) counts.length ≤ cost counts o counts.length := by
  have hz : ∀ (zs : List Int) i, ¬ 0 < counts.getD i 0 → counts.getD i 0 * zs.getD i 0 = 0 := fun zs i hi => by
    have := hc i
    rw [show counts.getD i 0 = 0 by omega]; simp
  unfold cost
  rw [over_syms counts _ (hz _), over_syms counts _ (hz _)]
  rcases Nat.lt_or_ge (syms counts).length 2 with h2 | h2
  · refine ssum_le _ _ _ fun x hx => ?_
    have h3 := (syms_iff counts x).1 hx
    have h4 := (ho x).1 h3
    refine Int.mul_le_mul_of_nonneg_left ?_ (hc x)
    refine Int.le_trans ?_ h4.1
    unfold lensF
    split
    · rename_i h1
      obtain ⟨s, hs⟩ : ∃ s, syms counts = [s] := List.length_eq_one_iff.1 h1
      have hsl : s < counts.length := syms_lt counts s (by rw [hs]; simp)
      rw [hs]
      show ((zeros counts.length).set s 1).getD x 0 ≤ 1
      rw [getD_set _ _ _ _ (by rw [zeros_length]; exact hsl), zeros_getD]
      split <;> omega
    · rw [if_neg (by omega), zeros_getD]; omega
  · have hkr2 := kr_gs o
    rw [gs_fsum, hlen, over_syms counts _ (fun i hi => by rw [(ho i).2 hi]; rfl)] at hkr2
    have e1 : ssum (fun i => g3 (o.getD i 0)) (syms counts) = ssum (fun x => 2 ^ (L - (o.getD x 0).toNat)) (syms counts) * 2 ^ (15 - L) := by
      rw [← ssum_mul]
      refine ssum_congr _ _ _ fun x hx => ?_
      have h4 := (ho x).1 ((syms_iff counts x).1 hx)
      unfold g3
      rw [if_pos (by omega), ← Int.pow_add, show L - (o.getD x 0).toNat + (15 - L) = 15 - (o.getD x 0).toNat by omega]
    rw [e1] at hkr2
    have h5 : ssum (fun x => 2 ^ (L - (o.getD x 0).toNat)) (syms counts) ≤ 2 ^ L := by
      have e2 : (2 : Int) ^ L * 2 ^ (15 - L) = 32768 := by rw [← Int.pow_add, show L + (15 - L) = 15 by omega]; rfl
      refine Int.le_of_mul_le_mul_right (a := 2 ^ (15 - L)) ?_ (Int.pow_pos (by decide))
      rw [e2]; omega
    have := least (fun s => counts.getD s 0) (syms counts) counts.length L h2 hL1 (syms_ris counts) (fun x _ => hc x) (syms_lt counts) (syms_nodup counts) (fun x => o.getD x 0) (fun x hx => by
      have h4 := (ho x).1 ((syms_iff counts x).1 hx); omega) h5
    unfold lensF
    rw [if_neg (by omega), if_pos (by omega)]
    exact this
end Go.Proofs.Ytoifppfhnedahaa
