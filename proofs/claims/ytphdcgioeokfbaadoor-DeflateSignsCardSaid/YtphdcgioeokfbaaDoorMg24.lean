/-
  Merged, in the order in which they build: SymF.
-/
import Derived.Test.YtphdcgioeokfbaaDoorMg13
import Derived.Test.YtphdcgioeokfbaaDoorMg23
/-
  What lengths by packages are, for any counts.
-/
namespace Go.Proofs.YtphdcgioeokfbaaDoor
open Go.RowKit Hf

theorem syms_srt (counts : List Int) : srt (fun s => counts.getD s 0) (syms counts) 0 (posTo counts counts.length).length ∧ (syms counts).Perm (posTo counts counts.length) := by
  have hb := isA_block (fun s => counts.getD s 0) (posTo counts counts.length) 0 (posTo counts counts.length).length (Nat.zero_le _) (Nat.le_refl _) (fun p q _ h1 h2 => posTo_up counts _ p q h1 h2)
  rw [Nat.sub_zero, ← isA_zero] at hb
  exact ⟨hb.1, hb.2.perm⟩
theorem posTo_iff (counts : List Int) (k s : Nat) : s ∈ posTo counts k ↔ s < k ∧ 0 < counts.getD s 0 := by
  unfold posTo; rw [List.mem_filter, List.mem_range]; simp
theorem syms_iff (counts : List Int) (s : Nat) : s ∈ syms counts ↔ 0 < counts.getD s 0 := by
  rw [(syms_srt counts).2.mem_iff, posTo_iff]
  constructor
  · exact fun h => h.2
  · intro h
    refine ⟨?_, h⟩
    rcases Nat.lt_or_ge s counts.length with h1 | h1
    · exact h1
    · rw [List.getD_eq_getElem?_getD, List.getElem?_eq_none h1] at h; simp at h
theorem syms_lt (counts : List Int) (s : Nat) (h : s ∈ syms counts) : s < counts.length := by
  rw [(syms_srt counts).2.mem_iff, posTo_iff] at h; exact h.1
theorem syms_nodup (counts : List Int) : (syms counts).Nodup :=
  (syms_srt counts).2.nodup_iff.2 (List.Pairwise.filter _ List.nodup_range)
theorem syms_pair (counts : List Int) : (syms counts).Pairwise (lx (fun s => counts.getD s 0)) := by
  refine srt_pair ?_
  rw [syms_length]; exact (syms_srt counts).1
theorem syms_ris (counts : List Int) : ris (its (cnts counts (syms counts))) := by
  unfold ris its cnts
  rw [List.pairwise_map, List.pairwise_map]
  refine (syms_pair counts).imp ?_
  intro a b h
  simp only
  rcases h with h | h
  · exact Int.le_of_lt h
  · exact Int.le_of_eq h.1
theorem cnts_pos (counts : List Int) : ∀ c ∈ cnts counts (syms counts), 0 ≤ c := by
  intro c hc
  obtain ⟨s, hs, rfl⟩ := List.mem_map.1 hc
  exact Int.le_of_lt ((syms_iff counts s).1 hs)
theorem cnts_length (counts : List Int) (ss : List Nat) : (cnts counts ss).length = ss.length := by simp [cnts]
theorem zeros_getD (n x : Nat) : (zeros n).getD x 0 = 0 := by
  simp only [zeros, List.getD_eq_getElem?_getD, List.getElem?_replicate]; split <;> rfl
theorem okAny (counts : List Int) (L : Nat) (hl : (syms counts).length ≤ 1024) (hk : (syms counts).length ≤ 2 ^ L) (hL : L ≤ 15) : 1 < (syms counts).length → sttOk (syms counts) (zeros counts.length) (lst (its (cnts counts (syms counts)))) L :=
  fun h => sttOk_all (cnts counts (syms counts)) (syms counts) counts.length (syms counts).length L rfl (cnts_length _ _) h hl hk hL (syms_ris counts) (cnts_pos counts) (syms_lt counts) (syms_nodup counts)
theorem syms_le (counts : List Int) : (syms counts).length ≤ counts.length := by rw [syms_length]; exact posTo_le _ _
/-- What the lengths of any counts are. -/
structure Lens (counts : List Int) (L : Nat) (zs : List Int) : Prop where
  len : zs.length = counts.length
  bound : ∀ x, 0 ≤ zs.getD x 0 ∧ zs.getD x 0 ≤ L
  pos : ∀ x, 0 < zs.getD x 0 ↔ 0 < counts.getD x 0
  full : 2 ≤ (syms counts).length → kr zs = 32768
  lone : (syms counts).length < 2 → Hf.lone zs = true
  fall : ∀ i j, i < j → j < (syms counts).length → zs.getD ((syms counts).getD j 0) 0 ≤ zs.getD ((syms counts).getD i 0) 0
theorem lens_are (counts : List Int) (L : Nat) (hL1 : 1 ≤ L) (hL : L ≤ 15) (hk : (syms counts).length ≤ 2 ^ L) : Lens counts L (lensF counts L) := by
  unfold lensF
  rcases Nat.lt_trichotomy (syms counts).length 1 with h | h | h
  · rw [if_neg (by omega), if_neg (by omega)]
    have hn : ∀ x, ¬ 0 < counts.getD x 0 := fun x hx => by
      have := (syms_iff counts x).2 hx
      rw [List.eq_nil_of_length_eq_zero (show (syms counts).length = 0 by omega)] at this; cases this
    refine ⟨zeros_length _, fun x => by rw [zeros_getD]; omega, fun x => ?_, fun h2 => by omega, fun _ => ?_, fun i j h1 h2 => by omega⟩
    · rw [zeros_getD]; exact ⟨fun h => by omega, fun h => absurd h (hn x)⟩
    · unfold Hf.lone
      have e1 : (zeros counts.length).count 0 = counts.length := by simp [zeros]
      have e2 : (zeros counts.length).count 1 = 0 := by simp [zeros, List.count_replicate]
      rw [zeros_length, e1, e2]; simp
  · rw [if_pos h]
    obtain ⟨s, hs⟩ : ∃ s, syms counts = [s] := List.length_eq_one_iff.1 h
    rw [hs]
    have hsl : s < counts.length := syms_lt counts s (by rw [hs]; simp)
    have hg : ∀ x, ((zeros counts.length).set s 1).getD x 0 = if x = s then 1 else 0 := fun x => by
      rw [getD_set _ _ _ _ (by rw [zeros_length]; exact hsl), zeros_getD]
    have hi : ∀ x, 0 < counts.getD x 0 ↔ x = s := fun x => by rw [← syms_iff, hs]; simp
    show Lens counts L ((zeros counts.length).set s 1)
    refine ⟨by rw [List.length_set, zeros_length], fun x => by rw [hg]; split <;> omega, fun x => ?_, fun h2 => by omega, fun _ => ?_, fun i j h1 h2 => by omega⟩
    · rw [hg, hi]; split <;> simp_all
    · unfold Hf.lone
      have e0 : ∀ (l : List Int) (s : Nat) (y z : Int), s < l.length → (l.set s y).count z + (if l.getD s 0 == z then 1 else 0) = l.count z + (if y == z then 1 else 0) := by
        intro l
        induction l with
        | nil => intro s y z h; simp at h
        | cons a t ih =>
          intro s y z h
          cases s with
          | zero => simp [List.count_cons]; omega
          | succ s =>
            have := ih s y z (by simpa using h)
            rw [List.set_cons_succ, List.count_cons, List.count_cons, List.getD_cons_succ]
            omega
      have e1 := e0 (zeros counts.length) s 1 0 (by rw [zeros_length]; exact hsl)
      have e2 := e0 (zeros counts.length) s 1 1 (by rw [zeros_length]; exact hsl)
      rw [zeros_getD] at e1 e2
      have e3 : (zeros counts.length).count 0 = counts.length := by simp [zeros]
      have e4 : (zeros counts.length).count 1 = 0 := by simp [zeros, List.count_replicate]
      rw [List.length_set, zeros_length]
      simp at e1 e2
      simp
      omega
  · rw [if_neg (by omega), if_pos h]
    have hb := fin_bound (cnts counts (syms counts)) (syms counts) counts.length (syms counts).length L rfl (cnts_length _ _) h hk hL (syms_ris counts) (cnts_pos counts) (syms_lt counts) (syms_nodup counts)
    have hf := fin_sum (cnts counts (syms counts)) (syms counts) counts.length (syms counts).length L rfl (cnts_length _ _) h hk hL1 hL (syms_ris counts) (cnts_pos counts) (syms_lt counts) (syms_nodup counts)
    refine ⟨hb.1, hb.2.1, fun x => ?_, fun _ => hf.1, fun h2 => by omega, hb.2.2.2⟩
    rw [← syms_iff counts x]
    constructor
    · intro hx
      apply Classical.byContradiction
      intro hn
      have := hb.2.2.1 x hn
      have hx2 : 0 < (stt (syms counts) (List.replicate counts.length 0) (lst (its (cnts counts (syms counts)))) L L).1.getD x 0 := hx
      omega
    · intro hx
      have := hf.2 x hx
      show 0 < (stt (syms counts) (List.replicate counts.length 0) (lst (its (cnts counts (syms counts)))) L L).1.getD x 0
      omega
theorem Lens.good {counts : List Int} {L : Nat} {zs : List Int} (h : Lens counts L zs) (hL : L ≤ 15) (hl : counts.length ≤ 1024) : good zs :=
  good_of zs (by rw [h.len]; exact hl) (fun i _ => by have := h.bound i; omega)
theorem Lens.may {counts : List Int} {L : Nat} {zs : List Int} (h : Lens counts L zs) (hL : L ≤ 15) (hl : counts.length ≤ 1024) : may zs = 0 := by
  unfold Hf.may
  rw [if_pos (h.good hL hl)]
  rcases Nat.lt_or_ge (syms counts).length 2 with h2 | h2
  · rw [if_pos (.inr (h.lone h2))]
  · have := h.full h2
    rw [if_pos (.inl (by unfold st; rw [this]; rfl))]
theorem Lens.kr {counts : List Int} {L : Nat} {zs : List Int} (h : Lens counts L zs) : kr zs ≤ 32768 := by
  rcases Nat.lt_or_ge (syms counts).length 2 with h2 | h2
  · have := (lone_deep (h.lone h2)).2; omega
  · have := h.full h2; omega
theorem Lens.st {counts : List Int} {L : Nat} {zs : List Int} (h : Lens counts L zs) : st zs = if 2 ≤ (syms counts).length then 0 else -1 := by
  split
  · rename_i h2; unfold Hf.st; rw [h.full h2]; rfl
  · rename_i h2
    have := (lone_deep (h.lone (by omega))).2
    unfold Hf.st; rw [if_pos (by omega)]
/-- Lengths, of any counts that may be. -/
theorem Lengths_any (w : World) (v : Value) (counts : List Int) (L : Nat) (hv : SlV w v (ni counts)) (hok : okC counts = true) (hL1 : 1 ≤ L) (hL : L ≤ 15) (hk : (syms counts).length ≤ 2 ^ L) :
    Calls Tryd.prog 57 #[v, .int .i64 (L : Int)] w fun e w' => ∃ u, e = .returned (.tuple #[u, .int .i64 0]) ∧ Below w.heap.size w w' ∧ w'.ownsRow w.heap.size 3 1 u counts.length (ni (lensF counts L)) := by
  have hl : counts.length ≤ 1024 := by unfold okC at hok; simp at hok; exact hok.2
  have hs := syms_le counts
  refine (Lengths_okN w v counts L hv hok hL1 hL (by omega) hk (okAny counts L (by omega) hk hL)).mono ?_
  rintro e w' ⟨u, h1, h2, h3, _⟩
  have he : lenErr counts (L : Int) = 0 := by
    unfold lenErr
    rw [if_pos ⟨hok, by omega, by omega⟩, Int.toNat_natCast, if_neg (by omega)]
  rw [he] at h1
  have := h3 he
  rw [Int.toNat_natCast] at this
  exact ⟨u, h1, h2, this⟩
end Go.Proofs.YtphdcgioeokfbaaDoor
