/-
  Merged, in the order in which they build: Pen2 SymF Sig Sgs Cnt Fix2.
-/
import Derived.Lib.MinMax
import Derived.Test.YtefeilgbofphjaaDoorMg10
import Derived.Test.YtefeilgbofphjaaDoorMg11
import Derived.Test.YtefeilgbofphjaaDoorMg16
import Derived.Test.YtefeilgbofphjaaDoorMg17
/-
  The pen: numbers, codes.
-/
namespace Go.Proofs.YtefeilgbofphjaaDoor
open Go.RowKit
theorem testBit_div (n k : Nat) : (n / 2 ^ k).testBit 0 = n.testBit k := by
  rw [Nat.testBit_zero, Nat.testBit_eq_decide_div_mod_eq]
set_option maxRecDepth 100000 in
set_option maxHeartbeats 1000000 in
theorem pnum_walk (w : World) (B g n many : Nat) (sv : Value) (L : List Bool) (h : PenAt w B g sv L) (hl : L.length + many ≤ 1099511627776) (hn : n < 2147483648) (hm : many ≤ 31) (hB : B ≤ w.heap.size) :
    Calls Tryd.prog 10 #[.pointer (some ⟨g, 0, none⟩), .int .i64 (n : Int), .int .i64 (many : Int)] w (PenPost B g (L ++ num n many) (penX g sv) w) := by
  have H0 : Hid (∃ sv', PenAt w B g sv' (L ++ num n 0) ∧ OnlyS (penX g sv) w w ∧ Grew w (penX g sv) (penX g sv')) := Lib.hid ⟨sv, by rw [num_zero, List.append_nil]; exact h, OnlyS.refl _ _, Grew.refl _ _⟩
  clear h
  go_enter Tryd.func10, Tryd.ntmps10
  go_wp2_with fail
  go_loopw [6] (fun v6 wr => ∃ k : Nat, k ≤ many ∧ v6 = .int .i64 k ∧ ∃ sv', PenAt wr B g sv' (L ++ num n k) ∧ OnlyS (penX g sv) w wr ∧ Grew w (penX g sv) (penX g sv')) (fun v6 _ => many - (intOf v6).toNat)
  case atStart => exact ⟨0, Nat.zero_le _, rfl, H0.out⟩
  case round =>
    clear H0
    obtain ⟨k, hk, rfl, sv', h1, h2, h3⟩ := hrel
    have H2 := Lib.hid h2
    have H3 := Lib.hid h3
    by_cases hlt : k < many
    · have hlti : (k : Int) < (many : Int) := by omega
      obtain ⟨x, hx⟩ : ∃ x, x = n / 2 ^ k := ⟨_, rfl⟩
      have hxl : x < 2147483648 := by rw [hx]; exact Nat.lt_of_le_of_lt (Nat.div_le_self _ _) hn
      have hxi : (n : Int) / 2 ^ k = (x : Int) := by rw [hx]; norm_cast
      have hxw : (x : Int) % 4294967296 = (x : Int) := by omega
      have HC := Lib.hid (pbit_walk wr B g x sv' _ h1 (by simp; omega) (by omega) (Nat.le_trans hB h2.size))
      have HX : Hid (L ++ num n k ++ [x.testBit 0] = L ++ num n (k + 1)) := Lib.hid (by rw [num_succ, hx, testBit_div, List.append_assoc])
      clear h1 h2 h3 hx
      go_wp2_with fail
      refine HC.out.mono ?_
      rintro e w1 ⟨rfl, ho, sv2, hp, hg⟩
      rw [HX.out] at hp
      have HP := Lib.hid hp
      have HO := Lib.hid (H2.out.trans' ho (fun i hi => H3.out i hi))
      have HG := Lib.hid (H3.out.trans hg H2.out.size)
      clear ho hp hg
      go_wp2_with fail
      exact ⟨⟨k + 1, by omega, by go_num, sv2, HP.out, HO.out, HG.out⟩, by simp [intOf]; omega⟩
    · have hlti : (many : Int) ≤ (k : Int) := by omega
      obtain rfl : k = many := by omega
      clear h2 h3
      go_wp2_with fail
      go_end0
      exact ⟨rfl, H2.out, sv', h1, H3.out⟩
theorem bitsN_more (c n j : Nat) (hj : j < n) : (bitsN c n).take (j + 1) = (bitsN c n).take j ++ [c.testBit (n - 1 - j)] := by
  have hl := bitsN_length c n
  rw [List.take_add_one, List.getElem?_eq_getElem (by omega)]
  congr 1
  simp only [bitsN, List.getElem_map, List.getElem_range, Option.toList_some]
  rw [trn_bit c n j hj, Nat.testBit_eq_decide_div_mod_eq]
set_option maxRecDepth 100000 in
set_option maxHeartbeats 1000000 in
theorem pcode_walk (w : World) (B g c n : Nat) (sv : Value) (L : List Bool) (h : PenAt w B g sv L) (hl : L.length + n ≤ 1099511627776) (hc : c < 4294967296) (hn : n ≤ 31) (hB : B ≤ w.heap.size) :
    Calls Tryd.prog 27 #[.pointer (some ⟨g, 0, none⟩), .int .u32 (c : Int), .int .i64 (n : Int)] w (PenPost B g (L ++ bitsN c n) (penX g sv) w) := by
  have H0 : Hid (∃ sv', PenAt w B g sv' (L ++ (bitsN c n).take 0) ∧ OnlyS (penX g sv) w w ∧ Grew w (penX g sv) (penX g sv')) := Lib.hid ⟨sv, by rw [List.take_zero, List.append_nil]; exact h, OnlyS.refl _ _, Grew.refl _ _⟩
  clear h
  go_enter Tryd.func27, Tryd.ntmps27
  go_wp2_with fail
  go_loopw [6] (fun v6 wr => ∃ k : Nat, k ≤ n ∧ v6 = .int .i64 ((n : Int) - 1 - k) ∧ ∃ sv', PenAt wr B g sv' (L ++ (bitsN c n).take k) ∧ OnlyS (penX g sv) w wr ∧ Grew w (penX g sv) (penX g sv')) (fun v6 _ => (intOf v6 + 1).toNat)
  case atStart => exact ⟨0, Nat.zero_le _, by go_num, H0.out⟩
  case round =>
    clear H0
    obtain ⟨k, hk, rfl, sv', h1, h2, h3⟩ := hrel
    have H2 := Lib.hid h2
    have H3 := Lib.hid h3
    by_cases hlt : k < n
    · obtain ⟨i, hi⟩ : ∃ i, i = n - 1 - k := ⟨_, rfl⟩
      have hii : (n : Int) - 1 - (k : Int) = (i : Int) := by omega
      rw [hii]
      have hge : (0 : Int) ≤ (i : Int) := by omega
      have hi31 : i < 31 := by omega
      obtain ⟨x, hx⟩ : ∃ x, x = c / 2 ^ i := ⟨_, rfl⟩
      have hxl : x < 4294967296 := by rw [hx]; exact Nat.lt_of_le_of_lt (Nat.div_le_self _ _) hc
      have hxi : (c : Int) / 2 ^ i = (x : Int) := by rw [hx]; norm_cast
      have HC := Lib.hid (pbit_walk wr B g x sv' _ h1 (by simp [bitsN_length]; omega) hxl (Nat.le_trans hB h2.size))
      have HX : Hid (L ++ (bitsN c n).take k ++ [x.testBit 0] = L ++ (bitsN c n).take (k + 1)) := Lib.hid (by rw [bitsN_more c n k hlt, ← hi, hx, testBit_div, List.append_assoc])
      have HI : Hid ((i : Int) - 1 = (n : Int) - 1 - ((k + 1 : Nat) : Int)) := Lib.hid (by omega)
      clear h1 h2 h3 hx hi hii
      go_wp2_with fail
      refine HC.out.mono ?_
      rintro e w1 ⟨rfl, ho, sv2, hp, hg⟩
      rw [HX.out] at hp
      have HP := Lib.hid hp
      have HO := Lib.hid (H2.out.trans' ho (fun i hi => H3.out i hi))
      have HG := Lib.hid (H3.out.trans hg H2.out.size)
      clear ho hp hg
      go_wp2_with fail
      exact ⟨⟨k + 1, by omega, by rw [← HI.out], sv2, HP.out, HO.out, HG.out⟩, by simp [intOf]⟩
    · obtain rfl : k = n := by omega
      have hii : (k : Int) - 1 - (k : Int) = -1 := by omega
      rw [hii]
      have HX : Hid ((bitsN c k).take k = bitsN c k) := Lib.hid (List.take_of_length_le (by rw [bitsN_length]; exact Nat.le_refl _))
      rw [HX.out] at h1
      clear h2 h3
      go_wp2_with fail
      go_end0
      exact ⟨rfl, H2.out, sv', h1, H3.out⟩
end Go.Proofs.YtefeilgbofphjaaDoor
/-
  What lengths by packages are, for any counts.
-/
namespace Go.Proofs.YtefeilgbofphjaaDoor
open Go.RowKit Hf

theorem syms_srt (counts : List Int) : srt (fun s => counts.getD s 0) (syms counts) 0 (posTo counts counts.length).length ∧ (syms counts).Perm (posTo counts counts.length) := by
  have hb := isA_block (fun s => counts.getD s 0) (posTo counts counts.length) 0 (posTo counts counts.length).length (Nat.zero_le _) (Nat.le_refl _) (fun p q _ h1 h2 => posTo_up counts _ p q h1 h2)
  rw [Nat.sub_zero, ← isA_zero] at hb
  exact ⟨hb.1, hb.2.perm⟩
theorem posTo_iff (counts : List Int) (k s : Nat) : s ∈ posTo counts k ↔ s < k ∧ 0 < counts.getD s 0 := by
  unfold posTo; rw [List.mem_filter, List.mem_range]; simp
theorem syms_iff (counts : List Int) (s : Nat) : s ∈ syms counts ↔ 0 < counts.getD s 0 := by
  rw [(syms_srt counts).2.mem_iff, posTo_iff]
  constructor
  · exact fun h => h.2
  · intro h
    refine ⟨?_, h⟩
    rcases Nat.lt_or_ge s counts.length with h1 | h1
    · exact h1
    · rw [List.getD_eq_getElem?_getD, List.getElem?_eq_none h1] at h; simp at h
theorem syms_lt (counts : List Int) (s : Nat) (h : s ∈ syms counts) : s < counts.length := by
  rw [(syms_srt counts).2.mem_iff, posTo_iff] at h; exact h.1
theorem syms_nodup (counts : List Int) : (syms counts).Nodup :=
  (syms_srt counts).2.nodup_iff.2 (List.Pairwise.filter _ List.nodup_range)
theorem syms_pair (counts : List Int) : (syms counts).Pairwise (lx (fun s => counts.getD s 0)) := by
  refine srt_pair ?_
  rw [syms_length]; exact (syms_srt counts).1
theorem syms_ris (counts : List Int) : ris (its (cnts counts (syms counts))) := by
  unfold ris its cnts
  rw [List.pairwise_map, List.pairwise_map]
  refine (syms_pair counts).imp ?_
  intro a b h
  simp only
  rcases h with h | h
  · exact Int.le_of_lt h
  · exact Int.le_of_eq h.1
theorem cnts_pos (counts : List Int) : ∀ c ∈ cnts counts (syms counts), 0 ≤ c := by
  intro c hc
  obtain ⟨s, hs, rfl⟩ := List.mem_map.1 hc
  exact Int.le_of_lt ((syms_iff counts s).1 hs)
theorem cnts_length (counts : List Int) (ss : List Nat) : (cnts counts ss).length = ss.length := by simp [cnts]
theorem zeros_getD (n x : Nat) : (zeros n).getD x 0 = 0 := by
  simp only [zeros, List.getD_eq_getElem?_getD, List.getElem?_replicate]; split <;> rfl
theorem okAny (counts : List Int) (L : Nat) (hl : (syms counts).length ≤ 1024) (hk : (syms counts).length ≤ 2 ^ L) (hL : L ≤ 15) : 1 < (syms counts).length → sttOk (syms counts) (zeros counts.length) (lst (its (cnts counts (syms counts)))) L :=
  fun h => sttOk_all (cnts counts (syms counts)) (syms counts) counts.length (syms counts).length L rfl (cnts_length _ _) h hl hk hL (syms_ris counts) (cnts_pos counts) (syms_lt counts) (syms_nodup counts)
theorem syms_le (counts : List Int) : (syms counts).length ≤ counts.length := by rw [syms_length]; exact posTo_le _ _
/-- What the lengths of any counts are. -/
structure Lens (counts : List Int) (L : Nat) (zs : List Int) : Prop where
  len : zs.length = counts.length
  bound : ∀ x, 0 ≤ zs.getD x 0 ∧ zs.getD x 0 ≤ L
  pos : ∀ x, 0 < zs.getD x 0 ↔ 0 < counts.getD x 0
  full : 2 ≤ (syms counts).length → kr zs = 32768
  lone : (syms counts).length < 2 → Hf.lone zs = true
  fall : ∀ i j, i < j → j < (syms counts).length → zs.getD ((syms counts).getD j 0) 0 ≤ zs.getD ((syms counts).getD i 0) 0
theorem lens_are (counts : List Int) (L : Nat) (hL1 : 1 ≤ L) (hL : L ≤ 15) (hk : (syms counts).length ≤ 2 ^ L) : Lens counts L (lensF counts L) := by
  unfold lensF
  rcases Nat.lt_trichotomy (syms counts).length 1 with h | h | h
  · rw [if_neg (by omega), if_neg (by omega)]
    have hn : ∀ x, ¬ 0 < counts.getD x 0 := fun x hx => by
      have := (syms_iff counts x).2 hx
      rw [List.eq_nil_of_length_eq_zero (show (syms counts).length = 0 by omega)] at this; cases this
    refine ⟨zeros_length _, fun x => by rw [zeros_getD]; omega, fun x => ?_, fun h2 => by omega, fun _ => ?_, fun i j h1 h2 => by omega⟩
    · rw [zeros_getD]; exact ⟨fun h => by omega, fun h => absurd h (hn x)⟩
    · unfold Hf.lone
      have e1 : (zeros counts.length).count 0 = counts.length := by simp [zeros]
      have e2 : (zeros counts.length).count 1 = 0 := by simp [zeros, List.count_replicate]
      rw [zeros_length, e1, e2]; simp
  · rw [if_pos h]
    obtain ⟨s, hs⟩ : ∃ s, syms counts = [s] := List.length_eq_one_iff.1 h
    rw [hs]
    have hsl : s < counts.length := syms_lt counts s (by rw [hs]; simp)
    have hg : ∀ x, ((zeros counts.length).set s 1).getD x 0 = if x = s then 1 else 0 := fun x => by
      rw [getD_set _ _ _ _ (by rw [zeros_length]; exact hsl), zeros_getD]
    have hi : ∀ x, 0 < counts.getD x 0 ↔ x = s := fun x => by rw [← syms_iff, hs]; simp
    show Lens counts L ((zeros counts.length).set s 1)
    refine ⟨by rw [List.length_set, zeros_length], fun x => by rw [hg]; split <;> omega, fun x => ?_, fun h2 => by omega, fun _ => ?_, fun i j h1 h2 => by omega⟩
    · rw [hg, hi]; split <;> simp_all
    · unfold Hf.lone
      have e0 : ∀ (l : List Int) (s : Nat) (y z : Int), s < l.length → (l.set s y).count z + (if l.getD s 0 == z then 1 else 0) = l.count z + (if y == z then 1 else 0) := by
        intro l
        induction l with
        | nil => intro s y z h; simp at h
        | cons a t ih =>
          intro s y z h
          cases s with
          | zero => simp [List.count_cons]; omega
          | succ s =>
            have := ih s y z (by simpa using h)
            rw [List.set_cons_succ, List.count_cons, List.count_cons, List.getD_cons_succ]
            omega
      have e1 := e0 (zeros counts.length) s 1 0 (by rw [zeros_length]; exact hsl)
      have e2 := e0 (zeros counts.length) s 1 1 (by rw [zeros_length]; exact hsl)
      rw [zeros_getD] at e1 e2
      have e3 : (zeros counts.length).count 0 = counts.length := by simp [zeros]
      have e4 : (zeros counts.length).count 1 = 0 := by simp [zeros, List.count_replicate]
      rw [List.length_set, zeros_length]
      simp at e1 e2
      simp
      omega
  · rw [if_neg (by omega), if_pos h]
    have hb := fin_bound (cnts counts (syms counts)) (syms counts) counts.length (syms counts).length L rfl (cnts_length _ _) h hk hL (syms_ris counts) (cnts_pos counts) (syms_lt counts) (syms_nodup counts)
    have hf := fin_sum (cnts counts (syms counts)) (syms counts) counts.length (syms counts).length L rfl (cnts_length _ _) h hk hL1 hL (syms_ris counts) (cnts_pos counts) (syms_lt counts) (syms_nodup counts)
    refine ⟨hb.1, hb.2.1, fun x => ?_, fun _ => hf.1, fun h2 => by omega, hb.2.2.2⟩
    rw [← syms_iff counts x]
    constructor
    · intro hx
      apply Classical.byContradiction
      intro hn
      have := hb.2.2.1 x hn
      have hx2 : 0 < (stt (syms counts) (List.replicate counts.length 0) (lst (its (cnts counts (syms counts)))) L L).1.getD x 0 := hx
      omega
    · intro hx
      have := hf.2 x hx
      show 0 < (stt (syms counts) (List.replicate counts.length 0) (lst (its (cnts counts (syms counts)))) L L).1.getD x 0
      omega
theorem Lens.good {counts : List Int} {L : Nat} {zs : List Int} (h : Lens counts L zs) (hL : L ≤ 15) (hl : counts.length ≤ 1024) : good zs :=
  good_of zs (by rw [h.len]; exact hl) (fun i _ => by have := h.bound i; omega)
theorem Lens.may {counts : List Int} {L : Nat} {zs : List Int} (h : Lens counts L zs) (hL : L ≤ 15) (hl : counts.length ≤ 1024) : may zs = 0 := by
  unfold Hf.may
  rw [if_pos (h.good hL hl)]
  rcases Nat.lt_or_ge (syms counts).length 2 with h2 | h2
  · rw [if_pos (.inr (h.lone h2))]
  · have := h.full h2
    rw [if_pos (.inl (by unfold st; rw [this]; rfl))]
theorem Lens.kr {counts : List Int} {L : Nat} {zs : List Int} (h : Lens counts L zs) : kr zs ≤ 32768 := by
  rcases Nat.lt_or_ge (syms counts).length 2 with h2 | h2
  · have := (lone_deep (h.lone h2)).2; omega
  · have := h.full h2; omega
theorem Lens.st {counts : List Int} {L : Nat} {zs : List Int} (h : Lens counts L zs) : st zs = if 2 ≤ (syms counts).length then 0 else -1 := by
  split
  · rename_i h2; unfold Hf.st; rw [h.full h2]; rfl
  · rename_i h2
    have := (lone_deep (h.lone (by omega))).2
    unfold Hf.st; rw [if_pos (by omega)]
/-- Lengths, of any counts that may be. -/
theorem Lengths_any (w : World) (v : Value) (counts : List Int) (L : Nat) (hv : SlV w v (ni counts)) (hok : okC counts = true) (hL1 : 1 ≤ L) (hL : L ≤ 15) (hk : (syms counts).length ≤ 2 ^ L) :
    Calls Tryd.prog 25 #[v, .int .i64 (L : Int)] w fun e w' => ∃ u, e = .returned (.tuple #[u, .int .i64 0]) ∧ Below w.heap.size w w' ∧ w'.ownsRow w.heap.size 3 1 u counts.length (ni (lensF counts L)) := by
  have hl : counts.length ≤ 1024 := by unfold okC at hok; simp at hok; exact hok.2
  have hs := syms_le counts
  refine (Lengths_okN w v counts L hv hok hL1 hL (by omega) hk (okAny counts L (by omega) hk hL)).mono ?_
  rintro e w' ⟨u, h1, h2, h3, _⟩
  have he : lenErr counts (L : Int) = 0 := by
    unfold lenErr
    rw [if_pos ⟨hok, by omega, by omega⟩, Int.toNat_natCast, if_neg (by omega)]
  rw [he] at h1
  have := h3 he
  rw [Int.toNat_natCast] at this
  exact ⟨u, h1, h2, this⟩
end Go.Proofs.YtefeilgbofphjaaDoor
/-
  codes, lens; the signs of a length, of a distance.
-/
namespace Go.Proofs.YtefeilgbofphjaaDoor
open Go.RowKit Hf
set_option maxRecDepth 100000 in
set_option maxHeartbeats 1000000 in
/-- Codes of lengths that may be. -/
theorem pcodes_walk (w : World) (v : Value) (zs : List Int) (hv : SlV w v (ni zs)) (hg : good zs) (hk : kr zs ≤ 32768) :
    Calls Tryd.prog 26 #[v] w fun e w' => ∃ u, e = .returned u ∧ w'.ownsRow w.heap.size 49 1 u zs.length (nu (codes zs)) ∧ Below w.heap.size w w' := by
  have HC := Lib.hid (codes_good w v zs hv hg (by unfold st; split <;> (try split) <;> omega))
  obtain ⟨pz, cz, hsh⟩ := hv.shape
  rw [ni_length] at hsh
  subst hsh
  obtain ⟨n, hn⟩ : ∃ n, n = zs.length := ⟨_, rfl⟩
  rw [← hn] at HC ⊢
  have HN := Lib.hid hn
  clear hv hg hk hn
  go_enter Tryd.func26, Tryd.ntmps26
  go_wp2_with fail
  refine HC.out.mono ?_
  rintro e w1 ⟨u, rfl, ho, hb⟩
  obtain ⟨pu, cu, hsu⟩ := (own_toV ho).shape
  have hnl : (nu (codes zs)).length = n := by rw [nu_length, codes_length, HN.out]
  rw [hnl] at hsu
  subst hsu
  have HO := Lib.hid ho
  have HB := Lib.hid hb
  clear ho hb hnl HC
  go_wp2_with fail
  go_ret
  exact ⟨_, rfl, HO.out, HB.out⟩
set_option maxRecDepth 100000 in
set_option maxHeartbeats 1000000 in
/-- Lengths for counts. -/
theorem plens_walk (w : World) (v : Value) (counts : List Int) (L : Nat) (hv : SlV w v (ni counts)) (hok : okC counts = true) (hL1 : 1 ≤ L) (hL : L ≤ 15) (hk : (syms counts).length ≤ 2 ^ L) :
    Calls Tryd.prog 16 #[v, .int .i64 (L : Int)] w fun e w' => ∃ u, e = .returned u ∧ Below w.heap.size w w' ∧ w'.ownsRow w.heap.size 3 1 u counts.length (ni (lensF counts L)) := by
  have HC := Lib.hid (Lengths_any w v counts L hv hok hL1 hL hk)
  have hll := (lens_are counts L hL1 hL hk).len
  obtain ⟨pz, cz, hsh⟩ := hv.shape
  rw [ni_length] at hsh
  subst hsh
  obtain ⟨n, hn⟩ : ∃ n, n = counts.length := ⟨_, rfl⟩
  rw [← hn] at HC hll ⊢
  have HLL := Lib.hid hll
  clear hv hok hk hn hll hL1 hL
  go_enter Tryd.func16, Tryd.ntmps16
  go_wp2_with fail
  refine HC.out.mono ?_
  rintro e w1 ⟨u, rfl, hb, ho⟩
  obtain ⟨pu, cu, hsu⟩ := (own_toV ho).shape
  rw [ni_length, HLL.out] at hsu
  subst hsu
  have HO := Lib.hid ho
  have HB := Lib.hid hb
  clear ho hb HC
  go_wp2_with fail
  go_ret
  exact ⟨_, rfl, HB.out, HO.out⟩
def sgv (g : Sg) : Value := .agg #[.int .i64 (g.s : Int), .int .i64 (g.x : Int), .int .i64 (g.m : Int)]
theorem info72s : (Tryd.prog.info? 72).map (·.size) = some 3 := by kernel_rfl
theorem lb2_more : ∀ s, s < 30 → lb 2 (s + 1) = lb 2 s + 2 ^ (s / 2 - 1) ∧ lb 2 s ≤ 32768 := by decide
theorem lb4_more : ∀ s, s < 28 → lb 4 (s + 1) = lb 4 s + 2 ^ (s / 4 - 1) ∧ lb 4 s ≤ 256 := by decide
theorem set3 {w : World} {g : Nat} {x0 x1 x2 y0 y1 y2 : Value} {t : TypeId} (h : w.heap[g]? = some (.cells #[x0, x1, x2] t (0, 0))) :
    (((w.setCell ⟨g, 0, none⟩ y0).setCell ⟨g, 1, none⟩ y1).setCell ⟨g, 2, none⟩ y2).heap[g]? = some (.cells #[y0, y1, y2] t (0, 0)) := by
  have h1 := heap_setCell_same w g 0 _ _ y0 h
  have h2 := heap_setCell_same _ g 1 _ _ y1 h1
  have h3 := heap_setCell_same _ g 2 _ _ y2 h2
  exact h3
theorem row3 {w : World} {g : Nat} {x0 x1 x2 : Value} {t : TypeId} (h : w.heap[g]? = some (.cells #[x0, x1, x2] t (0, 0))) :
    w.cell? ⟨g, 0, none⟩ = some x0 ∧ w.cell? ⟨g, 1, none⟩ = some x1 ∧ w.cell? ⟨g, 2, none⟩ = some x2 ∧ w.frozen? ⟨g, 0, none⟩ = false ∧ w.frozen? ⟨g, 1, none⟩ = false ∧ w.frozen? ⟨g, 2, none⟩ = false :=
  ⟨by rw [cell_of_row _ _ _ _ _ _ h]; rfl, by rw [cell_of_row _ _ _ _ _ _ h]; rfl, by rw [cell_of_row _ _ _ _ _ _ h]; rfl, frozen_of_row _ _ _ _ _ h, frozen_of_row _ _ _ _ _ h, frozen_of_row _ _ _ _ _ h⟩
theorem below3 {B : Nat} {a w : World} (h : Below B a w) {g : Nat} (hg : B ≤ g) (y0 y1 y2 : Value) : Below B a (((w.setCell ⟨g, 0, none⟩ y0).setCell ⟨g, 1, none⟩ y1).setCell ⟨g, 2, none⟩ y2) :=
  ((h.setCell hg _).setCell hg _).setCell hg _
set_option maxRecDepth 100000 in
set_option maxHeartbeats 1000000 in
theorem farSign_walk (w : World) (d : Nat) (h1 : 1 ≤ d) (h2 : d ≤ 32768) :
    Calls Tryd.prog 24 #[.int .i64 (d : Int)] w fun e w' => ∃ g, FSg d g ∧ e = .returned (sgv g) ∧ Below w.heap.size w w' := by
  have hB1 : Below w.heap.size w (w.alloc (.cells #[.int .i64 0, .int .i64 0, .int .i64 0] 72)) := (Below.refl _ _).alloc (Nat.le_refl _) _
  have hr1 := heap_alloc_new w (.cells #[.int .i64 0, .int .i64 0, .int .i64 0] 72)
  have HB1 := Lib.hid hB1
  have HR1 := Lib.hid hr1
  clear hB1 hr1
  go_enter Tryd.func24, Tryd.ntmps24
  go_wp2_with fail
  obtain ⟨w1, hw1⟩ : ∃ w1, w1 = w.alloc (.cells #[.int .i64 0, .int .i64 0, .int .i64 0] 72) := ⟨_, rfl⟩
  rw [← hw1] at HB1 HR1 ⊢
  clear hw1
  go_loopw [3, 4, 5] (fun v3 v4 _ wr => wr = w1 ∧ ∃ s : Nat, s ≤ 29 ∧ 1 + lb 2 s ≤ d ∧ v4 = .int .i64 (s : Int) ∧ v3 = .int .i64 ((1 + lb 2 s : Nat) : Int)) (fun _ v4 _ _ => 30 - (intOf v4).toNat)
  case atStart => exact ⟨rfl, 0, by decide, h1, rfl, rfl⟩
  case round =>
    obtain ⟨rfl, s, hs, hle, rfl, rfl⟩ := hrel
    obtain ⟨m, hm⟩ : ∃ m, m = s / 2 - 1 := ⟨_, rfl⟩
    have hm13 : m ≤ 13 := by omega
    have hl := lb2_more s (by omega)
    obtain ⟨fr, hfr⟩ : ∃ fr, fr = 1 + lb 2 s := ⟨_, rfl⟩
    rw [← hfr] at hle ⊢
    have hmx : max (0 : Int) ((s : Int) / 2 - 1) = (m : Int) := by omega
    have hp : (2 : Nat) ^ m ≤ 2 ^ 13 := Nat.pow_le_pow_right (by decide) hm13
    obtain ⟨z, hz⟩ : ∃ z, z = 2 ^ m := ⟨_, rfl⟩
    have hzi : (2 : Int) ^ m = (z : Int) := by rw [hz]; norm_cast
    rw [← hm, ← hz] at hl
    rw [← hz] at hp
    have HM := Lib.hid hm
    have HZ := Lib.hid hz
    have HF := Lib.hid hfr
    have HL := Lib.hid hl
    have hfl : fr ≤ 32768 := by omega
    clear hm hz hfr hl
    by_cases hlt : d < fr + z
    · have hlti : (d : Int) < (fr : Int) + (z : Int) := by omega
      obtain ⟨k0, k1, k2, f0, f1, f2⟩ := row3 HR1.out
      go_wp2_with fail
      have hrr := set3 (y0 := .int .i64 (s : Int)) (y1 := .int .i64 ((d : Int) - (fr : Int))) (y2 := .int .i64 (m : Int)) HR1.out
      refine bodyPost_ret (results_cell_row (p := 2) (ty := 72) rfl _ _ w.heap.size 72 _ (0, 0) _ rfl hrr Tryd.underlying72 rfl info72s) rfl ?_
      refine ⟨⟨s, d - fr, m⟩, ⟨hs, HM.out, ?_, ?_⟩, ?_, below3 HB1.out (Nat.le_refl _) _ _ _⟩
      · show d - fr < 2 ^ m
        rw [← HZ.out]; omega
      · show d = 1 + (lb 2 s + (d - fr))
        have := HF.out; omega
      · show _ = Ending.returned (.agg #[.int .i64 (s : Int), .int .i64 ((d - fr : Nat) : Int), .int .i64 (m : Int)])
        rw [show (d : Int) - (fr : Int) = ((d - fr : Nat) : Int) by omega]
    · have hlti : (fr : Int) + (z : Int) ≤ (d : Int) := by omega
      have hs28 : s ≤ 28 := by
        rcases Nat.lt_or_ge s 29 with h | h
        · omega
        · exfalso
          obtain rfl : s = 29 := by omega
          have h3 := HL.out.1
          have h4 : lb 2 (29 + 1) = 32768 := by decide
          have h5 := HF.out
          omega
      go_wp2_with fail
      refine ⟨⟨trivial, s + 1, by omega, ?_, by go_num, ?_⟩, by simp [intOf]; omega⟩
      · have h3 := HL.out.1; have h5 := HF.out; omega
      · have h3 := HL.out.1; have h5 := HF.out
        rw [show 1 + lb 2 (s + 1) = fr + z by omega]
        go_num
set_option maxRecDepth 100000 in
set_option maxHeartbeats 1000000 in
theorem lengthSign_walk (w : World) (n : Nat) (h1 : 3 ≤ n) (h2 : n ≤ 258) :
    Calls Tryd.prog 23 #[.int .i64 (n : Int)] w fun e w' => ∃ g, LSg n g ∧ e = .returned (sgv g) ∧ Below w.heap.size w w' := by
  have hB1 : Below w.heap.size w (w.alloc (.cells #[.int .i64 0, .int .i64 0, .int .i64 0] 72)) := (Below.refl _ _).alloc (Nat.le_refl _) _
  have hr1 := heap_alloc_new w (.cells #[.int .i64 0, .int .i64 0, .int .i64 0] 72)
  have HB1 := Lib.hid hB1
  have HR1 := Lib.hid hr1
  clear hB1 hr1
  by_cases h258 : n = 258
  · subst h258
    go_enter Tryd.func23, Tryd.ntmps23
    go_wp2_with fail
    refine bodyPost_ret (results_cell_row (p := 2) (ty := 72) rfl _ _ w.heap.size 72 _ (0, 0) _ rfl (heap_alloc_new w _) Tryd.underlying72 rfl info72s) rfl ?_
    exact ⟨⟨285, 0, 0⟩, .inl ⟨rfl, rfl⟩, rfl, (Below.refl _ _).alloc (Nat.le_refl _) _⟩
  have hne : ((n : Int) == 258) = false := beq_eq_false_iff_ne.2 (by omega)
  go_enter Tryd.func23, Tryd.ntmps23
  go_wp2_with fail
  obtain ⟨w1, hw1⟩ : ∃ w1, w1 = w.alloc (.cells #[.int .i64 0, .int .i64 0, .int .i64 0] 72) := ⟨_, rfl⟩
  rw [← hw1] at HB1 HR1 ⊢
  clear hw1 hne
  go_loopw [3, 4, 5] (fun v3 v4 _ wr => wr = w1 ∧ ∃ s : Nat, s ≤ 27 ∧ 3 + lb 4 s ≤ n ∧ v4 = .int .i64 ((257 + s : Nat) : Int) ∧ v3 = .int .i64 ((3 + lb 4 s : Nat) : Int)) (fun _ v4 _ _ => 300 - (intOf v4).toNat)
  case atStart => exact ⟨rfl, 0, by decide, h1, rfl, rfl⟩
  case round =>
    obtain ⟨rfl, s, hs, hle, rfl, rfl⟩ := hrel
    obtain ⟨m, hm⟩ : ∃ m, m = s / 4 - 1 := ⟨_, rfl⟩
    have hm13 : m ≤ 5 := by omega
    have hl := lb4_more s (by omega)
    obtain ⟨fr, hfr⟩ : ∃ fr, fr = 3 + lb 4 s := ⟨_, rfl⟩
    rw [← hfr] at hle ⊢
    obtain ⟨s2, hs2⟩ : ∃ s2, s2 = 257 + s := ⟨_, rfl⟩
    rw [← hs2]
    have hmx : max (0 : Int) (((s2 : Int) - 257) / 4 - 1) = (m : Int) := by omega
    have hp : (2 : Nat) ^ m ≤ 2 ^ 5 := Nat.pow_le_pow_right (by decide) hm13
    obtain ⟨z, hz⟩ : ∃ z, z = 2 ^ m := ⟨_, rfl⟩
    have hzi : (2 : Int) ^ m = (z : Int) := by rw [hz]; norm_cast
    rw [← hm, ← hz] at hl
    rw [← hz] at hp
    have hsl : 257 ≤ s2 ∧ s2 ≤ 284 := by omega
    have HM := Lib.hid hm
    have HZ := Lib.hid hz
    have HF := Lib.hid hfr
    have HL := Lib.hid hl
    have HS := Lib.hid hs2
    have hfl : fr ≤ 32768 := by omega
    clear hm hz hfr hl hs2
    by_cases hlt : n < fr + z
    · have hlti : (n : Int) < (fr : Int) + (z : Int) := by omega
      obtain ⟨k0, k1, k2, f0, f1, f2⟩ := row3 HR1.out
      go_wp2_with fail
      have hrr := set3 (y0 := .int .i64 (s2 : Int)) (y1 := .int .i64 ((n : Int) - (fr : Int))) (y2 := .int .i64 (m : Int)) HR1.out
      refine bodyPost_ret (results_cell_row (p := 2) (ty := 72) rfl _ _ w.heap.size 72 _ (0, 0) _ rfl hrr Tryd.underlying72 rfl info72s) rfl ?_
      have hsb : s2 - 257 = s := by have := HS.out; omega
      refine ⟨⟨s2, n - fr, m⟩, .inr ⟨hsl.1, hsl.2, ?_, ?_, ?_⟩, ?_, below3 HB1.out (Nat.le_refl _) _ _ _⟩
      · show m = (s2 - 257) / 4 - 1
        rw [hsb]; exact HM.out
      · show n - fr < 2 ^ m
        rw [← HZ.out]; omega
      · show n = 3 + (lb 4 (s2 - 257) + (n - fr))
        rw [hsb]
        have := HF.out; omega
      · show _ = Ending.returned (.agg #[.int .i64 (s2 : Int), .int .i64 ((n - fr : Nat) : Int), .int .i64 (m : Int)])
        rw [show (n : Int) - (fr : Int) = ((n - fr : Nat) : Int) by omega]
    · have hlti : (fr : Int) + (z : Int) ≤ (n : Int) := by omega
      have hs28 : s ≤ 26 := by
        rcases Nat.lt_or_ge s 27 with h | h
        · omega
        · exfalso
          obtain rfl : s = 27 := by omega
          have h3 := HL.out.1
          have h4 : lb 4 (27 + 1) = 256 := by decide
          have h5 := HF.out
          omega
      go_wp2_with fail
      refine ⟨⟨trivial, s + 1, by omega, ?_, ?_, ?_⟩, by simp [intOf]; omega⟩
      · have h3 := HL.out.1; have h5 := HF.out; omega
      · have := HS.out
        rw [show 257 + (s + 1) = s2 + 1 by omega]
        go_num
      · have h3 := HL.out.1; have h5 := HF.out
        rw [show 3 + lb 4 (s + 1) = fr + z by omega]
        go_num
end Go.Proofs.YtefeilgbofphjaaDoor
/-
  signs: what a part lets go out, as signs.
-/
namespace Go.Proofs.YtefeilgbofphjaaDoor
open Go.RowKit
def sg3 (g : Sg) : List Value := [.int .i64 (g.s : Int), .int .i64 (g.x : Int), .int .i64 (g.m : Int)]
def sgc (l : List Sg) : List Value := l.flatMap sg3
theorem sgc_append (a b : List Sg) : sgc (a ++ b) = sgc a ++ sgc b := by simp [sgc]
theorem sgc_length (l : List Sg) : (sgc l).length = l.length * 3 := by
  induction l with
  | nil => rfl
  | cons a t ih => rw [sgc, List.flatMap_cons, List.length_append, List.length_cons]; show 3 + (sgc t).length = _; omega
theorem sgc_one (l : List Sg) : ∀ y ∈ sgc l, y.oneCell' = true := by
  intro y hy
  simp only [sgc, List.mem_flatMap] at hy
  obtain ⟨g, _, hg⟩ := hy
  simp [sg3] at hg
  rcases hg with rfl | rfl | rfl <;> rfl
theorem info72 : (Tryd.prog.info? 72).map (fun i => (i.zero, i.size, i.bytes)) = some (some (.agg #[.int .i64 0, .int .i64 0, .int .i64 0]), 3, 24) := by kernel_rfl
theorem slk_sgs (w : World) (l : List Sg) (m : Nat) (hm : m = l.length) (cs : Array Value) (hc : cs = (sgc l).toArray) : SlK 3 (w.alloc (.cells cs 72)) (.slice (some ⟨w.heap.size, 0, none⟩) m m) m (sgc l) := by
  refine ⟨by rw [sgc_length, hm], .inl ⟨w.heap.size, 0, m, rfl, Nat.le_refl _, fun i v hi => ?_⟩⟩
  rw [Nat.zero_add]
  exact (cell_of_row _ _ _ _ _ _ (heap_alloc_new w _)).trans (by rw [hc]; simpa using hi)
/-- The signs of literals and copies. -/
def tsg (ts : List Tok) : List Sg := ts.flatMap fun t => t.sgs.map (·.1)
theorem tsg_append (a b : List Tok) : tsg (a ++ b) = tsg a ++ tsg b := by simp [tsg]
/-- Signs, and what went out, under way. -/
structure SgAt (w wr : World) (B : Nat) (ov0 lv ov : Value) (ss : List Sg) (out : List UInt8) : Prop where
  row : wr.ownsRow w.heap.size 72 3 lv ss.length (sgc ss)
  own : wr.ownsRow B 5 1 ov out.length (bl out)
  apart : ∀ j, lv.ownBlock = some j → ov.ownBlock ≠ some j
  only : OnlyS (fun i => ov0.ownBlock = some i) w wr
  grew : Grew w (fun i => ov0.ownBlock = some i) (fun i => ov.ownBlock = some i)
  old : ∀ j, ov0.ownBlock = some j → j < w.heap.size
namespace SgAt
variable {w wr w1 : World} {B : Nat} {ov0 lv lv' ov ov' : Value} {ss : List Sg} {out : List UInt8}
theorem size (h : SgAt w wr B ov0 lv ov ss out) : w.heap.size ≤ wr.heap.size := h.only.size
theorem same (h : SgAt w wr B ov0 lv ov ss out) (ho : OnlyS (fun _ => False) wr w1) : SgAt w w1 B ov0 lv ov ss out :=
  ⟨own_staysK h.row (fun k hk => ho.block k (World.ownsRow.lt h.row k hk).2 (fun h => h)), own_stays h.own (fun k hk => ho.block k (own_lt h.own k hk).2 (fun h => h)), h.apart, h.only.trans (ho.mono fun _ _ h => h.elim), h.grew, h.old⟩
/-- More signs. -/
theorem signs (h : SgAt w wr B ov0 lv ov ss out) {wa : World} {k : Nat} {ys : List Sg} (ha : OnlyS (fun _ => False) wr wa) (hk : k = ys.length)
    (hown : w1.ownsRow w.heap.size 72 3 lv' (ss.length + k) (sgc ss ++ sgc ys)) (hgr : wa.grownBy w1 lv.ownBlock) (hat : lv'.ownBlock = lv.ownBlock ∨ lv'.ownBlock = some wa.heap.size) : SgAt w w1 B ov0 lv' ov (ss ++ ys) out := by
  have h1 := h.same ha
  have ho1 : OnlyS (fun i => lv.ownBlock = some i) wa w1 := OnlyS.grown hgr (fun k hk => hk)
  refine ⟨by rw [List.length_append, ← hk, sgc_append]; exact hown, own_stays h1.own (fun j hj => ho1.block j (own_lt h1.own j hj).2 (fun e => h.apart j e hj)), fun j hj he => ?_, h1.only.trans' ho1 (fun i hi => .inr (World.ownsRow.lt h.row i hi).1), h.grew, h.old⟩
  rcases hat with h2 | h2
  · exact h.apart j (by rw [← h2]; exact hj) he
  · rw [h2] at hj; cases hj
    have := (own_lt h1.own _ he).2
    omega
/-- More bytes. -/
theorem bytes (h : SgAt w wr B ov0 lv ov ss out) {wa : World} {k : Nat} {ys : List UInt8} (ha : OnlyS (fun _ => False) wr wa) (hk : k = ys.length)
    (hown : w1.ownsRow B 5 1 ov' (out.length + k) (bl out ++ bl ys)) (hgr : wa.grownBy w1 ov.ownBlock) (hat : ov'.ownBlock = ov.ownBlock ∨ ov'.ownBlock = some wa.heap.size) : SgAt w w1 B ov0 lv ov' ss (out ++ ys) := by
  have h1 := h.same ha
  have ho1 : OnlyS (fun i => ov.ownBlock = some i) wa w1 := OnlyS.grown hgr (fun k hk => hk)
  have hsz := h.size
  have hsa := ha.size
  refine ⟨own_staysK h1.row (fun j hj => ho1.block j (World.ownsRow.lt h1.row j hj).2 (fun e => h.apart j hj e)), by rw [List.length_append, ← hk, bl_append]; exact hown, fun j hj he => ?_, h1.only.trans' ho1 (fun i hi => h.grew i hi), fun i hi => ?_, h.old⟩
  · rcases hat with h2 | h2
    · exact h.apart j hj (by rw [← h2]; exact he)
    · rw [h2] at he; cases he
      have := (World.ownsRow.lt h1.row _ hj).2
      omega
  · rcases hat with h2 | h2
    · exact h.grew i (by rw [← h2]; exact hi)
    · rw [h2] at hi; cases hi; exact .inr (by omega)
end SgAt
def cp2 (c : Nat × Nat) : List Value := [.int .u16 (c.1 : Int), .int .u16 (c.2 : Int)]
def cps (l : List (Nat × Nat)) : List Value := l.flatMap cp2
/-- What is read stays: bytes, and pairs, in blocks that are not written. -/
structure PartAt (w : World) (B : Nat) (bv cv : Value) (bs : List UInt8) (cs : List (Nat × Nat)) : Prop where
  b : SlV w bv (bl bs)
  c : SlK 2 w cv cs.length (cps cs)
  bb : ∀ p n cap, bv = .slice (some p) n cap → 0 < n → p.block < B
  cb : ∀ p n cap, cv = .slice (some p) n cap → 0 < n → p.block < B
  u16 : ∀ c ∈ cs, c.1 < 65536 ∧ c.2 < 65536
theorem SlK.only {k : Nat} {S : Nat → Prop} {w w' : World} {v : Value} {m : Nat} {vs : List Value} (h : SlK k w v m vs) (ho : OnlyS S w w') (ha : ∀ p n cap, v = .slice (Option.some p) n cap → 0 < n → ¬ S p.block) : SlK k w' v m vs := by
  obtain ⟨h1, ⟨g, o, cap, h2, h3, h4⟩ | h2⟩ := h
  · rcases Nat.eq_zero_or_pos m with h0 | h0
    · refine ⟨h1, .inl ⟨g, o, cap, h2, h3, fun i v hi => ?_⟩⟩
      have := (List.getElem?_eq_some_iff.1 hi).1
      rw [h0] at h1; omega
    · exact ⟨h1, .inl ⟨g, o, cap, h2, h3, h4.only ho (ha _ _ _ h2 h0)⟩⟩
  · exact ⟨h1, .inr h2⟩
theorem PartAt.only {w w' : World} {B : Nat} {bv cv : Value} {bs : List UInt8} {cs : List (Nat × Nat)} (h : PartAt w B bv cv bs cs) {S : Nat → Prop} (ho : OnlyS S w w') (hS : ∀ i, S i → B ≤ i) : PartAt w' B bv cv bs cs :=
  ⟨h.b.only ho (fun p n cap e h0 hs => by have := h.bb p n cap e h0; have := hS _ hs; omega), h.c.only ho (fun p n cap e h0 hs => by have := h.cb p n cap e h0; have := hS _ hs; omega), h.bb, h.cb, h.u16⟩
/-- How long it is then. -/
def olen1 (l : Nat) (c : Nat × Nat) : Nat := if l = 0 then 0 else l + (3 + c.1 % 256)
def olen (l : Nat) (cs : List (Nat × Nat)) : Nat := cs.foldl olen1 l
def plen (l : Nat) (bs : List UInt8) (cs : List (Nat × Nat)) : Nat := olen (l + min bs.length 80) (cs.take 6)
def SgPost (w : World) (B : Nat) (ov0 : Value) (out : List UInt8) (bs : List UInt8) (cs : List (Nat × Nat)) (e : Ending) (w' : World) : Prop :=
  ∃ lv ov ts, e = .returned (.tuple #[lv, ov]) ∧ SgAt w w' B ov0 lv ov (tsg ts ++ [⟨256, 0, 0⟩]) (effs ts out) ∧ oks ts out ∧ (effs ts out).length = plen out.length bs cs ∧ ts.length ≤ 86
end Go.Proofs.YtefeilgbofphjaaDoor
/-
  count: a teller is told each sign.
-/
namespace Go.Proofs.YtefeilgbofphjaaDoor
open Go.RowKit
def nog : Sg := ⟨0, 0, 0⟩
/-- Whether a sign is a distance's. -/
def flg (ss : List Sg) : Nat → Bool
  | 0 => false
  | k + 1 => !flg ss k && decide (256 < (ss.getD k nog).s)
/-- What a teller of signs does. -/
structure Hears (ss : List Sg) (fn : FuncId) (caps : Array Value) (I : World → (Nat → Prop) → Nat → Prop) : Prop where
  call : ∀ w X k, k < ss.length → I w X k → Calls Tryd.prog fn (#[.int .i64 ((ss.getD k nog).s : Int), .bool (flg ss k)] ++ caps) w fun e w' => e = .returned (.tuple #[]) ∧ OnlyS X w w' ∧ ∃ X', I w' X' (k + 1) ∧ Grew w X X'
  stay : ∀ {w w' X k}, I w X k → OnlyS (fun _ => False) w w' → I w' X k
theorem sgc_at : ∀ (ss : List Sg) (i : Nat), i < ss.length → (sgc ss)[i * 3]? = some (.int .i64 ((ss.getD i nog).s : Int)) ∧ (sgc ss)[i * 3 + 1]? = some (.int .i64 ((ss.getD i nog).x : Int)) ∧ (sgc ss)[i * 3 + 2]? = some (.int .i64 ((ss.getD i nog).m : Int))
  | [], i, h => by simp at h
  | c :: cs, 0, _ => ⟨rfl, rfl, rfl⟩
  | c :: cs, i + 1, h => by
    have := sgc_at cs i (by simpa using h)
    have e : sgc (c :: cs) = .int .i64 (c.s : Int) :: .int .i64 (c.x : Int) :: .int .i64 (c.m : Int) :: sgc cs := rfl
    rw [e, List.getD_cons_succ, show (i + 1) * 3 = i * 3 + 1 + 1 + 1 by omega]
    exact this
theorem sg_at {w : World} {p : Option Addr} {n cap m : Nat} {ss : List Sg} (h : SlK 3 w (.slice p n cap) m (sgc ss)) (hm : m = ss.length) (i : Nat) (hi : i < ss.length) : ∃ g o, p = some ⟨g, o, none⟩ ∧ w.cell? ⟨g, o + i * 3, none⟩ = some (.int .i64 ((ss.getD i nog).s : Int)) ∧ w.cell? ⟨g, o + i * 3 + 1, none⟩ = some (.int .i64 ((ss.getD i nog).x : Int)) ∧ w.cell? ⟨g, o + i * 3 + 2, none⟩ = some (.int .i64 ((ss.getD i nog).m : Int)) := by
  obtain ⟨_, ⟨g, o, cap', h2, _, h4⟩ | ⟨p', h2, h3⟩⟩ := h
  · have hc := sgc_at ss i hi
    cases h2
    refine ⟨g, o, rfl, h4 _ _ hc.1, ?_, ?_⟩
    · rw [Nat.add_assoc]; exact h4 _ _ hc.2.1
    · rw [Nat.add_assoc]; exact h4 _ _ hc.2.2
  · omega
/-- What the row of signs needs: its block stands, and is not written. -/
structure RowS (w : World) (rv : Value) (ss : List Sg) (X : Nat → Prop) : Prop where
  row : SlK 3 w rv ss.length (sgc ss)
  off : ∀ p n cap, rv = .slice (some p) n cap → 0 < n → ¬ X p.block ∧ p.block < w.heap.size
theorem RowS.next {w w' : World} {rv : Value} {ss : List Sg} {X X' : Nat → Prop} (h : RowS w rv ss X) (ho : OnlyS X w w') (hg : Grew w X X') : RowS w' rv ss X' :=
  ⟨h.row.only ho (fun p n cap e h0 => (h.off p n cap e h0).1), fun p n cap e h0 => ⟨hg.not (h.off p n cap e h0).1 (h.off p n cap e h0).2, Nat.lt_of_lt_of_le (h.off p n cap e h0).2 ho.size⟩⟩
set_option maxRecDepth 100000 in
set_option maxHeartbeats 2000000 in
theorem count_walk (w : World) (rv : Value) (ss : List Sg) (fn : FuncId) (caps : Array Value) (I : World → (Nat → Prop) → Nat → Prop) (X0 : Nat → Prop) (hcall : ∀ args w, (callFunc fn args).run Tryd.prog w = .ok (.enter fn args) w) (hH : Hears ss fn caps I) (hX : ∀ {w X k}, I w X k → ∀ i, X i → i < w.heap.size) (h0 : I w X0 0) (hr : RowS w rv ss X0) (hl : ss.length ≤ 1000000) :
    Calls Tryd.prog 14 #[rv, .func (.func fn) #[] caps] w fun e w' => e = .returned (.tuple #[]) ∧ OnlyS X0 w w' ∧ ∃ X', I w' X' ss.length ∧ Grew w X0 X' := by
  obtain ⟨pr, cr, hsr⟩ : ∃ p c, rv = .slice p ss.length c := by
    obtain ⟨_, ⟨g, o, cap, h2, _⟩ | ⟨p, h2, h3⟩⟩ := hr.row
    · exact ⟨_, _, h2⟩
    · exact ⟨p, 0, by rw [h3]; exact h2⟩
  obtain ⟨n, hn⟩ : ∃ n, n = ss.length := ⟨_, rfl⟩
  rw [← hn] at hsr hl ⊢
  subst hsr
  have HN := Lib.hid hn
  have H0 : Hid (∃ X, I w X 0 ∧ RowS w (.slice pr n cr) ss X ∧ OnlyS X0 w w ∧ Grew w X0 X) := Lib.hid ⟨X0, h0, hr, OnlyS.refl _ _, Grew.refl _ _⟩
  have HX : Hid (∀ w X k, I w X k → ∀ i, X i → i < w.heap.size) := Lib.hid (fun w X k h => hX h)
  have HH := Lib.hid hH
  clear h0 hr hn hX hH
  go_enter Tryd.func14, Tryd.ntmps14
  go_wp2_with fail
  go_loopw [4, 9] (fun v4 v9 wr => ∃ k : Nat, k ≤ n ∧ v9 = .int .i64 (k : Int) ∧ v4 = .bool (flg ss k) ∧ ∃ X, I wr X k ∧ RowS wr (.slice pr n cr) ss X ∧ OnlyS X0 w wr ∧ Grew w X0 X) (fun _ v9 _ => n - (intOf v9).toNat)
  case atStart => exact ⟨0, Nat.zero_le _, rfl, rfl, H0.out⟩
  case round =>
    clear H0
    obtain ⟨k, hk, rfl, rfl, X, hI, hR, hO, hG⟩ := hrel
    have HI := Lib.hid hI
    have HR := Lib.hid hR
    have HO := Lib.hid hO
    have HG := Lib.hid hG
    by_cases hlt : k < n
    · have hlti : (k : Int) < (n : Int) := by omega
      obtain ⟨g, o, hp, e0, e1, e2⟩ := sg_at hR.row rfl k (by rw [← HN.out]; exact hlt)
      subst hp
      obtain ⟨s, hs⟩ : ∃ s, s = (ss.getD k nog).s := ⟨_, rfl⟩
      obtain ⟨x, hx⟩ : ∃ x, x = (ss.getD k nog).x := ⟨_, rfl⟩
      obtain ⟨m, hm⟩ : ∃ m, m = (ss.getD k nog).m := ⟨_, rfl⟩
      rw [← hs] at e0
      rw [← hx] at e1
      rw [← hm] at e2
      have HS := Lib.hid hs
      clear hI hR hO hG hx hm hs
      obtain ⟨f, hf⟩ : ∃ f, f = flg ss k := ⟨_, rfl⟩
      rw [← hf]
      have HF := Lib.hid hf
      clear hf
      obtain ⟨w1, hw1⟩ : ∃ w1, w1 = wr.alloc (.cells #[.int .i64 (s : Int), .int .i64 (x : Int), .int .i64 (m : Int)] 72) := ⟨_, rfl⟩
      have ha : OnlyS (fun _ => False) wr w1 := by rw [hw1]; exact OnlyS.alloc _ _
      have hr1 : w1.heap[wr.heap.size]? = some (.cells #[.int .i64 (s : Int), .int .i64 (x : Int), .int .i64 (m : Int)] 72 (0, 0)) := by rw [hw1]; exact heap_alloc_new wr _
      have hI1 := HH.out.stay HI.out ha
      have hC := HH.out.call w1 X k (by rw [← HN.out]; exact hlt) hI1
      rw [← HS.out, ← HF.out] at hC
      have HC := Lib.hid hC
      have HW := Lib.hid hw1
      have HR1 := Lib.hid hr1
      have HA := Lib.hid ha
      have HFL : Hid (flg ss (k + 1) = (!f && decide (256 < s))) := Lib.hid (by rw [flg, ← HF.out, ← HS.out])
      clear ha hr1 hI1 hC hw1
      go_wp2_with fail
      rw [← HW.out]
      refine HC.out.mono ?_
      rintro e w2 ⟨rfl, ho, X', hI', hg⟩
      have c1 : w2.cell? ⟨wr.heap.size, 0, none⟩ = some (.int .i64 (s : Int)) := ho.cell (cell_of_row _ _ 0 _ _ _ HR1.out) (fun h => Nat.lt_irrefl _ (HX.out _ _ _ HI.out _ h))
      have HO2 : Hid (OnlyS X wr w2) := Lib.hid ((HA.out.mono fun _ _ h => h.elim).trans ho)
      have HG2 : Hid (Grew wr X X') := Lib.hid (fun i hi => by
        rcases hg i hi with h | h
        · exact .inl h
        · exact .inr (Nat.le_trans HA.out.size h))
      have HI2 := Lib.hid hI'
      clear ho hI' hg
      have HEND : Hid (∃ X, I w2 X (k + 1) ∧ RowS w2 (.slice (some ⟨g, o, none⟩) n cr) ss X ∧ OnlyS X0 w w2 ∧ Grew w X0 X) := Lib.hid ⟨X', HI2.out, HR.out.next HO2.out HG2.out, HO.out.trans' HO2.out (fun i hi => HG.out i hi), HG.out.trans HG2.out HO.out.size⟩
      cases f with
      | true =>
        go_wp2_with fail
        exact ⟨⟨k + 1, by omega, by go_num, by rw [HFL.out]; rfl, HEND.out⟩, by simp [intOf]; omega⟩
      | false =>
        go_wp2_with fail
        refine ⟨⟨k + 1, by omega, by go_num, ?_, HEND.out⟩, by simp [intOf]; omega⟩
        rw [HFL.out]
        congr 1
        by_cases h : 256 < s
        · rw [decide_eq_true h, decide_eq_true (by omega)]; rfl
        · rw [decide_eq_false h, decide_eq_false (by omega)]; rfl
    · have hlti : (n : Int) ≤ (k : Int) := by omega
      obtain rfl : k = n := by omega
      clear hI hR hO hG
      go_wp2_with fail
      go_end0
      exact ⟨rfl, HO.out, X, HI.out, HG.out⟩
end Go.Proofs.YtefeilgbofphjaaDoor
/-
  fixedLens; count.
-/
namespace Go.Proofs.YtefeilgbofphjaaDoor
open Go.RowKit
theorem fixS_length : Inf.fixS.length = 288 := by decide +kernel
def fx (s : Nat) : Int := if 144 ≤ s ∧ s < 256 then 9 else if 256 ≤ s ∧ s < 280 then 7 else 8
theorem fixS_fx : Inf.fixS = (List.range 288).map fx := by decide +kernel
/-- A made row of noughts. -/
theorem made_zeros (n : Nat) : ∃ cs : Array Value, cs.size = n ∧ cs.toList = ni (List.replicate n 0) ∧ ∀ (i0 : TypeInfo), Tryd.prog.info? 3 = some i0 → i0.zero = some (.int .i64 0) → i0.size = 1 → i0.bytes = 8 → n ≤ 1000000 → ∀ w : World, (Instr.makeSlice 53 (.int .i64 (n : Int)) (.int .i64 (n : Int))).run Tryd.prog w = .ok (.slice (some ⟨w.heap.size, 0, none⟩) n n) (w.alloc (.cells cs 3)) := by
  refine ⟨madeCells (Value.int .i64 0).cells n, size_madeCells _ _, ?_, fun i0 hi hz0 hz1 hz2 hn w => ?_⟩
  · apply List.ext_getElem
    · simp [size_madeCells]
    · intro i h1 h2
      simp [ni, madeCells, Value.cells, Nat.mod_one]
  · have hmk := run_makeSlice (P := Tryd.prog) w 53 3 i0 (.int .i64 0) Tryd.underlying53 hi hz0 .i64 .i64 (n : Int) (n : Int) (by omega) (Int.le_refl _) (by rw [hz1]; simp only [Int.toNat_natCast]; omega) (by rw [hz2]; omega) (by omega)
    simp only [Int.toNat_natCast] at hmk
    rw [hmk, hz1, Nat.mul_one]
/-- Two own rows of numbers. -/
structure TwoAt (w wr : World) (a b : Value) (la lb : List Int) : Prop where
  ra : wr.ownsRow w.heap.size 3 1 a la.length (ni la)
  rb : wr.ownsRow w.heap.size 3 1 b lb.length (ni lb)
  ne : ∀ j, a.ownBlock = some j → b.ownBlock ≠ some j
  below : Below w.heap.size w wr
theorem TwoAt.swap {w wr : World} {a b : Value} {la lb : List Int} (h : TwoAt w wr a b la lb) : TwoAt w wr b a lb la := ⟨h.rb, h.ra, fun j hb ha => h.ne j ha hb, h.below⟩
/-- A number of the first is set. -/
theorem TwoAt.set {w wr : World} {g n cap : Nat} {b : Value} {la lb : List Int} (h : TwoAt w wr (.slice (some ⟨g, 0, none⟩) n cap) b la lb) (i : Nat) (hi : i < la.length) : wr.cell? ⟨g, i, none⟩ = some (.int .i64 (la.getD i 0)) ∧ wr.frozen? ⟨g, i, none⟩ = false ∧ ∀ x, TwoAt w (wr.setCell ⟨g, i, none⟩ (.int .i64 x)) (.slice (some ⟨g, 0, none⟩) n cap) b (la.set i x) lb := by
  obtain ⟨g', cap', h1, hw, _, _, _, h2, h3, h4⟩ := own_spot h.ra (by omega)
  cases h1
  have hc := h2 i (.int .i64 (la.getD i 0)) (by unfold ni; rw [List.getElem?_map, List.getElem?_eq_getElem hi]; simp [hi])
  refine ⟨hc, h3 i, fun x => ⟨?_, ?_, h.ne, h.below.setCell hw _⟩⟩
  · have := h4 i (.int .i64 x) hi
    rw [List.length_set]
    have e : (ni la).set i (.int .i64 x) = ni (la.set i x) := by simp [ni, List.map_set]
    rw [← e]; exact this
  · exact own_stays h.rb (fun j hj => heap_setCell_other _ _ _ _ (by show ¬ j = g; exact fun e => h.ne g rfl (by rw [← e]; exact hj)))
theorem TwoAt.made {w wa : World} (hb : Below w.heap.size w wa) (n m : Nat) (c d : Array Value) (hc : c.size = n) (hd : d.size = m) (hcl : c.toList = ni (List.replicate n 0)) (hdl : d.toList = ni (List.replicate m 0)) (hn : n ≤ 1000000) (hm : m ≤ 1000000) :
    TwoAt w ((wa.alloc (.cells c 3)).alloc (.cells d 3)) (.slice (some ⟨wa.heap.size, 0, none⟩) n n) (.slice (some ⟨(wa.alloc (.cells c 3)).heap.size, 0, none⟩) m m) (List.replicate n 0) (List.replicate m 0) := by
  have hz := hb.size
  refine ⟨?_, ?_, fun j h1 h2 => ?_, (hb.alloc hz _).alloc (Nat.le_trans hz (by simp)) _⟩
  · refine World.ownsRow.alloc ⟨by simp, .inr ⟨wa.heap.size, n, c, by simp, hz, heap_alloc_new wa _, by simp, by unfold maxLen; omega, by omega, ?_⟩⟩ _
    rw [← hcl, List.take_of_length_le (by simp [hc])]
  · refine ⟨by simp, .inr ⟨_, m, d, by simp, ?_, heap_alloc_new _ _, by simp, by unfold maxLen; omega, by omega, ?_⟩⟩
    · simp; omega
    · rw [← hdl, List.take_of_length_le (by simp [hd])]
  · simp [Value.ownBlock] at h1 h2
    omega
theorem TwoAt.drew {w wr : World} {a b : Value} {la lb : List Int} (h : TwoAt w wr a b la lb) : TwoAt w wr.drew a b la lb :=
  ⟨own_stays h.ra (fun _ _ => rfl), own_stays h.rb (fun _ _ => rfl), h.ne, h.below.trans ⟨rfl, rfl, rfl, Nat.le_refl _, fun _ _ => rfl⟩⟩
def fxl (f : Nat → Int) (n i : Nat) : List Int := (List.range i).map f ++ List.replicate (n - i) 0
theorem fxl_length (f : Nat → Int) (n i : Nat) (h : i ≤ n) : (fxl f n i).length = n := by simp [fxl]; omega
theorem fxl_set (f : Nat → Int) (n i : Nat) (h : i < n) : (fxl f n i).set i (f i) = fxl f n (i + 1) := by
  unfold fxl
  rw [List.set_append_right _ _ (by simp), List.length_map, List.length_range, Nat.sub_self, show n - i = (n - (i + 1)) + 1 by omega, List.replicate_succ, List.set_cons_zero, List.range_succ, List.map_append]
  simp
theorem fxl_zero (f : Nat → Int) (n : Nat) : fxl f n 0 = List.replicate n 0 := by simp [fxl]
theorem fxl_all (f : Nat → Int) (n : Nat) : fxl f n n = (List.range n).map f := by simp [fxl]
set_option maxRecDepth 100000 in
set_option maxHeartbeats 2000000 in
theorem fixedLens_walk (w : World) :
    Calls Tryd.prog 13 #[] w fun e w' => ∃ a b, e = .returned (.tuple #[a, b]) ∧ TwoAt w w' a b Inf.fixS Inf.fixD := by
  obtain ⟨i0, hi, hz0, hz1, hz2⟩ := info_parts info3
  obtain ⟨c, hc, hcl, hcm⟩ := made_zeros 288
  have hm1 := hcm i0 hi hz0 hz1 hz2 (by decide)
  obtain ⟨d, hd, hdl, hdm⟩ := made_zeros 32
  have hm2 := hdm i0 hi hz0 hz1 hz2 (by decide)
  clear hcm hdm hi hz0 hz1 hz2
  have HC := Lib.hid hc
  have HCL := Lib.hid hcl
  have HD := Lib.hid hd
  have HDL := Lib.hid hdl
  clear hc hcl hd hdl
  have hm1' : ∀ w : World, (Instr.makeSlice 53 (.int .i64 288) (.int .i64 288)).run Tryd.prog w = .ok (.slice (some ⟨w.heap.size, 0, none⟩) 288 288) (w.alloc (.cells c 3)) := hm1
  have hm2' : ∀ w : World, (Instr.makeSlice 53 (.int .i64 32) (.int .i64 32)).run Tryd.prog w = .ok (.slice (some ⟨w.heap.size, 0, none⟩) 32 32) (w.alloc (.cells d 3)) := hm2
  clear hm1 hm2
  go_enter Tryd.func13, Tryd.ntmps13
  go_wp2_with fail
  go_region
  rotate_left
  case' _ =>
    have HT := Lib.hid (TwoAt.made (w := w) (wa := w) (Below.refl _ _) 32 288 d c HD.out HC.out HDL.out HCL.out (by decide) (by decide)).swap.drew
    have hsz : (w.alloc (.cells d 3)).heap.size = w.heap.size + 1 := by simp
    rw [hsz] at HT
    obtain ⟨w1, hw1⟩ : ∃ w1, w1 = ((w.alloc (.cells d 3)).alloc (.cells c 3)).drew := ⟨_, rfl⟩
    rw [← hw1] at HT ⊢
    clear hw1 hsz
    generalize w.heap.size + 1 = ga at HT ⊢
    generalize w.heap.size = gb at HT ⊢
  rotate_left
  case' _ =>
    have HT := Lib.hid (TwoAt.made (w := w) (wa := w) (Below.refl _ _) 288 32 c d HC.out HD.out HCL.out HDL.out (by decide) (by decide)).drew
    have hsz : (w.alloc (.cells c 3)).heap.size = w.heap.size + 1 := by simp
    rw [hsz] at HT
    obtain ⟨w1, hw1⟩ : ∃ w1, w1 = ((w.alloc (.cells c 3)).alloc (.cells d 3)).drew := ⟨_, rfl⟩
    rw [← hw1] at HT ⊢
    clear hw1 hsz
    generalize w.heap.size + 1 = gb at HT ⊢
    generalize w.heap.size = ga at HT ⊢
  all_goals
    clear HC HCL HD HDL hm1' hm2'
    simp only [Exit.then]
    go_wp2_with fail
    go_loopw [10] (fun v10 wr => ∃ i : Nat, i ≤ 288 ∧ v10 = .int .i64 (i : Int) ∧ TwoAt w wr (.slice (some ⟨ga, 0, none⟩) 288 288) (.slice (some ⟨gb, 0, none⟩) 32 32) (fxl fx 288 i) (List.replicate 32 0)) (fun v10 _ => 288 - (intOf v10).toNat)
    case atStart => exact ⟨0, by decide, rfl, by rw [fxl_zero]; exact HT.out⟩
    case round =>
      clear HT
      obtain ⟨i, hi, rfl, hT⟩ := hrel
      have HT := Lib.hid hT
      by_cases hlt : i < 288
      · have hlti : (i : Int) < 288 := by omega
        obtain ⟨c1, f1, hset⟩ := hT.set i (by rw [fxl_length _ _ _ hi]; exact hlt)
        obtain ⟨u, hu⟩ : ∃ u, u = (fxl fx 288 i).getD i 0 := ⟨_, rfl⟩
        rw [← hu] at c1
        have h8 := hset 8
        obtain ⟨c2, f2, hset2⟩ := h8.set i (by rw [List.length_set, fxl_length _ _ _ hi]; exact hlt)
        have HN8 : Hid (fx i = 8 → TwoAt w (wr.setCell ⟨ga, i, none⟩ (.int .i64 8)) (.slice (some ⟨ga, 0, none⟩) 288 288) (.slice (some ⟨gb, 0, none⟩) 32 32) (fxl fx 288 (i + 1)) (List.replicate 32 0)) := Lib.hid (fun e => by rw [← fxl_set _ _ _ hlt, e]; exact h8)
        have HN9 : Hid (∀ x, fx i = x → TwoAt w ((wr.setCell ⟨ga, i, none⟩ (.int .i64 8)).setCell ⟨ga, i, none⟩ (.int .i64 x)) (.slice (some ⟨ga, 0, none⟩) 288 288) (.slice (some ⟨gb, 0, none⟩) 32 32) (fxl fx 288 (i + 1)) (List.replicate 32 0)) := Lib.hid (fun x e => by have := hset2 x; rw [List.set_set] at this; rw [← fxl_set _ _ _ hlt, e]; exact this)
        rw [show ((fxl fx 288 i).set i 8).getD i 0 = 8 by rw [getD_set _ _ _ _ (by rw [fxl_length _ _ _ hi]; exact hlt), if_pos rfl]] at c2
        clear hu hset hT h8 hset2
        have hcs : i < 144 ∨ (144 ≤ i ∧ i < 256) ∨ (256 ≤ i ∧ i < 280) ∨ 280 ≤ i := by omega
        rcases hcs with h | ⟨h, h'⟩ | ⟨h, h'⟩ | h
        · have b1 : (i : Int) < 144 := by omega
          have b2 : (i : Int) < 256 := by omega
          have hf : fx i = 8 := by unfold fx; rw [if_neg (by omega), if_neg (by omega)]
          have HN := Lib.hid (HN8.out hf)
          clear hf
          go_wp2_with fail
          exact ⟨⟨i + 1, by omega, by go_num, HN.out⟩, by simp [intOf]; omega⟩
        · have b1 : (144 : Int) ≤ (i : Int) := by omega
          have b2 : (i : Int) < 256 := by omega
          have hf : fx i = 9 := by unfold fx; rw [if_pos (by omega)]
          have HN := Lib.hid (HN9.out 9 hf)
          clear hf
          go_wp2_with fail
          exact ⟨⟨i + 1, by omega, by go_num, HN.out⟩, by simp [intOf]; omega⟩
        · have b1 : (256 : Int) ≤ (i : Int) := by omega
          have b2 : (i : Int) < 280 := by omega
          have b3 : (144 : Int) ≤ (i : Int) := by omega
          have hf : fx i = 7 := by unfold fx; rw [if_neg (by omega), if_pos (by omega)]
          have HN := Lib.hid (HN9.out 7 hf)
          clear hf
          go_wp2_with fail
          exact ⟨⟨i + 1, by omega, by go_num, HN.out⟩, by simp [intOf]; omega⟩
        · have b1 : (280 : Int) ≤ (i : Int) := by omega
          have b2 : (256 : Int) ≤ (i : Int) := by omega
          have b3 : (144 : Int) ≤ (i : Int) := by omega
          have hf : fx i = 8 := by unfold fx; rw [if_neg (by omega), if_neg (by omega)]
          have HN := Lib.hid (HN8.out hf)
          clear hf
          go_wp2_with fail
          exact ⟨⟨i + 1, by omega, by go_num, HN.out⟩, by simp [intOf]; omega⟩
      · have hlti : (288 : Int) ≤ (i : Int) := by omega
        obtain rfl : i = 288 := by omega
        have H2 : Hid (TwoAt w wr (.slice (some ⟨gb, 0, none⟩) 32 32) (.slice (some ⟨ga, 0, none⟩) 288 288) (fxl (fun _ => 5) 32 0) Inf.fixS) := Lib.hid (by
          have := HT.out.swap
          rw [fxl_all, ← fixS_fx] at this
          rw [fxl_zero]; exact this)
        clear HT hT hi hlt
        go_wp2_with fail
        go_loopw [37] (fun v10 wr => ∃ i : Nat, i ≤ 32 ∧ v10 = .int .i64 (i : Int) ∧ TwoAt w wr (.slice (some ⟨gb, 0, none⟩) 32 32) (.slice (some ⟨ga, 0, none⟩) 288 288) (fxl (fun _ => 5) 32 i) Inf.fixS) (fun v10 _ => 32 - (intOf v10).toNat)
        case atStart => exact ⟨0, by decide, rfl, H2.out⟩
        case round =>
          clear H2
          obtain ⟨i, hi, rfl, hT⟩ := hrel
          have HT := Lib.hid hT
          by_cases hlt : i < 32
          · have hlti : (i : Int) < 32 := by omega
            obtain ⟨c1, f1, hset⟩ := hT.set i (by rw [fxl_length _ _ _ hi]; exact hlt)
            have HN := Lib.hid (hset 5)
            rw [fxl_set (fun _ => 5) _ _ hlt] at HN
            obtain ⟨u, hu⟩ : ∃ u, u = (fxl (fun _ => 5) 32 i).getD i 0 := ⟨_, rfl⟩
            rw [← hu] at c1
            clear hset hT hu
            go_wp2_with fail
            exact ⟨⟨i + 1, by omega, by go_num, HN.out⟩, by simp [intOf]; omega⟩
          · have hlti : (32 : Int) ≤ (i : Int) := by omega
            obtain rfl : i = 32 := by omega
            clear hT
            go_wp2_with fail
            refine bodyPost_ret (results_tmp2 rfl _ _ _) rfl ?_
            refine ⟨_, _, rfl, ?_⟩
            have := HT.out.swap
            rw [fxl_all] at this
            exact this
end Go.Proofs.YtefeilgbofphjaaDoor
