/-
  Names and what Parse tells of them, on lists: one to one; great letters; a byte more, a byte less.
-/
import Derived.Test.YtdkajbhhmgmohaaDoorParse
import Derived.Test.YtdkajbhhmgmohaaDoorShelf2
namespace Go.Proofs.YtdkajbhhmgmohaaDoor
open Go.RowKit Sha
theorem hv_hexd (n : Nat) (h : n < 16) : hv (hexd n) = n := by
  have : ∀ m : Fin 16, hv (hexd m.1) = m.1 := by decide +kernel
  exact this ⟨n, h⟩
theorem hexd_hv (c : UInt8) (h : hv c < 16) : hexd (hv c) = c := by
  have : ∀ n : Fin 256, hv (UInt8.ofNat n.1) < 16 → hexd (hv (UInt8.ofNat n.1)) = UInt8.ofNat n.1 := by decide +kernel
  have h2 := this ⟨c.toNat, c.toNat_lt⟩
  simp only [UInt8.ofNat_toNat] at h2
  exact h2 h
def abcL : List UInt8 := [97, 98, 99, 100, 101, 102]
theorem hexd_facts (n : Nat) (h : n < 16) : (hexd n).toNat < 128 ∧ Lib.lowerB (hexd n) = hexd n ∧ (Lib.upperB (hexd n)).toNat < 128 ∧ (abcL.contains (hexd n) = true → ¬ hv (Lib.upperB (hexd n)) < 16) ∧ (abcL.contains (hexd n) = false → hv (Lib.upperB (hexd n)) < 16) := by
  have : ∀ m : Fin 16, (hexd m.1).toNat < 128 ∧ Lib.lowerB (hexd m.1) = hexd m.1 ∧ (Lib.upperB (hexd m.1)).toNat < 128 ∧ (abcL.contains (hexd m.1) = true → ¬ hv (Lib.upperB (hexd m.1)) < 16) ∧ (abcL.contains (hexd m.1) = false → hv (Lib.upperB (hexd m.1)) < 16) := by decide +kernel
  exact this ⟨n, h⟩
theorem hexL_mem {d : List UInt8} {c : UInt8} (h : c ∈ hexL d) : ∃ n, n < 16 ∧ c = hexd n := by
  unfold hexL at h
  rw [List.mem_flatMap] at h
  obtain ⟨b, _, hc⟩ := h
  have := b.toNat_lt
  simp only [List.mem_cons, List.not_mem_nil, or_false] at hc
  rcases hc with rfl | rfl
  · exact ⟨_, by omega, rfl⟩
  · exact ⟨_, by omega, rfl⟩
theorem hexL_at : ∀ (d : List UInt8) (j : Nat), j < d.length → (hexL d).getD (2 * j) 0 = hexd ((d.getD j 0).toNat / 16) ∧ (hexL d).getD (2 * j + 1) 0 = hexd ((d.getD j 0).toNat % 16)
  | [], j, h => by simp at h
  | b :: d, 0, _ => ⟨rfl, rfl⟩
  | b :: d, j + 1, h => by
    have ih := hexL_at d j (by simpa using h)
    have e : hexL (b :: d) = hexd (b.toNat / 16) :: hexd (b.toNat % 16) :: hexL d := rfl
    rw [e, show 2 * (j + 1) = 2 * j + 1 + 1 by omega]
    simpa using ih
theorem outTo_at (h : List UInt8) (k j : Nat) (hj : j < 32) : (outTo h k).getD j 0 = if j < k then outB h j else 0 := by
  induction k with
  | zero =>
    have : ∀ m : Fin 32, (List.replicate 32 (0 : UInt8)).getD m.1 0 = 0 := by decide +kernel
    rw [if_neg (by omega)]
    exact this ⟨j, hj⟩
  | succ k ih =>
    rw [outTo]
    by_cases e : k = j
    · subst e
      rw [if_pos (by omega), List.getD_eq_getElem?_getD, List.getElem?_set_self (by rw [outTo_length]; exact hj)]
      rfl
    · rw [List.getD_eq_getElem?_getD, List.getElem?_set_ne e, ← List.getD_eq_getElem?_getD, ih]
      by_cases e2 : j < k
      · rw [if_pos e2, if_pos (by omega)]
      · rw [if_neg e2, if_neg (by omega)]
theorem ext_getD {l m : List UInt8} (h : l.length = m.length) (h2 : ∀ i, i < l.length → l.getD i 0 = m.getD i 0) : l = m := by
  refine List.ext_getElem h fun i h1 h3 => ?_
  have := h2 i h1
  rwa [List.getD_eq_getElem?_getD, List.getD_eq_getElem?_getD, List.getElem?_eq_getElem h1, List.getElem?_eq_getElem h3] at this
theorem out_hex (d : List UInt8) (hd : d.length = 32) : outTo (hexL d) 32 = d := by
  refine ext_getD (by rw [outTo_length, hd]) fun i hi => ?_
  rw [outTo_length] at hi
  rw [outTo_at _ _ _ hi, if_pos hi, outB, (hexL_at d i (by omega)).1, (hexL_at d i (by omega)).2]
  have := (d.getD i 0).toNat_lt
  rw [hv_hexd _ (by omega), hv_hexd _ (by omega), show 16 * ((d.getD i 0).toNat / 16) + (d.getD i 0).toNat % 16 = (d.getD i 0).toNat by omega]
  simp
theorem hex_out (h : List UInt8) (hl : h.length = 64) (hg : ∀ i, i < 64 → hv (h.getD i 0) < 16) : hexL (outTo h 32) = h := by
  refine ext_getD (by rw [hexL_length, outTo_length, hl]) fun i hi => ?_
  rw [hexL_length, outTo_length] at hi
  have ho := outTo_at h 32 (i / 2) (by omega)
  rw [if_pos (by omega)] at ho
  have g1 := hg (2 * (i / 2)) (by omega)
  have g2 := hg (2 * (i / 2) + 1) (by omega)
  have hb : (outB h (i / 2)).toNat = 16 * hv (h.getD (2 * (i / 2)) 0) + hv (h.getD (2 * (i / 2) + 1) 0) := by
    unfold outB
    rw [UInt8.toNat_ofNat']
    omega
  have hx := hexL_at (outTo h 32) (i / 2) (by rw [outTo_length]; omega)
  rw [ho, hb] at hx
  rcases Nat.mod_two_eq_zero_or_one i with e | e
  · have h1 := hx.1
    rw [show (16 * hv (h.getD (2 * (i / 2)) 0) + hv (h.getD (2 * (i / 2) + 1) 0)) / 16 = hv (h.getD (2 * (i / 2)) 0) by omega, hexd_hv _ g1] at h1
    rw [show 2 * (i / 2) = i by omega] at h1
    exact h1
  · have h1 := hx.2
    rw [show (16 * hv (h.getD (2 * (i / 2)) 0) + hv (h.getD (2 * (i / 2) + 1) 0)) % 16 = hv (h.getD (2 * (i / 2) + 1) 0) by omega, hexd_hv _ g2] at h1
    rw [show 2 * (i / 2) + 1 = i by omega] at h1
    exact h1
theorem name_length (d : List UInt8) (hd : d.length = 32) : (nameL d).length = 71 := by
  rw [nameL, List.length_append, hexL_length, hd]; rfl
theorem pre_take (l : List UInt8) : (preL ++ l).take 7 = preL := by simp [preL]
theorem pre_drop (l : List UInt8) : (preL ++ l).drop 7 = l := by simp [preL]
theorem pre_getD (l : List UInt8) (i : Nat) : (preL ++ l).getD (7 + i) 0 = l.getD i 0 := by
  rw [List.getD_eq_getElem?_getD, List.getElem?_append_right (by simp [preL]), List.getD_eq_getElem?_getD]
  simp [preL]
theorem getD_mem {l : List UInt8} {i : Nat} (h : i < l.length) : l.getD i 0 ∈ l := by
  rw [List.getD_eq_getElem?_getD, List.getElem?_eq_getElem h]; exact List.getElem_mem h
theorem parse_name (d : List UInt8) (hd : d.length = 32) : parseL (nameL d) = some d := by
  rw [parse_some (nameL d) (name_length d hd) (pre_take _) (fun i hi => ?_)]
  · rw [nameL, pre_drop, out_hex d hd]
  · rw [nameL, pre_getD]
    obtain ⟨n, hn, e⟩ := hexL_mem (getD_mem (l := hexL d) (i := i) (by rw [hexL_length]; omega))
    rw [e, hv_hexd n hn]; exact hn
theorem parse_more (d : List UInt8) (hd : d.length = 32) : parseL (nameL d ++ [48]) = none :=
  parse_none1 _ (by rintro ⟨h, _⟩; rw [List.length_append, name_length d hd] at h; simp at h)
theorem parse_less (d : List UInt8) (hd : d.length = 32) : parseL ((nameL d).take 70) = none :=
  parse_none1 _ (by rintro ⟨h, _⟩; rw [List.length_take, name_length d hd] at h; simp at h)
theorem parse_back (s : List UInt8) : (parseL s = none) ∨ ∃ a, parseL s = some a ∧ nameL a = s ∧ a.length = 32 := by
  by_cases hx : s.length = 71 ∧ s.take 7 = preL ∧ ∀ i, i < 64 → hv (s.getD (7 + i) 0) < 16
  · refine .inr ⟨_, parse_some s hx.1 hx.2.1 hx.2.2, ?_, outTo_length _ _⟩
    rw [nameL, hex_out (s.drop 7) (by rw [List.length_drop]; omega) (fun i hi => by simpa using hx.2.2 i hi), ← hx.2.1, List.take_append_drop]
  · unfold parseL; rw [if_neg hx]; exact .inl rfl
def SHAL : List UInt8 := [83, 72, 65, 50, 53, 54, 58]
theorem up_name (d : List UInt8) : Lib.toUpperA (nameL d) = SHAL ++ (hexL d).map Lib.upperB := by
  rw [Lib.toUpperA, nameL, List.map_append]; rfl
theorem trim_up (d : List UInt8) : Lib.trimPrefix (Lib.toUpperA (nameL d)) SHAL = (hexL d).map Lib.upperB := by
  rw [up_name, Lib.trimPrefix, if_pos (by rw [Lib.hasPrefix, List.isPrefixOf_iff_prefix]; exact List.prefix_append _ _)]
  simp [SHAL]
theorem low_name (d : List UInt8) : Lib.toLowerA (nameL d) = nameL d := by
  rw [Lib.toLowerA, nameL, List.map_append]
  congr 1
  conv => rhs; rw [← List.map_id (hexL d)]
  refine List.map_congr_left fun c hc => ?_
  obtain ⟨n, hn, rfl⟩ := hexL_mem hc
  exact (hexd_facts n hn).2.1
theorem any_iff (s cs : List UInt8) : Lib.containsAny s cs = s.any cs.contains := by
  unfold Lib.containsAny
  induction s with
  | nil => rfl
  | cons b l ih =>
    rw [List.any_cons, ← ih, Lib.indexAny]
    have := Lib.indexAny_ge cs l
    cases h : cs.contains b
    · rw [if_neg (by simp)]
      by_cases e : Lib.indexAny l cs = -1
      · rw [if_pos (by simpa using e), e]; rfl
      · rw [if_neg (by simpa using e), Bool.false_or]
        rw [Bool.eq_iff_iff, decide_eq_true_iff, decide_eq_true_iff]
        omega
    · simp
theorem parse_great (d : List UInt8) (hd : d.length = 32) (h : Lib.containsAny (hexL d) abcL = true) : parseL (preL ++ (hexL d).map Lib.upperB) = none := by
  rw [any_iff, List.any_eq_true] at h
  obtain ⟨c, hc, hcc⟩ := h
  obtain ⟨n, hn, rfl⟩ := hexL_mem hc
  obtain ⟨i, hi, e⟩ := List.getElem_of_mem hc
  have hl := hexL_length d
  refine parse_none2 _ i (by omega) ?_
  rw [pre_getD, List.getD_eq_getElem?_getD, List.getElem?_map, List.getElem?_eq_getElem hi, e]
  exact (hexd_facts n hn).2.2.2.1 hcc
theorem parse_small (d : List UInt8) (hd : d.length = 32) (h : Lib.containsAny (hexL d) abcL = false) : ∃ a, parseL (preL ++ (hexL d).map Lib.upperB) = some a ∧ a.length = 32 := by
  have hl := hexL_length d
  refine ⟨_, parse_some _ (by rw [List.length_append, List.length_map, hl, hd]; rfl) (pre_take _) (fun i hi => ?_), outTo_length _ _⟩
  have hi2 : i < (hexL d).length := by omega
  rw [pre_getD, List.getD_eq_getElem?_getD, List.getElem?_map, List.getElem?_eq_getElem hi2]
  obtain ⟨n, hn, e⟩ := hexL_mem (List.getElem_mem hi2)
  rw [any_iff, List.any_eq_false] at h
  have := h _ (List.getElem_mem hi2)
  rw [e] at this ⊢
  exact (hexd_facts n hn).2.2.2.2 (by simpa using this)
theorem name_ascii (d : List UInt8) (b : UInt8) (h : b ∈ nameL d) : b.toNat < 128 := by
  rw [nameL, List.mem_append] at h
  rcases h with h | h
  · have : ∀ b ∈ preL, b.toNat < 128 := by decide +kernel
    exact this b h
  · obtain ⟨n, hn, rfl⟩ := hexL_mem h
    exact (hexd_facts n hn).1
end Go.Proofs.YtdkajbhhmgmohaaDoor
