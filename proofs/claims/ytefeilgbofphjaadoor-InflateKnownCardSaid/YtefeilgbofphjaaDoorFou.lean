/-
  InflateKnown: its four parts in memory; a literal's bytes, converted.
-/
import Derived.Test.YtefeilgbofphjaaDoorKnb
namespace Go.Proofs.YtefeilgbofphjaaDoor
open Go.RowKit Hf
theorem freeze_other (w : World) (g n k : Nat) (hk : g ≠ k) : (w.freeze ⟨g, n, none⟩ 1).heap[k]? = w.heap[k]? := by
  unfold World.freeze
  rw [if_neg (by decide)]
  simp only [Array.getElem?_modify, hk, if_false]
theorem freeze_cells {w : World} {g n : Nat} {C : Array Value} {t : TypeId} {fr : Nat × Nat} (h : w.heap[g]? = some (.cells C t fr)) : ∃ fr', (w.freeze ⟨g, n, none⟩ 1).heap[g]? = some (.cells C t fr') := by
  unfold World.freeze
  rw [if_neg (by decide)]
  refine ⟨if fr.1 == fr.2 then (n, n + 1) else (min fr.1 n, max fr.2 (n + 1)), ?_⟩
  simp only [Array.getElem?_modify, if_true, h, Option.map_some]
theorem run_conv23 {w : World} {g n c : Nat} {C : Array Value} {t : TypeId} {fr : Nat × Nat} (h : w.heap[g]? = some (.cells C t fr)) : (convert 23 23 (.slice (some ⟨g, 0, none⟩) n c)).run Tryd.prog w = .ok (.slice (some ⟨g, 0, none⟩) n c) (w.freeze ⟨g, C.size, none⟩ 1) := by
  have hsh : w.shape? g = some (t, C.size) := by unfold World.shape?; rw [h]
  simp [convert, run_underlying Tryd.underlying23, run_underlying Tryd.underlying5, markStringish, hsh]
theorem conv_ab (w : World) : ∃ wF : World, (convert 23 23 (.slice (some ⟨w.heap.size, 0, none⟩) 2 2)).run Tryd.prog (w.alloc (.cells #[.int .u8 97, .int .u8 98] 5)) = .ok (.slice (some ⟨w.heap.size, 0, none⟩) 2 2) wF ∧ OnlyS (fun _ => False) w wF ∧ wF.heap.size = w.heap.size + 1 ∧ SlV wF (.slice (some ⟨w.heap.size, 0, none⟩) 2 2) (bl [97, 98]) := by
  have hr := heap_alloc_new w (.cells #[.int .u8 97, .int .u8 98] 5)
  obtain ⟨fr', hf⟩ := freeze_cells (n := 2) hr
  refine ⟨_, run_conv23 hr, ⟨?_, ?_, ?_, ?_, fun k hk _ => ?_⟩, ?_, ?_⟩
  · unfold World.freeze; rw [if_neg (by decide)]; rfl
  · unfold World.freeze; rw [if_neg (by decide)]; rfl
  · unfold World.freeze; rw [if_neg (by decide)]; rfl
  · unfold World.freeze; rw [if_neg (by decide)]; simp
  · refine (freeze_other _ _ _ _ (by omega)).trans ?_
    exact (OnlyS.alloc (S := fun _ => False) w (.cells #[.int .u8 97, .int .u8 98] 5)).block k hk (fun h => h)
  · unfold World.freeze; rw [if_neg (by decide)]; simp
  · exact .inl ⟨_, 0, 2, rfl, by decide, fun i v hi => by
      rw [Nat.zero_add]
      exact (cell_of_row _ _ _ _ _ _ hf).trans (by simpa [bl, bi] using hi)⟩
/-- The four parts, where their slices lie. -/
def fourV (g s : Nat) : List Prt := [⟨2, .slice (some ⟨g, 0, none⟩) 2 2, .slice (some ⟨s, 0, none⟩) 4 4, [97, 98], [(255, 1), (254, 0), (0, 7), (100, 400)]⟩, ⟨1, .slice none 0 0, .slice (some ⟨s + 1, 0, none⟩) 1 1, [], [(255, 600)]⟩, nop, ⟨2, .slice none 0 0, .slice none 0 0, [], []⟩]
theorem fourV_parts (g s : Nat) : partsOf (fourV g s) = fourV g s := by
  unfold partsOf
  rw [if_neg (by unfold fourV; exact fun h => by cases h)]
  rfl
theorem fourV_ol (g s : Nat) : ol (fourV g s) 1 = 623 ∧ ol (fourV g s) 2 = 881 ∧ ol (fourV g s) 3 = 881 ∧ ol (fourV g s) 4 = 881 := by
  have h : ol four 1 = 623 ∧ ol four 2 = 881 ∧ ol four 3 = 881 ∧ ol four 4 = 881 := by decide
  exact h
theorem slk_lit (k : Nat) (w : World) (vs : List Value) (e : TypeId) (m : Nat) (hm : vs.length = m * k) : SlK k (w.alloc (.cells vs.toArray e)) (.slice (some ⟨w.heap.size, 0, none⟩) m m) m vs :=
  ⟨hm, .inl ⟨w.heap.size, 0, _, rfl, Nat.le_refl _, fun i v hi => by
    rw [Nat.zero_add]
    exact (cell_of_row _ _ _ _ _ _ (heap_alloc_new _ _)).trans (by simpa using hi)⟩⟩
def fourW (wF : World) (g : Nat) : World := ((wF.alloc (.cells (cps [(255, 1), (254, 0), (0, 7), (100, 400)]).toArray 43)).alloc (.cells (cps [(255, 600)]).toArray 43)).alloc (.cells (ptc (fourV g wF.heap.size)).toArray 36)
theorem fourW_only (wF : World) (g : Nat) : OnlyS (fun _ => False) wF (fourW wF g) := ((OnlyS.alloc _ _).trans (OnlyS.alloc _ _)).trans (OnlyS.alloc _ _)
theorem four_at (wF : World) (g : Nat) (hg : g < wF.heap.size) (hs : SlV wF (.slice (some ⟨g, 0, none⟩) 2 2) (bl [97, 98])) : PartsAt (fourW wF g) (fourW wF g).heap.size (.slice (some ⟨wF.heap.size + 1 + 1, 0, none⟩) 4 4) (fourV g wF.heap.size) := by
  obtain ⟨wa, hwa⟩ : ∃ wa, wa = wF.alloc (.cells (cps [(255, 1), (254, 0), (0, 7), (100, 400)]).toArray 43) := ⟨_, rfl⟩
  obtain ⟨wb, hwb⟩ : ∃ wb, wb = wa.alloc (.cells (cps [(255, 600)]).toArray 43) := ⟨_, rfl⟩
  have za : wa.heap.size = wF.heap.size + 1 := by rw [hwa]; simp
  have zb : wb.heap.size = wF.heap.size + 1 + 1 := by rw [hwb]; simp [za]
  have hW : fourW wF g = wb.alloc (.cells (ptc (fourV g wF.heap.size)).toArray 36) := by rw [hwb, hwa]; rfl
  have zW : (fourW wF g).heap.size = wF.heap.size + 1 + 1 + 1 := by rw [hW]; simp [zb]
  have oa : OnlyS (fun _ => False) wF wa := by rw [hwa]; exact OnlyS.alloc _ _
  have ob : OnlyS (fun _ => False) wa wb := by rw [hwb]; exact OnlyS.alloc _ _
  have oW : OnlyS (fun _ => False) wb (fourW wF g) := by rw [hW]; exact OnlyS.alloc _ _
  have s1 : SlK 2 (fourW wF g) (.slice (some ⟨wF.heap.size, 0, none⟩) 4 4) 4 (cps [(255, 1), (254, 0), (0, 7), (100, 400)]) := by
    have h := slk_lit 2 wF (cps [(255, 1), (254, 0), (0, 7), (100, 400)]) 43 4 rfl
    rw [← hwa] at h
    exact (h.only ob (fun _ _ _ _ _ h => h)).only oW (fun _ _ _ _ _ h => h)
  have s2 : SlK 2 (fourW wF g) (.slice (some ⟨wF.heap.size + 1, 0, none⟩) 1 1) 1 (cps [(255, 600)]) := by
    have h := slk_lit 2 wa (cps [(255, 600)]) 43 1 rfl
    rw [← hwb, za] at h
    exact h.only oW (fun _ _ _ _ _ h => h)
  have s3 : SlK 3 (fourW wF g) (.slice (some ⟨wF.heap.size + 1 + 1, 0, none⟩) 4 4) 4 (ptc (fourV g wF.heap.size)) := by
    have h := slk_lit 3 wb (ptc (fourV g wF.heap.size)) 36 4 rfl
    rw [← hW, zb] at h
    exact h
  have s0 : SlV (fourW wF g) (.slice (some ⟨g, 0, none⟩) 2 2) (bl [97, 98]) := hs.only ((oa.trans ob).trans oW) (fun _ _ _ _ _ h => h)
  have nl : SlV (fourW wF g) (.slice none 0 0) (bl []) := .inr ⟨none, rfl, rfl⟩
  have nk : SlK 2 (fourW wF g) (.slice none 0 0) ([] : List (Nat × Nat)).length (cps []) := ⟨rfl, .inr ⟨none, rfl, rfl⟩⟩
  have lt : ∀ {q : Nat} {n c : Nat}, q < (fourW wF g).heap.size → ∀ p n' c', (Value.slice (some ⟨q, 0, none⟩) n c) = .slice (some p) n' c' → 0 < n' → p.block < (fourW wF g).heap.size := fun hq p n' c' e _ => by cases e; exact hq
  have nlt : ∀ p n' c', (Value.slice none 0 0) = .slice (some p) n' c' → 0 < n' → p.block < (fourW wF g).heap.size := fun p n' c' e _ => by cases e
  refine ⟨s3, lt (by omega), fun p hp => ?_⟩
  unfold fourV at hp
  simp only [List.mem_cons, List.not_mem_nil, or_false] at hp
  rcases hp with rfl | rfl | rfl | rfl
  · exact ⟨⟨s0, s1, lt (by omega), lt (by omega), (show ∀ c ∈ ([(255, 1), (254, 0), (0, 7), (100, 400)] : List (Nat × Nat)), c.1 < 65536 ∧ c.2 < 65536 by decide)⟩, (show (2 : Nat) < 256 by decide), (show (2 : Nat) ≤ 9223372036854775807 by decide)⟩
  · exact ⟨⟨nl, s2, nlt, lt (by omega), (show ∀ c ∈ ([(255, 600)] : List (Nat × Nat)), c.1 < 65536 ∧ c.2 < 65536 by decide)⟩, (show (1 : Nat) < 256 by decide), (show (0 : Nat) ≤ 9223372036854775807 by decide)⟩
  · exact ⟨⟨nl, nk, nlt, nlt, (fun _ h => by cases h)⟩, (show (0 : Nat) < 256 by decide), (show (0 : Nat) ≤ 9223372036854775807 by decide)⟩
  · exact ⟨⟨nl, nk, nlt, nlt, (fun _ h => by cases h)⟩, (show (2 : Nat) < 256 by decide), (show (0 : Nat) ≤ 9223372036854775807 by decide)⟩
end Go.Proofs.YtefeilgbofphjaaDoor
