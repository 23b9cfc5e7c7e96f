/-
  What a State that New did not make answers.
-/
import Derived.Test.YtdkajbhhmgmohaaDoorParse
namespace Go.Proofs.YtdkajbhhmgmohaaDoor
open Go.RowKit Sha
/-- No State, or one that New did not make. -/
def NoSt (w : World) (v : Value) : Prop := v = .pointer none ∨ ∃ g T s rest n, v = .pointer (some ⟨g, 0, none⟩) ∧ w.heap[g]? = some (.cells (stc false s rest n) T (0, 0))
theorem NoSt.below {w w' : World} {v : Value} (h : NoSt w v) {B : Nat} (hb : Below B w w') (hB : w.heap.size ≤ B) : NoSt w' v := by
  rcases h with h | ⟨g, T, s, rest, n, h, hr⟩
  · exact .inl h
  · exact .inr ⟨g, T, s, rest, n, h, (hb.block g (Nat.lt_of_lt_of_le (Array.getElem?_eq_some_iff.1 hr).1 hB)).trans hr⟩
theorem usable_nil (w : World) : Calls Tryd.prog 33 #[.pointer none] w fun e w' => e = .returned (.bool false) ∧ w = w' := by
  go_enter Tryd.func33, Tryd.ntmps33
  go_wp2_with fail
  go_ret
  exact ⟨rfl, rfl⟩
theorem usable_no (w : World) (v : Value) (h : NoSt w v) : Calls Tryd.prog 33 #[v] w fun e w' => e = .returned (.bool false) ∧ w = w' := by
  rcases h with rfl | ⟨g, T, s, rest, n, rfl, hr⟩
  · exact usable_nil w
  · exact usable_walk g T false s rest n w hr
theorem NoSt.shape {w : World} {v : Value} (h : NoSt w v) : ∃ p, v = .pointer p := by
  rcases h with h | ⟨g, T, s, rest, n, h, hr⟩
  · exact ⟨_, h⟩
  · exact ⟨_, h⟩
set_option maxRecDepth 100000 in
theorem write_no (w : World) (v u : Value) (h : NoSt w v) : Calls Tryd.prog 19 #[v, u] w fun e w' => e = .returned (.int .i64 2) ∧ w = w' := by
  obtain ⟨p, rfl⟩ := h.shape
  have H := Lib.hid h
  clear h
  go_enter Tryd.func19, Tryd.ntmps19
  go_wp2_with fail
  refine (usable_no _ _ H.out).mono ?_
  rintro e w' ⟨rfl, rfl⟩
  go_wp2_with fail
  go_ret
  exact ⟨rfl, rfl⟩
set_option maxRecDepth 100000 in
theorem len_no (w : World) (v : Value) (h : NoSt w v) : Calls Tryd.prog 21 #[v] w fun e w' => e = .returned (.int .u64 0) ∧ w = w' := by
  obtain ⟨p, rfl⟩ := h.shape
  have H := Lib.hid h
  clear h
  go_enter Tryd.func21, Tryd.ntmps21
  go_wp2_with fail
  refine (usable_no _ _ H.out).mono ?_
  rintro e w' ⟨rfl, rfl⟩
  go_wp2_with fail
  go_ret
  exact ⟨rfl, rfl⟩
set_option maxRecDepth 100000 in
theorem copy_no (w : World) (v : Value) (h : NoSt w v) : Calls Tryd.prog 18 #[v] w fun e w' => e = .returned (.pointer none) ∧ w = w' := by
  obtain ⟨p, rfl⟩ := h.shape
  have H := Lib.hid h
  clear h
  go_enter Tryd.func18, Tryd.ntmps18
  go_wp2_with fail
  refine (usable_no _ _ H.out).mono ?_
  rintro e w' ⟨rfl, rfl⟩
  go_wp2_with fail
  go_ret
  exact ⟨rfl, rfl⟩
set_option maxRecDepth 100000 in
theorem sum_no (w : World) (v : Value) (h : NoSt w v) : Calls Tryd.prog 20 #[v] w fun e w' => e = .returned (.agg (bcells (List.replicate 32 0))) ∧ Below w.heap.size w w' := by
  obtain ⟨p, rfl⟩ := h.shape
  have H := Lib.hid h
  clear h
  go_enter Tryd.func20, Tryd.ntmps20
  go_wp2_with fail
  refine (usable_no _ _ (H.out.below ((Below.refl _ _).alloc (Nat.le_refl _) _) (Nat.le_refl _))).mono ?_
  rintro e w' ⟨rfl, rfl⟩
  generalize hw1 : World.alloc w _ = w1
  have hb1 : Below w.heap.size w w1 := by rw [← hw1]; exact (Below.refl _ _).alloc (Nat.le_refl _) _
  have hr1 : w1.heap[w.heap.size]? = some (.cells (bcells (List.replicate 32 0)) 25 (0, 0)) := by rw [← hw1]; exact heap_alloc_new _ _
  clear hw1
  obtain ⟨zl, hzl⟩ : ∃ zl, zl = bcells (List.replicate 32 0) := ⟨_, rfl⟩
  rw [← hzl] at hr1
  have HR1 := Lib.hid hr1
  have HZ := Lib.hid hzl
  have HI : Hid ((Tryd.prog.info? 25).map (·.size) = some zl.size) := Lib.hid (by rw [hzl, bcells_size, List.length_replicate]; exact size25)
  have H1 : Hid (zl.all (·.oneCell') = true) := Lib.hid (by rw [hzl]; exact bcells_one _)
  clear hr1 hzl
  go_wp2_with (first | (refine wpList_buildX rfl 25 _ rfl zl (by rw [HZ.out]; kernel_rfl) ?_) | (refine wpList_store_rowX rfl 25 _ _ rfl w.heap.size zl rfl rfl 25 zl HR1.out HI.out rfl H1.out ?_; intro w3 hrow3 ho3 hs3))
  refine bodyPost_ret (v := .agg zl) ?_ rfl ⟨by rw [HZ.out], hb1.trans (Below.of_only ho3 (Nat.le_refl _) hb1.size)⟩
  exact results_cell_row (p := 2) (ty := 25) rfl _ _ w.heap.size 25 _ (0, 0) _ rfl hrow3 Tryd.underlying25 rfl HI.out
end Go.Proofs.YtdkajbhhmgmohaaDoor
