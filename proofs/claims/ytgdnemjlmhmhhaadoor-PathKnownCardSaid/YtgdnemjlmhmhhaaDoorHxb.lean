/-
  Clean, whatever comes in.
-/
import Derived.Test.YtgdnemjlmhmhhaaDoorHxa
namespace Go.Proofs.YtgdnemjlmhmhhaaDoor
open Go.RowKit
attribute [local go_sem] Oper.semAt_some

theorem clean_bad {raw : List UInt8} (h : (raw.contains 0 || [47].isPrefixOf raw) = true) : Pt.cleanE raw = 30 ∧ Pt.cleanP raw = [] := by
  have : Pt.cleanE raw = 30 := by unfold Pt.cleanE; rw [h, Bool.true_or, if_pos rfl]
  exact ⟨this, by unfold Pt.cleanP; rw [this]; rfl⟩
def CleanPost (raw : List UInt8) (w : World) (e : Ending) (W : World) : Prop := e = .returned (.tuple #[.string (sb (Pt.cleanP raw)), .int .i64 (Pt.cleanE raw)]) ∧ Below w.heap.size w W
set_option maxRecDepth 100000 in
set_option maxHeartbeats 4000000 in
theorem clean_early (raw : List UInt8) (h : (raw.contains 0 || [47].isPrefixOf raw) = true) (w : World) : CallsIn Fence.wide 8 Tryd.prog 8 #[.string (sb raw)] w (CleanPost raw w) := by
  have h1 : 1 ≤ 8 := by decide
  obtain ⟨e1, e2⟩ := clean_bad h
  unfold CleanPost
  rw [e1, e2]
  have HC : Hid (∀ w, _) := Lib.hid (fun w => co_walk (sb raw) 0 w)
  rw [sb_data, ib_has] at HC
  have HP : Hid (∀ w, _) := Lib.hid (fun w => hp_walk (sb raw) ⟨#[47]⟩ w)
  rw [sb_data, show (⟨#[47]⟩ : ByteArray).data.toList = [47] from rfl] at HP
  have bx : ∀ (W : World) (t : TypeId) (v : Value) (k : Nat), W.heap.size = k → Boxed (W.alloc (.cells #[v] t)) k t v := fun W t v k h => by subst h; exact Boxed.new W t v
  have hc3 := ((bx w 9 (.string ⟨#[]⟩) _ rfl).alloc (.cells #[.int .i64 30] 22)).cell
  have hc4 := (bx (w.alloc (.cells #[.string ⟨#[]⟩] 9)) 22 (.int .i64 30) (w.heap.size + 1) (by simp)).cell
  have hB3 : Below w.heap.size w ((w.alloc (.cells #[.string ⟨#[]⟩] 9)).alloc (.cells #[.int .i64 30] 22)) := ((Below.refl _ _).alloc (Nat.le_refl _) _).alloc (by simp) _
  have H3 := Lib.hid (And.intro hc3 (And.intro hc4 hB3))
  clear bx hc3 hc4 hB3
  generalize raw.contains 0 = C at *
  generalize [47].isPrefixOf raw = D at *
  generalize sb raw = b at *
  cases C
  · obtain rfl : D = true := by simpa using h
    clear e1 e2
    refine callsIn_of_wp_marks Tryd.func8 rfl trivial ?_ rfl
    simp only [Tryd.ntmps8, List.size_toArray, List.length_cons, List.length_nil, Nat.reduceAdd, Nat.reduceSub, Array.replicate_succ, Array.replicate_zero, List.push_toArray, List.append_toArray, List.nil_append, List.cons_append]
    gi_wp2_with (first
      | (refine ⟨trivial, ?_⟩; gi_at_call 38; refine (callsIn_wide.2 (HC.out _)).mono ?_; rintro e w' ⟨rfl, hw⟩; rw [hw]; clear hw)
      | (refine ⟨trivial, ?_⟩; gi_at_call 35; refine (callsIn_wide.2 (HP.out _)).mono ?_; rintro e w' ⟨rfl, hw⟩; rw [hw]; clear hw))
    obtain ⟨hc3, hc4, hB3⟩ := H3.out
    refine ⟨.tuple #[.string ⟨#[]⟩, .int .i64 30], ?_, rfl, hB3⟩
    simp [results, Tryd.f8, go_sem, hc3, hc4]
  · clear e1 e2
    refine callsIn_of_wp_marks Tryd.func8 rfl trivial ?_ rfl
    simp only [Tryd.ntmps8, List.size_toArray, List.length_cons, List.length_nil, Nat.reduceAdd, Nat.reduceSub, Array.replicate_succ, Array.replicate_zero, List.push_toArray, List.append_toArray, List.nil_append, List.cons_append]
    gi_wp2_with (first
      | (refine ⟨trivial, ?_⟩; gi_at_call 38; refine (callsIn_wide.2 (HC.out _)).mono ?_; rintro e w' ⟨rfl, hw⟩; rw [hw]; clear hw)
      | (refine ⟨trivial, ?_⟩; gi_at_call 35; refine (callsIn_wide.2 (HP.out _)).mono ?_; rintro e w' ⟨rfl, hw⟩; rw [hw]; clear hw))
    refine ⟨trivial, ?_⟩
    gi_wp2
    obtain ⟨hc3, hc4, hB3⟩ := H3.out
    refine ⟨.tuple #[.string ⟨#[]⟩, .int .i64 30], ?_, rfl, hB3⟩
    simp [results, Tryd.f8, go_sem, hc3, hc4]
theorem clean_walk (raw : List UInt8) (hr : raw.length ≤ 50000) (w : World) : Calls Tryd.prog 8 #[.string (sb raw)] w (CleanPost raw w) := by
  refine (callsIn_wide (n := 8)).1 ?_
  cases h : (raw.contains 0 || [47].isPrefixOf raw)
  · rw [Bool.or_eq_false_iff] at h
    exact clean_in raw hr h.1 h.2 w
  · exact clean_early raw h w
end Go.Proofs.YtgdnemjlmhmhhaaDoor
