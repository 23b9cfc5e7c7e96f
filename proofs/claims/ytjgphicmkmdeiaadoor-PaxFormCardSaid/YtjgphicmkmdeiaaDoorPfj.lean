/-
  Records that came in.
-/
import Derived.Test.YtjgphicmkmdeiaaDoorPgg
namespace Go.Proofs.YtjgphicmkmdeiaaDoor
open Go.ChangeShapes Go.WideShapes Go.ChangeAt Go.RowKit

set_option maxRecDepth 100000 in
theorem records_came {H : Type} {enc : TypeId × Value → H} {W : World} {base : Nat} {v : Value} {d : DataW H} {p : List MemPlace} (hok : Value.okWide Tryd.prog W .any base 22 v) (h : DataW.Trod enc Tryd.prog W 0 (fun _ => true) true 22 v d p) :
    ∃ l : List Px.Rec, SlR W v l ∧ l.length ≤ maxLen ∧ ∀ r ∈ l, r.1.length ≤ maxLen ∧ r.2.length ≤ maxLen := by
  obtain ⟨a0, len0, cap0, rfl⟩ := okWide_slice Tryd.underlying22 hok
  obtain ⟨fuel, hf⟩ := h
  have c37 : Tryd.prog.cellsOf 37 = 2 := by kernel_rfl
  rcases DataW.trod_slice Tryd.underlying22 hf with ⟨hcs, _⟩ | ⟨a, len, cap, elems, rest, n, _, hcs, _, _, hl, hm, hlen, hel, _, _⟩
  · simp [Value.cells] at hcs
    obtain ⟨rfl, rfl, rfl⟩ := hcs
    exact ⟨[], ⟨rfl, .inr ⟨none, rfl, rfl⟩⟩, Nat.zero_le _, fun r hr => by cases hr⟩
  · simp [Value.cells] at hcs
    obtain ⟨rfl, rfl, rfl⟩ := hcs
    obtain ⟨b, o, sp⟩ := a
    obtain rfl : sp = none := spot_of Tryd.underlying22 hok
    have each : ∀ i, i < len0 → ∃ x : Px.Rec, W.cell? ⟨b, o + i * 2, none⟩ = some (.string ⟨x.1.toArray⟩) ∧ W.cell? ⟨b, o + i * 2 + 1, none⟩ = some (.string ⟨x.2.toArray⟩) ∧ x.1.length ≤ maxLen ∧ x.2.length ≤ maxLen := fun i hi => by
      have hi2 := hel i hi
      rw [c37, List.getElem?_eq_getElem (show i < elems.length by omega), Option.bind_eq_some_iff] at hi2
      obtain ⟨cs, hcs, ht⟩ := hi2
      obtain ⟨xs, m, _, _, hcl, hxl, hall⟩ := DataW.trod_struct Tryd.underlying37 ht
      rw [c37] at hcl
      obtain ⟨c0, c1, rfl⟩ : ∃ c0 c1, cs = [c0, c1] := by
        match cs, hcl with
        | [c0, c1], _ => exact ⟨c0, c1, rfl⟩
      have f0 : DataW.trod enc Tryd.prog W 0 (fun _ => true) true m 9 (([c0, c1].drop 0).take (Tryd.prog.cellsOf 9)) = xs[0]? := hall 0 _ rfl
      have f1 : DataW.trod enc Tryd.prog W 0 (fun _ => true) true m 9 (([c0, c1].drop 1).take (Tryd.prog.cellsOf 9)) = xs[1]? := hall 1 _ rfl
      have c9 : Tryd.prog.cellsOf 9 = 1 := by kernel_rfl
      have hx2 : xs.length = 2 := hxl
      rw [List.getElem?_eq_getElem (show 0 < xs.length by omega)] at f0
      rw [List.getElem?_eq_getElem (show 1 < xs.length by omega)] at f1
      rw [c9] at f0 f1
      obtain ⟨s0, hb0, _, hs0⟩ := DataW.trod_string Tryd.underlying9 f0
      obtain ⟨s1, hb1, _, hs1⟩ := DataW.trod_string Tryd.underlying9 f1
      obtain rfl : c0 = .string s0 := by simpa using hb0
      obtain rfl : c1 = .string s1 := by simpa using hb1
      have hcell : ∀ j c, ([Value.string s0, Value.string s1] : List Value)[j]? = some c → W.cell? ⟨b, o + i * 2 + j, none⟩ = some c := fun j c hj => by
        unfold World.cells? at hcs
        rw [if_pos (Nat.zero_le _)] at hcs
        have hlt : j < 2 := by have := (List.getElem?_eq_some_iff.1 hj).1; simpa using this
        have := mapM_some_get hcs j j (by simp [hlt])
        rw [hj, Addr.add_mid, Addr.add_mid] at this
        exact this
      exact ⟨(s0.data.toList, s1.data.toList), hcell 0 _ rfl, hcell 1 _ rfl, by rw [← Lib.size_eq]; exact hs0, by rw [← Lib.size_eq]; exact hs1⟩
    let f : Nat → Px.Rec := fun i => if h : i < len0 then Classical.choose (each i h) else ([], [])
    have hf : ∀ i (h : i < len0), W.cell? ⟨b, o + i * 2, none⟩ = some (.string ⟨(f i).1.toArray⟩) ∧ W.cell? ⟨b, o + i * 2 + 1, none⟩ = some (.string ⟨(f i).2.toArray⟩) ∧ (f i).1.length ≤ maxLen ∧ (f i).2.length ≤ maxLen := fun i h => by
      have := Classical.choose_spec (each i h)
      simp only [f, h, dif_pos]
      exact this
    have hll : ((List.range len0).map f).length = len0 := by simp
    refine ⟨(List.range len0).map f, ?_, by rw [hll]; unfold maxLen at hm ⊢; omega, fun r hr => ?_⟩
    · unfold SlR
      rw [hll]
      refine ⟨by rw [nr_length, hll], .inl ⟨b, o, cap0, rfl, by omega, fun i u hu => ?_⟩⟩
      have hi : i < len0 * 2 := by
        have := (List.getElem?_eq_some_iff.1 hu).1
        rw [nr_length, hll] at this; exact this
      have hg : ((List.range len0).map f)[i / 2]? = some (f (i / 2)) := by simp [show i / 2 < len0 by omega]
      obtain ⟨g0, g1⟩ := nr_get _ (i / 2) _ hg
      obtain ⟨q0, q1, _, _⟩ := hf (i / 2) (by omega)
      rcases (by omega : i = i / 2 * 2 ∨ i = i / 2 * 2 + 1) with he | he
      · rw [he] at hu ⊢
        rw [g0] at hu; cases hu
        exact q0
      · rw [he] at hu ⊢
        rw [g1] at hu; cases hu
        rw [← Nat.add_assoc]; exact q1
    · obtain ⟨i, hi, rfl⟩ := List.mem_map.1 hr
      obtain ⟨_, _, h1, h2⟩ := hf i (by simpa using hi)
      exact ⟨h1, h2⟩
end Go.Proofs.YtjgphicmkmdeiaaDoor
