/-
  Texts that came in, a slice of them.
-/
import Derived.Test.YtgdnemjlmhmhhaaDoorHz
import Derived.SliceStrings
namespace Go.Proofs.YtgdnemjlmhmhhaaDoor
open Go.ChangeShapes Go.WideShapes Go.ChangeAt Go.RowKit

set_option maxRecDepth 100000 in
theorem spot_of {P : Program} {W : World} {base : Nat} {t e : TypeId} {b o len cap : Nat} {sp : Option Nat} (ht : P.underlying t = some (.slice e)) (hok : Value.okWide P W .any base t (.slice (some ⟨b, o, sp⟩) len cap)) : sp = none := by
  have h1 : Cell.ok P W .any base t (.slice (some ⟨b, o, sp⟩) len cap) := by
    simpa [Value.okWide, Cell.okWide, ht] using hok
  simp only [Cell.ok, ht] at h1
  exact h1.2.2.2.1
set_option maxRecDepth 100000 in
theorem texts_came {H : Type} {enc : TypeId × Value → H} {W : World} {base : Nat} {v : Value} {d : DataW H} {p : List MemPlace} (hok : Value.okWide Tryd.prog W .any base 31 v) (h : DataW.Trod enc Tryd.prog W 0 (fun _ => true) true 31 v d p) :
    ∃ us : List (List UInt8), SlV W v (sl us) ∧ us.length ≤ maxLen ∧ ∀ x ∈ us, x.length ≤ maxLen := by
  obtain ⟨a0, len0, cap0, rfl⟩ := okWide_slice Tryd.underlying31 hok
  obtain ⟨fuel, hf⟩ := h
  rcases open_strings Tryd.underlying31 Tryd.underlying9 (by kernel_rfl) hf with ⟨hcs, _⟩ | ⟨x, len1, c, ss, hcs, _, hl, hm, hz, _, hcell, hwz⟩
  · simp [Value.cells] at hcs
    obtain ⟨rfl, rfl, rfl⟩ := hcs
    exact ⟨[], .inr ⟨none, rfl, rfl⟩, Nat.zero_le _, fun x hx => by cases hx⟩
  · simp [Value.cells] at hcs
    obtain ⟨rfl, rfl, rfl⟩ := hcs
    obtain ⟨b, o, sp⟩ := x
    obtain rfl : sp = none := spot_of Tryd.underlying31 hok
    have hz' : ss.length = cap0 := by simpa using hz
    have e : sl ((ss.take len0).map fun s => s.data.toList) = (ss.take len0).map Value.string := by
      unfold sl
      rw [List.map_map]
      apply List.map_congr_left
      intro s _
      show Value.string (sb s.data.toList) = Value.string s
      rw [sb_of]
    have hlen : ((ss.take len0).map Value.string).length = len0 := by simp; omega
    refine ⟨(ss.take len0).map fun s => s.data.toList, .inl ⟨b, o, cap0, ?_, ?_, ?_⟩, ?_, ?_⟩
    · rw [e, hlen]
    · rw [e, hlen]; exact hl
    · rw [e]
      intro i u hi
      have hi2 := (List.getElem?_eq_some_iff.1 hi).1
      have hi3 : i < len0 := by rw [hlen] at hi2; exact hi2
      have hc := hcell i (by omega)
      rw [Addr.add_mid] at hc
      rw [hc]
      have hi4 : i < ss.length := by omega
      rw [← hi]
      simp [hi3, hi4]
    · rw [List.length_map, List.length_take]; omega
    · intro x hx
      obtain ⟨s, hs, rfl⟩ := List.mem_map.1 hx
      have := hwz s (List.mem_of_mem_take hs)
      rw [← Lib.size_eq]; exact this
end Go.Proofs.YtgdnemjlmhmhhaaDoor
