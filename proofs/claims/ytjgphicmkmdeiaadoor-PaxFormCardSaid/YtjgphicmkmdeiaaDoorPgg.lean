/-
  Bytes that came in.
-/
import Derived.Test.YtjgphicmkmdeiaaDoorPz
import Derived.Test.YtjgphicmkmdeiaaDoorPgf
namespace Go.Proofs.YtjgphicmkmdeiaaDoor
open Go.ChangeShapes Go.WideShapes Go.ChangeAt Go.RowKit

theorem row_of_cells {W : World} {g o : Nat} {len cap : Nat} {k : IntKind} {zs : List Int} (hl : len ≤ cap) (hz : zs.length = cap) (hcell : ∀ i, i < zs.length → W.cell? ((⟨g, o, none⟩ : Addr).add i) = some (.int k (zs.getD i 0))) :
    RowAt W g o ((zs.take len).map (Value.int k)) := by
  intro i v hi
  have hi2 := (List.getElem?_eq_some_iff.1 hi).1
  have hi3 : i < len := by simp at hi2; omega
  have hc := hcell i (by omega)
  rw [Addr.add_mid] at hc
  rw [hc]
  have hi4 : i < zs.length := by omega
  rw [← hi]
  simp [hi3, hi4]
set_option maxRecDepth 100000 in
theorem spot_of {P : Program} {W : World} {base : Nat} {t e : TypeId} {b o len cap : Nat} {sp : Option Nat} (ht : P.underlying t = some (.slice e)) (hok : Value.okWide P W .any base t (.slice (some ⟨b, o, sp⟩) len cap)) : sp = none := by
  have h1 : Cell.ok P W .any base t (.slice (some ⟨b, o, sp⟩) len cap) := by
    simpa [Value.okWide, Cell.okWide, ht] using hok
  simp only [Cell.ok, ht] at h1
  exact h1.2.2.2.1
set_option maxRecDepth 100000 in
/-- Bytes that came in. -/
theorem bytes_came {H : Type} {enc : TypeId × Value → H} {W : World} {base : Nat} {v : Value} {d : DataW H} {p : List MemPlace} (hok : Value.okWide Tryd.prog W .any base 26 v) (h : DataW.Trod enc Tryd.prog W 0 (fun _ => true) true 26 v d p) :
    ∃ us : List UInt8, SlV W v (bl us) ∧ us.length ≤ maxLen := by
  obtain ⟨a0, len0, cap0, rfl⟩ := okWide_slice Tryd.underlying26 hok
  obtain ⟨fuel, hf⟩ := h
  rcases open_ints Tryd.underlying26 Tryd.underlying5 (by kernel_rfl) hf with ⟨hcs, _⟩ | ⟨x, l, c, zs, hcs, _, hl, hm, hz, _, hcell, hwz⟩
  · simp [Value.cells] at hcs
    obtain ⟨rfl, rfl, rfl⟩ := hcs
    exact ⟨[], .inr ⟨none, rfl, rfl⟩, Nat.zero_le _⟩
  · simp [Value.cells] at hcs
    obtain ⟨rfl, rfl, rfl⟩ := hcs
    obtain ⟨b, o, sp⟩ := x
    obtain rfl : sp = none := spot_of Tryd.underlying26 hok
    have hz' : zs.length = cap0 := by simpa using hz
    have hlen : ((zs.take len0).map (Value.int .u8)).length = len0 := by simp; omega
    have e : (zs.take len0).map (Value.int .u8) = bl ((zs.take len0).map fun z => UInt8.ofNat z.toNat) := by
      unfold bl
      rw [List.map_map]
      apply List.map_congr_left
      intro z hz2
      have := bounds_u8 (hwz z (List.mem_of_mem_take hz2))
      show Value.int .u8 z = Value.int .u8 (bi (UInt8.ofNat z.toNat))
      rw [bi_of z.toNat (by omega), Int.toNat_of_nonneg (by omega)]
    refine ⟨(zs.take len0).map fun z => UInt8.ofNat z.toNat, .inl ⟨b, o, cap0, ?_, ?_, ?_⟩, ?_⟩
    · rw [← e, hlen]
    · rw [← e, hlen]; exact hl
    · rw [← e]; exact row_of_cells hl hz' hcell
    · rw [List.length_map, List.length_take]; omega
end Go.Proofs.YtjgphicmkmdeiaaDoor
