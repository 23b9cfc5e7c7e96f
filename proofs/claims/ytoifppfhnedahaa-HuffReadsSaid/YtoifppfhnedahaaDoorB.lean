/-
  From the given rows' memory to the walks' words: slices of truth values that came in.
-/
import Derived.Test.YtoifppfhnedahaaDoor
import Derived.Test.YtoifppfhnedahaaNext
import Derived.Deep.Grids
namespace Go.Proofs.Ytoifppfhnedahaa
open Go.ChangeShapes Go.WideShapes Go.ChangeAt Go.RowKit

theorem bools_came {H : Type} {enc : TypeId × Value → H} {W : World} {base : Nat} {v : Value} {d : DataW H} {p : List MemPlace} {t e : TypeId} (ht : Try.prog.underlying t = some (.slice e)) (he : Try.prog.underlying e = some .bool) (hsz : Try.prog.cellsOf e = 1)
    (hok : Value.okWide Try.prog W .any base t v) (h : DataW.Trod enc Try.prog W 0 (fun _ => true) true t v d p) :
    ∃ L : List Bool, SlV W v (nb L) := by
  obtain ⟨a0, len0, cap0, rfl⟩ := okWide_slice ht hok
  obtain ⟨fuel, hf⟩ := h
  rcases Go.Deep.open_bools ht he hsz hf with ⟨hcs, _⟩ | ⟨x, l, c, B, hcs, _, hl, hm, _, hcell⟩
  · simp [Value.cells] at hcs
    obtain ⟨rfl, rfl, rfl⟩ := hcs
    exact ⟨[], .inr ⟨none, rfl, rfl⟩⟩
  · simp [Value.cells] at hcs
    obtain ⟨rfl, rfl, rfl⟩ := hcs
    obtain ⟨b, o, sp⟩ := x
    obtain rfl : sp = none := spot_of ht hok
    have hlen : (nb ((List.range len0).map B)).length = len0 := by simp [nb]
    refine ⟨(List.range len0).map B, .inl ⟨b, o, cap0, by rw [hlen], by rw [hlen]; exact hl, fun i v hi => ?_⟩⟩
    have hi2 := (List.getElem?_eq_some_iff.1 hi).1
    rw [hlen] at hi2
    have hc := hcell i (by omega)
    rw [Addr.add_mid] at hc
    rw [hc, ← hi]
    simp [nb, hi2]
end Go.Proofs.Ytoifppfhnedahaa
