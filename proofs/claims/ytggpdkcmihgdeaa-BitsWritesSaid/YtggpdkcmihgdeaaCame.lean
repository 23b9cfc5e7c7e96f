/-
  From the given rows' memory to the walks' words: acts that came in.
-/
import Derived.Test.YtggpdkcmihgdeaaDoor
import Derived.Test.YtggpdkcmihgdeaaActs
namespace Go.Proofs.Ytggpdkcmihgdeaa
open Go.ChangeShapes Go.WideShapes Go.ChangeAt Go.RowKit Bt

theorem acts_came {H : Type} {enc : TypeId × Value → H} {W : World} {base : Nat} {v : Value} {d : DataW H} {p : List MemPlace} (hok : Value.okWide Try.prog W .any base 22 v) (h : DataW.Trod enc Try.prog W 0 (fun _ => true) true 22 v d p) :
    ∃ q acts cap, v = .slice q (acts : List A).length cap ∧ AsAt W v acts ∧ acts.length ≤ 9223372036854775807 := by
  obtain ⟨a0, len0, cap0, rfl⟩ := okWide_slice Try.underlying22 hok
  obtain ⟨fuel, hf⟩ := h
  have c32 : Try.prog.cellsOf 32 = 4 := by kernel_rfl
  rcases DataW.trod_slice Try.underlying22 hf with ⟨hcs, _⟩ | ⟨a, len, cap, elems, rest, n, _, hcs, _, _, hl, hm, hlen, hel, _, _⟩
  · simp [Value.cells] at hcs
    obtain ⟨rfl, rfl, rfl⟩ := hcs
    exact ⟨none, [], 0, rfl, .inr ⟨rfl, rfl⟩, by simp⟩
  · simp [Value.cells] at hcs
    obtain ⟨rfl, rfl, rfl⟩ := hcs
    obtain ⟨b, o, sp⟩ := a
    obtain rfl : sp = none := by
      have h1 : Cell.ok Try.prog W .any base 22 (.slice (some ⟨b, o, sp⟩) len0 cap0) := by
        simpa [Value.okWide, Cell.okWide, Try.underlying22] using hok
      simp only [Cell.ok, Try.underlying22] at h1
      exact h1.2.2.2.1
    have each : ∀ i, i < len0 → ∃ x : A, x.2.2.1 < 18446744073709551616 ∧ W.cell? ⟨b, o + i * 4, none⟩ = some (.int .i64 x.1) ∧ W.cell? ⟨b, o + i * 4 + 1, none⟩ = some (.int .i64 x.2.1) ∧
        W.cell? ⟨b, o + i * 4 + 2, none⟩ = some (.int .u64 (x.2.2.1 : Nat)) ∧ W.cell? ⟨b, o + i * 4 + 3, none⟩ = some x.2.2.2.1 ∧ SlW W x.2.2.2.1 x.2.2.2.2 := fun i hi => by
      have hi2 := hel i hi
      rw [c32, List.getElem?_eq_getElem (show i < elems.length by omega), Option.bind_eq_some_iff] at hi2
      obtain ⟨cs, hcs, ht⟩ := hi2
      obtain ⟨xs, m, _, _, hcl, hxl, hall⟩ := DataW.trod_struct Try.underlying32 ht
      rw [c32] at hcl
      obtain ⟨c0, c1, c2, c3, rfl⟩ : ∃ c0 c1 c2 c3, cs = [c0, c1, c2, c3] := by
        match cs, hcl with
        | [c0, c1, c2, c3], _ => exact ⟨c0, c1, c2, c3, rfl⟩
      have f0 : DataW.trod enc Try.prog W 0 (fun _ => true) true m 3 (([c0, c1, c2, c3].drop 0).take (Try.prog.cellsOf 3)) = xs[0]? := hall 0 _ rfl
      have f1 : DataW.trod enc Try.prog W 0 (fun _ => true) true m 3 (([c0, c1, c2, c3].drop 1).take (Try.prog.cellsOf 3)) = xs[1]? := hall 1 _ rfl
      have f2 : DataW.trod enc Try.prog W 0 (fun _ => true) true m 29 (([c0, c1, c2, c3].drop 2).take (Try.prog.cellsOf 29)) = xs[2]? := hall 2 _ rfl
      have f3 : DataW.trod enc Try.prog W 0 (fun _ => true) true m 30 (([c0, c1, c2, c3].drop 3).take (Try.prog.cellsOf 30)) = xs[3]? := hall 3 _ rfl
      have k29 : Try.prog.cellsOf 29 = 1 := by kernel_rfl
      have k3 : Try.prog.cellsOf 3 = 1 := by kernel_rfl
      have k30 : Try.prog.cellsOf 30 = 1 := by kernel_rfl
      have hx4 : xs.length = 4 := hxl
      rw [List.getElem?_eq_getElem (show 0 < xs.length by omega), k3] at f0
      rw [List.getElem?_eq_getElem (show 1 < xs.length by omega), k3] at f1
      rw [List.getElem?_eq_getElem (show 2 < xs.length by omega), k29] at f2
      rw [List.getElem?_eq_getElem (show 3 < xs.length by omega), k30] at f3
      obtain ⟨z0, e0, _, _⟩ := DataW.trod_int Try.underlying3 f0
      obtain ⟨z1, e1, _, _⟩ := DataW.trod_int Try.underlying3 f1
      obtain ⟨z2, e2, _, w2⟩ := DataW.trod_int Try.underlying29 f2
      obtain ⟨q, us, cap, hv, hs⟩ := slice_read f3
      obtain rfl : c0 = .int .i64 z0 := by simpa using e0
      obtain rfl : c1 = .int .i64 z1 := by simpa using e1
      obtain rfl : c2 = .int .u64 z2 := by simpa using e2
      obtain ⟨n2, rfl, l2⟩ := nat_u64 w2
      have hcell : ∀ j c, ([Value.int .i64 z0, Value.int .i64 z1, Value.int .u64 (n2 : Int), c3] : List Value)[j]? = some c → W.cell? ⟨b, o + i * 4 + j, none⟩ = some c := fun j c hj => by
        unfold World.cells? at hcs
        rw [if_pos (Nat.zero_le _)] at hcs
        have hlt : j < 4 := by have := (List.getElem?_eq_some_iff.1 hj).1; simpa using this
        have := mapM_some_get hcs j j (by simp [hlt])
        rw [hj, Addr.add_mid, Addr.add_mid] at this
        exact this
      exact ⟨(z0, z1, n2, c3, us), l2, hcell 0 _ rfl, hcell 1 _ rfl, hcell 2 _ rfl, hcell 3 _ rfl, hs⟩
    let f : Nat → A := fun i => if h : i < len0 then Classical.choose (each i h) else (0, 0, 0, undef, [])
    have hf : ∀ i (h : i < len0), (f i).2.2.1 < 18446744073709551616 ∧ W.cell? ⟨b, o + i * 4, none⟩ = some (.int .i64 (f i).1) ∧ W.cell? ⟨b, o + i * 4 + 1, none⟩ = some (.int .i64 (f i).2.1) ∧
        W.cell? ⟨b, o + i * 4 + 2, none⟩ = some (.int .u64 ((f i).2.2.1 : Nat)) ∧ W.cell? ⟨b, o + i * 4 + 3, none⟩ = some (f i).2.2.2.1 ∧ SlW W (f i).2.2.2.1 (f i).2.2.2.2 := fun i h => by
      have := Classical.choose_spec (each i h)
      simp only [f, h, dif_pos]
      exact this
    have hll : ((List.range len0).map f).length = len0 := by simp
    refine ⟨some ⟨b, o, none⟩, (List.range len0).map f, cap0, by rw [hll], .inl ⟨b, o, cap0, by rw [hll], by rw [hll]; exact hl, fun i x hx => ?_⟩, by rw [hll]; unfold maxLen at hm; omega⟩
    have hi : i < len0 := by have := (List.getElem?_eq_some_iff.1 hx).1; rw [hll] at this; exact this
    obtain rfl : f i = x := by simpa [hi] using hx
    exact hf i hi
end Go.Proofs.Ytggpdkcmihgdeaa
