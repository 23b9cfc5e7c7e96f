/-
  Proved: for every list of things the law BitsBack returns true (what was put is read, call by call, whatever stands between; a code is the number of its bits the other way round; nothing is left but fewer than 8 bits of 0; the chapter's rows hold), and what came in reads as before.
  Conditions: none.
-/
import Derived.Test.YtggpdkcmihgdeaaDoor
import Derived.Test.YtggpdkcmihgdeaaBack
namespace Go.Proofs.Ytggpdkcmihgdeaa
open Go.ChangeShapes Go.WideShapes Go.ChangeAt Go.RowKit Bt

theorem things_came {H : Type} {enc : TypeId × Value → H} {W : World} {base : Nat} {v : Value} {d : DataW H} {p : List MemPlace} (hok : Value.okWide Try.prog W .any base 59 v) (h : DataW.Trod enc Try.prog W 0 (fun _ => true) true 59 v d p) :
    ∃ q ts cap, v = .slice q (ts : List T).length cap ∧ TsAt W v ts ∧ ts.length ≤ 9223372036854775807 := by
  obtain ⟨a0, len0, cap0, rfl⟩ := okWide_slice Try.underlying59 hok
  obtain ⟨fuel, hf⟩ := h
  have c61 : Try.prog.cellsOf 61 = 4 := by kernel_rfl
  rcases DataW.trod_slice Try.underlying59 hf with ⟨hcs, _⟩ | ⟨a, len, cap, elems, rest, n, _, hcs, _, _, hl, hm, hlen, hel, _, _⟩
  · simp [Value.cells] at hcs
    obtain ⟨rfl, rfl, rfl⟩ := hcs
    exact ⟨none, [], 0, rfl, .inr ⟨rfl, rfl⟩, by simp⟩
  · simp [Value.cells] at hcs
    obtain ⟨rfl, rfl, rfl⟩ := hcs
    obtain ⟨b, o, sp⟩ := a
    obtain rfl : sp = none := by
      have h1 : Cell.ok Try.prog W .any base 59 (.slice (some ⟨b, o, sp⟩) len0 cap0) := by
        simpa [Value.okWide, Cell.okWide, Try.underlying59] using hok
      simp only [Cell.ok, Try.underlying59] at h1
      exact h1.2.2.2.1
    have each : ∀ i, i < len0 → ∃ x : T, x.1 < 18446744073709551616 ∧ x.2.1 < 256 ∧ W.cell? ⟨b, o + i * 4, none⟩ = some (.int .u64 (x.1 : Nat)) ∧ W.cell? ⟨b, o + i * 4 + 1, none⟩ = some (.int .u8 (x.2.1 : Nat)) ∧
        W.cell? ⟨b, o + i * 4 + 2, none⟩ = some (.bool x.2.2.1) ∧ W.cell? ⟨b, o + i * 4 + 3, none⟩ = some x.2.2.2.1 ∧ SlW W x.2.2.2.1 x.2.2.2.2 := fun i hi => by
      have hi2 := hel i hi
      rw [c61, List.getElem?_eq_getElem (show i < elems.length by omega), Option.bind_eq_some_iff] at hi2
      obtain ⟨cs, hcs, ht⟩ := hi2
      obtain ⟨xs, m, _, _, hcl, hxl, hall⟩ := DataW.trod_struct Try.underlying61 ht
      rw [c61] at hcl
      obtain ⟨c0, c1, c2, c3, rfl⟩ : ∃ c0 c1 c2 c3, cs = [c0, c1, c2, c3] := by
        match cs, hcl with
        | [c0, c1, c2, c3], _ => exact ⟨c0, c1, c2, c3, rfl⟩
      have f0 : DataW.trod enc Try.prog W 0 (fun _ => true) true m 29 (([c0, c1, c2, c3].drop 0).take (Try.prog.cellsOf 29)) = xs[0]? := hall 0 _ rfl
      have f1 : DataW.trod enc Try.prog W 0 (fun _ => true) true m 5 (([c0, c1, c2, c3].drop 1).take (Try.prog.cellsOf 5)) = xs[1]? := hall 1 _ rfl
      have f2 : DataW.trod enc Try.prog W 0 (fun _ => true) true m 4 (([c0, c1, c2, c3].drop 2).take (Try.prog.cellsOf 4)) = xs[2]? := hall 2 _ rfl
      have f3 : DataW.trod enc Try.prog W 0 (fun _ => true) true m 30 (([c0, c1, c2, c3].drop 3).take (Try.prog.cellsOf 30)) = xs[3]? := hall 3 _ rfl
      have k29 : Try.prog.cellsOf 29 = 1 := by kernel_rfl
      have k5 : Try.prog.cellsOf 5 = 1 := by kernel_rfl
      have k4 : Try.prog.cellsOf 4 = 1 := by kernel_rfl
      have k30 : Try.prog.cellsOf 30 = 1 := by kernel_rfl
      have hx4 : xs.length = 4 := hxl
      rw [List.getElem?_eq_getElem (show 0 < xs.length by omega), k29] at f0
      rw [List.getElem?_eq_getElem (show 1 < xs.length by omega), k5] at f1
      rw [List.getElem?_eq_getElem (show 2 < xs.length by omega), k4] at f2
      rw [List.getElem?_eq_getElem (show 3 < xs.length by omega), k30] at f3
      obtain ⟨z0, e0, _, w0⟩ := DataW.trod_int Try.underlying29 f0
      obtain ⟨z1, e1, _, w1⟩ := DataW.trod_int Try.underlying5 f1
      obtain ⟨bb, e2, _⟩ := DataW.trod_bool Try.underlying4 f2
      obtain ⟨q, us, cap, hv, hs⟩ := slice_read f3
      obtain rfl : c0 = .int .u64 z0 := by simpa using e0
      obtain rfl : c1 = .int .u8 z1 := by simpa using e1
      obtain rfl : c2 = .bool bb := by simpa using e2
      obtain ⟨n0, rfl, l0⟩ := nat_u64 w0
      obtain ⟨n1, rfl, l1⟩ := nat_u8 w1
      have hcell : ∀ j c, ([Value.int .u64 (n0 : Int), Value.int .u8 (n1 : Int), Value.bool bb, c3] : List Value)[j]? = some c → W.cell? ⟨b, o + i * 4 + j, none⟩ = some c := fun j c hj => by
        unfold World.cells? at hcs
        rw [if_pos (Nat.zero_le _)] at hcs
        have hlt : j < 4 := by have := (List.getElem?_eq_some_iff.1 hj).1; simpa using this
        have := mapM_some_get hcs j j (by simp [hlt])
        rw [hj, Addr.add_mid, Addr.add_mid] at this
        exact this
      exact ⟨(n0, n1, bb, c3, us), l0, l1, hcell 0 _ rfl, hcell 1 _ rfl, hcell 2 _ rfl, hcell 3 _ rfl, hs⟩
    let f : Nat → T := fun i => if h : i < len0 then Classical.choose (each i h) else (0, 0, false, undef, [])
    have hf : ∀ i (h : i < len0), (f i).1 < 18446744073709551616 ∧ (f i).2.1 < 256 ∧ W.cell? ⟨b, o + i * 4, none⟩ = some (.int .u64 ((f i).1 : Nat)) ∧ W.cell? ⟨b, o + i * 4 + 1, none⟩ = some (.int .u8 ((f i).2.1 : Nat)) ∧
        W.cell? ⟨b, o + i * 4 + 2, none⟩ = some (.bool (f i).2.2.1) ∧ W.cell? ⟨b, o + i * 4 + 3, none⟩ = some (f i).2.2.2.1 ∧ SlW W (f i).2.2.2.1 (f i).2.2.2.2 := fun i h => by
      have := Classical.choose_spec (each i h)
      simp only [f, h, dif_pos]
      exact this
    have hll : ((List.range len0).map f).length = len0 := by simp
    refine ⟨some ⟨b, o, none⟩, (List.range len0).map f, cap0, by rw [hll], .inl ⟨b, o, cap0, by rw [hll], by rw [hll]; exact hl, fun i x hx => ?_⟩, by rw [hll]; unfold maxLen at hm; omega⟩
    have hi : i < len0 := by have := (List.getElem?_eq_some_iff.1 hx).1; rw [hll] at this; exact this
    obtain rfl : f i = x := by simpa [hi] using hx
    exact hf i hi
set_option maxRecDepth 100000 in
theorem back_lifted (os : Os) (started : os.Started) (H : Type) (enc : TypeId × Value → H) :
    ReturnsInHanded {} Try.checked os 5 .any (Rows.bitsBackSpec.pre6 enc Try.prog Try.f5 Rows.bitsBackRow.domain false) (Rows.bitsBackSpec.post enc Try.prog Try.f5 false true false false) := by
  refine returnsInHanded_of_change (C := Try.checked) own started (by kernel_rfl) Try.func5
    (ChangeSpec.witness6 (enc := enc) (C := Try.checked) false ⟨#[], #[.slice none 0 0], []⟩ 8 (by kernel_rfl) (by kernel_rfl) (by kernel_rfl) (by kernel_rfl)) ?_
  intro W base args ds gs before hval0 hW _ _
  have hval : ∀ (j : Nat) t v, Try.f5.params[j]? = some t → args[j]? = some v → Value.okWide Try.prog W .any base t v := hval0
  have hW' := hW
  obtain ⟨p, q, hA0, hV, rfl, hfz, hnd⟩ := hW
  have hA : DataW.TrodAll enc Try.prog W 0 (fun _ => true) true Try.f5.params.toList args.toList ds p := hA0
  rw [Try.params5] at hA hval
  obtain ⟨v0, vs0, d0, ds0, p0, q0, hargs, rfl, rfl, h0, r0⟩ := trodAll_cons hA
  obtain ⟨rfl, rfl, rfl⟩ := trodAll_nil r0
  obtain rfl : args = #[v0] := by cases args; simp_all
  obtain ⟨rfl, rfl⟩ := trodVars_none hV
  have lt0 : ∀ x ∈ p0, x.block < W.heap.size := by obtain ⟨m, hm⟩ := h0; exact DataW.trod_lt m _ _ _ hm
  obtain ⟨q, ts, cap, rfl, hs, hlen⟩ := things_came (hval 0 59 v0 rfl rfl) h0
  clear hA0 hval0
  refine (back_walk W q cap ts hs hlen).mono fun e W' ⟨he, bel⟩ => ?_
  subst he
  exact ⟨_, rfl, _, _, _, [], _, [], hW', trodAll_mk1 (shut_bool Try.underlying4 _), (trodAll_cons_mk (Below.trod laidOut (by kernel_rfl) (of_decide_eq_true (by kernel_rfl)) h0 bel lt0) trodAll_mk0), rfl, bel.frame _, fun h => by cases h⟩
theorem back_holds : Rows.BitsBackSaid :=
  OpenClaim.holds_of_wide 5 Try.f5 rfl rfl rfl rfl rfl rfl rfl ⟨rfl, rfl, rfl, rfl, rfl⟩ rfl rfl rfl rfl rfl (by kernel_rfl) Try.func5 (by kernel_rfl)
    (of_decide_eq_true (by kernel_rfl)) (by unfold Func.isWrapper; first | (rw [if_pos (by decide +kernel)]; kernel_rfl) | (rw [if_neg (by decide +kernel)]; exact ⟨rfl, rfl⟩))
    (fun os started H enc _ => back_lifted os started H enc)
#print axioms back_holds
end Go.Proofs.Ytggpdkcmihgdeaa
