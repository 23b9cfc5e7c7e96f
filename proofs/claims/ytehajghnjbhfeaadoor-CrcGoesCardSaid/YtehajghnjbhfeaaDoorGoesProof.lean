/-
  Proved: for every list of parts the law CrcGoes returns true (the sums and counts that a Run tells, in pieces and with Resets between, and those of Of, are the document's own; what is handed in stays; the chapter's rows hold), and what came in reads as before.
  Conditions: the table fourSteps of package crc reads as the program's text lays it (the card ties it).
-/
import Derived.Test.YtehajghnjbhfeaaDoorDoor
import Derived.Test.YtehajghnjbhfeaaDoorGoes
namespace Go.Proofs.YtehajghnjbhfeaaDoor
open Go.ChangeShapes Go.WideShapes Go.ChangeAt Go.RowKit Crc

theorem cell_spot {W : World} {x : Addr} {v : Value} (h : W.cell? x = some v) : x.spot = none := by
  unfold World.cell? at h
  split at h
  · cases hs : x.spot with
    | none => rfl
    | some s => rw [hs] at h; simp at h
  · cases h
/-- A slice of bytes that lies in memory. -/
theorem slice_read {H : Type} {enc : TypeId × Value → H} {W : World} {fuel : Nat} {v : Value} {x : DataW H × List MemPlace} (h : DataW.trod enc Tryd.prog W 0 (fun _ => true) true fuel 27 [v] = some x) :
    ∃ q us cap, v = .slice q (us : List UInt8).length cap ∧ SlW W v us := by
  rcases open_ints Tryd.underlying27 Tryd.underlying5 (by kernel_rfl) h with ⟨hcs, _⟩ | ⟨a, l, c, zs, hcs, _, hl, hm, hz, _, hcell, hwz⟩
  · simp at hcs
    subst hcs
    exact ⟨none, [], 0, rfl, .inr ⟨none, rfl, rfl⟩⟩
  · simp at hcs
    subst hcs
    simp only [if_true] at hz
    by_cases h0 : c = 0
    · obtain rfl : l = 0 := by omega
      subst h0
      exact ⟨some a, [], 0, rfl, .inr ⟨some a, rfl, rfl⟩⟩
    · have hc0 := hcell 0 (by omega)
      have hs : a.spot = none := by
        have h1 : a.add 0 = a := by unfold Addr.add; simp
        rw [h1] at hc0
        exact cell_spot hc0
      obtain ⟨b, o, sp⟩ := a
      simp only at hs
      subst hs
      obtain ⟨us, hu, hB⟩ := bytes_of_ints hl hz hcell hwz
      exact ⟨some ⟨b, o, none⟩, us, c, by rw [hu], .inl ⟨b, o, c, by rw [hu], by omega, hB⟩⟩
theorem parts_came {H : Type} {enc : TypeId × Value → H} {W : World} {base : Nat} {v : Value} {d : DataW H} {p : List MemPlace} (hok : Value.okWide Tryd.prog W .any base 22 v) (h : DataW.Trod enc Tryd.prog W 0 (fun _ => true) true 22 v d p) :
    ∃ q ps cap, v = .slice q (ps : List (Bool × Value × List UInt8)).length cap ∧ PsAt W v ps ∧ ps.length ≤ 9223372036854775807 := by
  obtain ⟨a0, len0, cap0, rfl⟩ := okWide_slice Tryd.underlying22 hok
  obtain ⟨fuel, hf⟩ := h
  have c29 : Tryd.prog.cellsOf 29 = 2 := by kernel_rfl
  rcases DataW.trod_slice Tryd.underlying22 hf with ⟨hcs, _⟩ | ⟨a, len, cap, elems, rest, n, _, hcs, _, _, hl, hm, hlen, hel, _, _⟩
  · simp [Value.cells] at hcs
    obtain ⟨rfl, rfl, rfl⟩ := hcs
    exact ⟨none, [], 0, rfl, .inr ⟨rfl, rfl⟩, by simp⟩
  · simp [Value.cells] at hcs
    obtain ⟨rfl, rfl, rfl⟩ := hcs
    obtain ⟨b, o, sp⟩ := a
    obtain rfl : sp = none := by
      have h1 : Cell.ok Tryd.prog W .any base 22 (.slice (some ⟨b, o, sp⟩) len0 cap0) := by
        simpa [Value.okWide, Cell.okWide, Tryd.underlying22] using hok
      simp only [Cell.ok, Tryd.underlying22] at h1
      exact h1.2.2.2.1
    have each : ∀ i, i < len0 → ∃ x : Bool × Value × List UInt8, W.cell? ⟨b, o + i * 2, none⟩ = some (.bool x.1) ∧ W.cell? ⟨b, o + i * 2 + 1, none⟩ = some x.2.1 ∧ SlW W x.2.1 x.2.2 := fun i hi => by
      have hi2 := hel i hi
      rw [c29, List.getElem?_eq_getElem (show i < elems.length by omega), Option.bind_eq_some_iff] at hi2
      obtain ⟨cs, hcs, ht⟩ := hi2
      obtain ⟨xs, m, _, _, hcl, hxl, hall⟩ := DataW.trod_struct Tryd.underlying29 ht
      rw [c29] at hcl
      obtain ⟨c0, c1, rfl⟩ : ∃ c0 c1, cs = [c0, c1] := by
        match cs, hcl with
        | [c0, c1], _ => exact ⟨c0, c1, rfl⟩
      have f0 : DataW.trod enc Tryd.prog W 0 (fun _ => true) true m 4 (([c0, c1].drop 0).take (Tryd.prog.cellsOf 4)) = xs[0]? := hall 0 _ rfl
      have f1 : DataW.trod enc Tryd.prog W 0 (fun _ => true) true m 27 (([c0, c1].drop 1).take (Tryd.prog.cellsOf 27)) = xs[1]? := hall 1 _ rfl
      have c4 : Tryd.prog.cellsOf 4 = 1 := by kernel_rfl
      have c27 : Tryd.prog.cellsOf 27 = 1 := by kernel_rfl
      have hx2 : xs.length = 2 := hxl
      rw [List.getElem?_eq_getElem (show 0 < xs.length by omega)] at f0
      rw [List.getElem?_eq_getElem (show 1 < xs.length by omega)] at f1
      rw [c4] at f0
      rw [c27] at f1
      obtain ⟨bb, hb0, _⟩ := DataW.trod_bool Tryd.underlying4 f0
      obtain ⟨q, us, cap, hv, hs⟩ := slice_read f1
      obtain rfl : c0 = .bool bb := by simpa using hb0
      have hcell : ∀ j c, ([Value.bool bb, c1] : List Value)[j]? = some c → W.cell? ⟨b, o + i * 2 + j, none⟩ = some c := fun j c hj => by
        unfold World.cells? at hcs
        rw [if_pos (Nat.zero_le _)] at hcs
        have hlt : j < 2 := by have := (List.getElem?_eq_some_iff.1 hj).1; simpa using this
        have := mapM_some_get hcs j j (by simp [hlt])
        rw [hj, Addr.add_mid, Addr.add_mid] at this
        exact this
      exact ⟨(bb, c1, us), hcell 0 _ rfl, hcell 1 _ rfl, hs⟩
    let f : Nat → Bool × Value × List UInt8 := fun i => if h : i < len0 then Classical.choose (each i h) else (false, undef, [])
    have hf : ∀ i (h : i < len0), W.cell? ⟨b, o + i * 2, none⟩ = some (.bool (f i).1) ∧ W.cell? ⟨b, o + i * 2 + 1, none⟩ = some (f i).2.1 ∧ SlW W (f i).2.1 (f i).2.2 := fun i h => by
      have := Classical.choose_spec (each i h)
      simp only [f, h, dif_pos]
      exact this
    have hll : ((List.range len0).map f).length = len0 := by simp
    refine ⟨some ⟨b, o, none⟩, (List.range len0).map f, cap0, by rw [hll], .inl ⟨b, o, cap0, by rw [hll], fun i x hx => ?_⟩, by rw [hll]; unfold maxLen at hm; omega⟩
    have hi : i < len0 := by have := (List.getElem?_eq_some_iff.1 hx).1; rw [hll] at this; exact this
    obtain rfl : f i = x := by simpa [hi] using hx
    exact hf i hi
set_option maxRecDepth 100000 in
theorem goes_lifted (os : Os) (started : os.Started) (H : Type) (enc : TypeId × Value → H) :
    ReturnsInHanded {} Tryd.checked os 3 .any (fun w args => (Rows.crcGoesSpec.pre enc Tryd.prog Tryd.f3 [] false w args ∧ laidMetH Tryd.prog laid1 w) ∧ sizedMet enc Tryd.prog Tryd.f3 (OpenSpec.ofChange Rows.crcGoesSpec) false w args)
      (Rows.crcGoesSpec.post enc Tryd.prog Tryd.f3 false true false false) := by
  refine returnsInHanded_of_change_and (C := Tryd.checked) (X := fun w _ => laidMetH Tryd.prog laid1 w) (fun _ _ _ hh h => h.of_heap hh) own started (by kernel_rfl) Tryd.func3
    (ChangeSpec.witness_shaped (enc := enc) (C := Tryd.checked) (os := os) (X := fun w _ => laidMetH Tryd.prog laid1 w) false (World.doorLaid Tryd.prog 4000 os) #[.slice none 0 0] 8 rfl (World.shaped_of_RefB (by kernel_rfl) (by kernel_rfl)) (by kernel_rfl) (by kernel_rfl) (by kernel_rfl) (door_met os _)) ?_
  intro W base args ds gs before hval0 hW _ _ hL _
  have hval : ∀ (j : Nat) t v, Tryd.f3.params[j]? = some t → args[j]? = some v → Value.okWide Tryd.prog W .any base t v := hval0
  have hW' := hW
  obtain ⟨p, q, hA0, hV, rfl, hfz, hnd⟩ := hW
  have hA : DataW.TrodAll enc Tryd.prog W 0 (fun _ => true) true Tryd.f3.params.toList args.toList ds p := hA0
  rw [Tryd.params3] at hA hval
  obtain ⟨v0, vs0, d0, ds0, p0, q0, hargs, rfl, rfl, h0, r0⟩ := trodAll_cons hA
  obtain ⟨rfl, rfl, rfl⟩ := trodAll_nil r0
  obtain rfl : args = #[v0] := by cases args; simp_all
  obtain ⟨rfl, rfl⟩ := trodVars_none hV
  have lt0 : ∀ x ∈ p0, x.block < W.heap.size := by obtain ⟨m, hm⟩ := h0; exact DataW.trod_lt m _ _ _ hm
  have hT := of_laid hL
  have hwalk : Calls Tryd.prog 3 #[v0] W (BoolPost true W) := by
    obtain ⟨q, ps, cap, rfl, hp, hlen⟩ := parts_came (hval 0 22 v0 rfl rfl) h0
    exact goes_walk W q cap ps hp hlen hT
  clear hA0 hval0
  refine hwalk.mono fun e W' ⟨he, bel⟩ => ?_
  subst he
  exact ⟨_, rfl, _, _, _, [], _, [], hW', trodAll_mk1 (shut_bool Tryd.underlying4 _), (trodAll_cons_mk (Below.trod laidOut (by kernel_rfl) (of_decide_eq_true (by kernel_rfl)) h0 bel lt0) trodAll_mk0), rfl, bel.frame _, fun h => by cases h⟩

theorem goes_holds : Rows.CrcGoesSaid :=
  OpenClaim.holds_of_wide 3 Tryd.f3 rfl rfl rfl rfl rfl rfl rfl ⟨rfl, rfl, rfl, rfl, rfl⟩ rfl rfl rfl rfl rfl (by kernel_rfl) Tryd.func3 (by kernel_rfl)
    (of_decide_eq_true (by kernel_rfl)) (by unfold Func.isWrapper; first | (rw [if_pos (by decide +kernel)]; kernel_rfl) | (rw [if_neg (by decide +kernel)]; exact ⟨rfl, rfl⟩))
    (fun os started H enc _ => goes_lifted os started H enc)

theorem goes_card : Rows.CrcGoesCardSaid :=
  Claim7.holds_tied_plain_at .later [] [.data] true (true, "7f9e226b8f9ef7fbe8d36956f907f5070901b3a73fc26463f3e22c21c30dc30b") false
    goes_holds (fun _ h => by cases h) (by kernel_rfl) (fun _ h => by cases h) crcGoes_row_tie rfl ⟨rfl, rfl⟩ (by kernel_rfl) rfl
    (fun f fn hf hfn => by
      obtain rfl : f = 3 := Option.some.inj ((show Tryd.prog.funcNamed "portolan/portolanlaw02.CrcGoes" = some 3 by kernel_rfl).symm.trans hf) |>.symm
      obtain rfl : fn = Tryd.f3 := (Option.some.inj (Tryd.func3.symm.trans hfn)).symm
      exact ⟨by kernel_rfl, fun j t ht => by
        rw [Tryd.params3] at ht
        have h3 : t = 22 := by
          rcases j with _ | j
          · simpa using ht.symm
          · simp at ht
        subst h3
        exact (show Tryd.prog.wantsStandIn 22 = false by kernel_rfl)⟩)
    (by kernel_rfl)
#print axioms goes_card
end Go.Proofs.YtehajghnjbhfeaaDoor
