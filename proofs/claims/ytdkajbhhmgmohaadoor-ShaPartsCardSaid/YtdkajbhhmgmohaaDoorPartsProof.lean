/-
  Proved: for every list of parts and every place the law ShaParts returns true (however bytes are parted, taken part by part they have the digest that they have at once; a sum asked for on the way changes nothing and is that of what was taken; a copy goes on alone; the two examples hold), and what came in reads as before.
  Conditions: the two tables beginning and constants of package sha read as the program's text lays them (the card ties them).
-/
import Derived.Test.YtdkajbhhmgmohaaDoorDoor
import Derived.Test.YtdkajbhhmgmohaaDoorPartsWalk
namespace Go.Proofs.YtdkajbhhmgmohaaDoor
open Go.ChangeShapes Go.WideShapes Go.ChangeAt Go.RowKit Sha

theorem cell_spot {W : World} {x : Addr} {v : Value} (h : W.cell? x = some v) : x.spot = none := by
  unfold World.cell? at h
  split at h
  · cases hs : x.spot with
    | none => rfl
    | some s => rw [hs] at h; simp at h
  · cases h

set_option maxRecDepth 100000 in
theorem slice_read {H : Type} {enc : TypeId × Value → H} {W : World} {fuel : Nat} {v : Value} {x : DataW H × List MemPlace} (h : DataW.trod enc Tryd.prog W 0 (fun _ => true) true fuel 22 [v] = some x) :
    ∃ q us cap, v = .slice q (us : List UInt8).length cap ∧ SlW W v us := by
  rcases open_ints Tryd.underlying22 Tryd.underlying5 (by kernel_rfl) h with ⟨hcs, _⟩ | ⟨a, l, c, zs, hcs, _, hl, hm, hz, _, hcell, hwz⟩
  · simp at hcs
    subst hcs
    exact ⟨none, [], 0, rfl, .inr ⟨none, rfl, rfl⟩⟩
  · simp at hcs
    subst hcs
    simp only [if_true] at hz
    by_cases h0 : c = 0
    · obtain rfl : l = 0 := by omega
      subst h0
      exact ⟨some a, [], 0, rfl, .inr ⟨some a, rfl, rfl⟩⟩
    · have hc0 := hcell 0 (by omega)
      have hs : a.spot = none := by
        have h1 : a.add 0 = a := by unfold Addr.add; simp
        rw [h1] at hc0
        exact cell_spot hc0
      obtain ⟨b, o, sp⟩ := a
      simp only at hs
      subst hs
      obtain ⟨us, hu, hB⟩ := bytes_of_ints hl hz hcell hwz
      exact ⟨some ⟨b, o, none⟩, us, c, by rw [hu], .inl ⟨b, o, c, by rw [hu], by omega, hB⟩⟩
set_option maxRecDepth 100000 in
theorem list_came {H : Type} {enc : TypeId × Value → H} {W : World} {base : Nat} {v : Value} {d : DataW H} {p : List MemPlace} (hok : Value.okWide Tryd.prog W .any base 39 v) (h : DataW.Trod enc Tryd.prog W 0 (fun _ => true) true 39 v d p) :
    ∃ q ps cap, v = .slice q (ps : List (Value × List UInt8)).length cap ∧ PAt W v ps ∧ ps.length ≤ 9223372036854775807 := by
  obtain ⟨a0, len0, cap0, rfl⟩ := okWide_slice Tryd.underlying39 hok
  obtain ⟨fuel, hf⟩ := h
  have c22 : Tryd.prog.cellsOf 22 = 1 := by kernel_rfl
  rcases DataW.trod_slice Tryd.underlying39 hf with ⟨hcs, _⟩ | ⟨a, len, cap, elems, rest, n, _, hcs, _, _, hl, hm, hlen, hel, _, _⟩
  · simp [Value.cells] at hcs
    obtain ⟨rfl, rfl, rfl⟩ := hcs
    exact ⟨none, [], 0, rfl, .inr ⟨rfl, rfl⟩, by simp⟩
  · simp [Value.cells] at hcs
    obtain ⟨rfl, rfl, rfl⟩ := hcs
    obtain ⟨b, o, sp⟩ := a
    obtain rfl : sp = none := by
      have h1 : Cell.ok Tryd.prog W .any base 39 (.slice (some ⟨b, o, sp⟩) len0 cap0) := by
        simpa [Value.okWide, Cell.okWide, Tryd.underlying39] using hok
      simp only [Cell.ok, Tryd.underlying39] at h1
      exact h1.2.2.2.1
    have each : ∀ i, i < len0 → ∃ x : Value × List UInt8, W.cell? ⟨b, o + i, none⟩ = some x.1 ∧ SlW W x.1 x.2 := fun i hi => by
      have hi2 := hel i hi
      rw [c22, Nat.mul_one, List.getElem?_eq_getElem (show i < elems.length by omega), Option.bind_eq_some_iff] at hi2
      obtain ⟨cs, hcs, ht⟩ := hi2
      obtain ⟨c0, rfl⟩ : ∃ c0, cs = [c0] := by
        unfold World.cells? at hcs
        rw [if_pos (Nat.zero_le _)] at hcs
        have := Lib.mapM_length hcs
        match cs, this with
        | [c0], _ => exact ⟨c0, rfl⟩
      obtain ⟨q, us, cap, hv, hs⟩ := slice_read ht
      have hc := cell_of_cells?_one hcs
      rw [Addr.add_mid] at hc
      exact ⟨(c0, us), hc, hs⟩
    let f : Nat → Value × List UInt8 := fun i => if h : i < len0 then Classical.choose (each i h) else (undef, [])
    have hf : ∀ i (h : i < len0), W.cell? ⟨b, o + i, none⟩ = some (f i).1 ∧ SlW W (f i).1 (f i).2 := fun i h => by
      have := Classical.choose_spec (each i h)
      simp only [f, h, dif_pos]
      exact this
    have hll : ((List.range len0).map f).length = len0 := by simp
    refine ⟨some ⟨b, o, none⟩, (List.range len0).map f, cap0, by rw [hll], .inl ⟨b, o, cap0, by rw [hll], fun i x hx => ?_⟩, by rw [hll]; unfold maxLen at hm; omega⟩
    have hi : i < len0 := by have := (List.getElem?_eq_some_iff.1 hx).1; rw [hll] at this; exact this
    obtain rfl : f i = x := by simpa [hi] using hx
    exact hf i hi
set_option maxRecDepth 100000 in
theorem parts_lifted (os : Os) (started : os.Started) (H : Type) (enc : TypeId × Value → H) :
    ReturnsInHanded {} Tryd.checked os 5 .any (fun w args => (Rows.shaPartsSpec.pre enc Tryd.prog Tryd.f5 [] false w args ∧ laidMetH Tryd.prog laid2 w) ∧ sizedMet enc Tryd.prog Tryd.f5 (OpenSpec.ofChange Rows.shaPartsSpec) false w args)
      (Rows.shaPartsSpec.post enc Tryd.prog Tryd.f5 false true false false) := by
  refine returnsInHanded_of_change_and (C := Tryd.checked) (X := fun w _ => laidMetH Tryd.prog laid2 w) (fun _ _ _ hh h => h.of_heap hh) own started (by kernel_rfl) Tryd.func5
    (ChangeSpec.witness_shaped (enc := enc) (C := Tryd.checked) (os := os) (X := fun w _ => laidMetH Tryd.prog laid2 w) false (World.doorLaid Tryd.prog 4000 os) #[.slice none 0 0, .int .u8 0] 8 rfl (World.shaped_of_RefB (by kernel_rfl) (by kernel_rfl)) (by kernel_rfl) (by kernel_rfl) (by kernel_rfl) (door_met os _)) ?_
  intro W base args ds gs before hval0 hW _ _ hL _
  have hval : ∀ (j : Nat) t v, Tryd.f5.params[j]? = some t → args[j]? = some v → Value.okWide Tryd.prog W .any base t v := hval0
  have hW' := hW
  obtain ⟨p, q, hA0, hV, rfl, hfz, hnd⟩ := hW
  have hA : DataW.TrodAll enc Tryd.prog W 0 (fun _ => true) true Tryd.f5.params.toList args.toList ds p := hA0
  rw [Tryd.params5] at hA hval
  obtain ⟨v0, vs0, d0, ds0, p0, q0, hargs, rfl, rfl, h0, r0⟩ := trodAll_cons hA
  obtain ⟨v1, vs1, d1, ds1, p1, q1, rfl, rfl, rfl, h1, r1⟩ := trodAll_cons r0
  obtain ⟨rfl, rfl, rfl⟩ := trodAll_nil r1
  obtain rfl : args = #[v0, v1] := by cases args; simp_all
  obtain ⟨rfl, rfl⟩ := trodVars_none hV
  have lt : ∀ {t v d p}, DataW.Trod enc Tryd.prog W 0 (fun _ => true) true t v d p → ∀ x ∈ p, x.block < W.heap.size := fun h => by obtain ⟨m, hm⟩ := h; exact DataW.trod_lt m _ _ _ hm
  obtain ⟨hK, hH⟩ := of_laid hL
  have hwalk : Calls Tryd.prog 5 #[v0, v1] W (SumsPost W) := by
    obtain ⟨q, ps, cap, rfl, hp, hl⟩ := list_came (hval 0 39 v0 rfl rfl) h0
    obtain ⟨n, rfl, _, _, hw⟩ := open_int Tryd.underlying5 (hval 1 5 v1 rfl rfl) h1
    have hb := bounds_u8 hw
    obtain ⟨z, rfl⟩ := Int.eq_ofNat_of_zero_le (show 0 ≤ n by omega)
    exact parts_walk W q cap ps hp hl z (by omega) hK hH
  clear hA0 hval0
  refine hwalk.mono fun e W' ⟨he, bel⟩ => ?_
  subst he
  exact ⟨_, rfl, _, _, _, [], _, [], hW', trodAll_mk1 (shut_bool Tryd.underlying4 _), (trodAll_cons_mk (Below.trod laidOut (by kernel_rfl) (of_decide_eq_true (by kernel_rfl)) h0 bel (lt h0)) (trodAll_cons_mk (Below.trod laidOut (by kernel_rfl) (of_decide_eq_true (by kernel_rfl)) h1 bel (lt h1)) trodAll_mk0)), rfl, bel.frame _, fun h => by cases h⟩

theorem parts_holds : Rows.ShaPartsSaid :=
  OpenClaim.holds_of_wide 5 Tryd.f5 rfl rfl rfl rfl rfl rfl rfl ⟨rfl, rfl, rfl, rfl, rfl⟩ rfl rfl rfl rfl rfl (by kernel_rfl) Tryd.func5 (by kernel_rfl)
    (of_decide_eq_true (by kernel_rfl)) (by unfold Func.isWrapper; first | (rw [if_pos (by decide +kernel)]; kernel_rfl) | (rw [if_neg (by decide +kernel)]; exact ⟨rfl, rfl⟩))
    (fun os started H enc _ => parts_lifted os started H enc)

theorem parts_card : Rows.ShaPartsCardSaid :=
  Claim7.holds_tied_plain_at .later [] [.data, .data] true (true, "eada66016fe27092f0ad86a45b3d639f171854ca1c177e00d7710eb0001c0c10") false
    parts_holds (fun _ h => by cases h) (by kernel_rfl) (fun _ h => by cases h) shaParts_row_tie rfl ⟨rfl, rfl⟩ (by kernel_rfl) rfl
    (fun f fn hf hfn => by
      obtain rfl : f = 5 := Option.some.inj ((show Tryd.prog.funcNamed "portolan/portolanlaw01.ShaParts" = some 5 by kernel_rfl).symm.trans hf) |>.symm
      obtain rfl : fn = Tryd.f5 := (Option.some.inj (Tryd.func5.symm.trans hfn)).symm
      exact ⟨by kernel_rfl, fun j t ht => by
        rw [Tryd.params5] at ht
        have h3 : t = 39 ∨ t = 5 := by
          rcases j with _ | _ | j
          · exact .inl (by simpa using ht.symm)
          · exact .inr (by simpa using ht.symm)
          · simp at ht
        rcases h3 with rfl | rfl
        · exact (show Tryd.prog.wantsStandIn 39 = false by kernel_rfl)
        · exact (show Tryd.prog.wantsStandIn 5 = false by kernel_rfl)⟩)
    (by kernel_rfl)
#print axioms parts_card
end Go.Proofs.YtdkajbhhmgmohaaDoor
