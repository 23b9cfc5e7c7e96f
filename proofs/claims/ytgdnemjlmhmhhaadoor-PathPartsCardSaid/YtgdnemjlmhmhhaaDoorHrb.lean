/-
  The document's own answers: Split, May.
-/
import Derived.Test.YtgdnemjlmhmhhaaDoorHra
namespace Go.Proofs.YtgdnemjlmhmhhaaDoor
open Go.RowKit Go.Maps

/-- What Split has done ahead of place k: the parts laid, and where the next one begins. -/
structure SpRel (p : List UInt8) (k : Nat) (out : List (List UInt8)) (from' : Nat) : Prop where
  going : k ≤ p.length → from' ≤ k ∧ Pt.parts p = out ++ Pt.parts (p.drop from') ∧ 47 ∉ (p.drop from').take (k - from')
  done : k = p.length + 1 → out = Pt.parts p
  few : out.length ≤ k
theorem SpRel.zero (p : List UInt8) : SpRel p 0 [] 0 := ⟨fun _ => ⟨Nat.le_refl _, rfl, by simp⟩, fun h => by omega, Nat.le_refl _⟩
theorem SpRel.skip {p : List UInt8} {k : Nat} {out : List (List UInt8)} {f : Nat} (h : SpRel p k out f) (hk : k < p.length) (hx : p.getD k 0 ≠ 47) : SpRel p (k + 1) out f := by
  obtain ⟨h1, h2, h3⟩ := h.going (by omega)
  refine ⟨fun _ => ⟨by omega, h2, ?_⟩, fun e => by omega, Nat.le_succ_of_le h.few⟩
  have hkd : k - f < (p.drop f).length := by rw [List.length_drop]; omega
  rw [show k + 1 - f = (k - f) + 1 by omega, List.take_succ_eq_append_getElem hkd, List.mem_append, not_or]
  refine ⟨h3, ?_⟩
  have e : (p.drop f)[k - f] = p.getD k 0 := by
    rw [List.getElem_drop]
    have : f + (k - f) = k := by omega
    simp [this, hk]
  rw [e, List.mem_singleton]
  exact fun e => hx e.symm
theorem SpRel.hit {p : List UInt8} {k : Nat} {out : List (List UInt8)} {f : Nat} (h : SpRel p k out f) (hk : k < p.length) (hx : p.getD k 0 = 47) : SpRel p (k + 1) (out ++ [(p.drop f).take (k - f)]) (k + 1) := by
  obtain ⟨h1, h2, h3⟩ := h.going (by omega)
  refine ⟨fun _ => ⟨Nat.le_refl _, ?_, by simp⟩, fun e => by omega, by simp; have := h.few; omega⟩
  have e : p.drop f = (p.drop f).take (k - f) ++ 47 :: p.drop (k + 1) := by
    have hkd : k - f < (p.drop f).length := by rw [List.length_drop]; omega
    have e1 : (p.drop f)[k - f] = 47 := by
      rw [List.getElem_drop]
      have : f + (k - f) = k := by omega
      simp only [this]
      have h9 : p.getD k 0 = p[k] := by simp [hk]
      rw [← h9]; exact hx
    conv => lhs; rw [← List.take_append_drop (k - f) (p.drop f)]
    congr 1
    rw [List.drop_eq_getElem_cons hkd, e1, List.drop_drop]
    congr 2; omega
  rw [h2]
  conv => lhs; rw [e]
  rw [parts_at _ _ h3, List.append_assoc]; rfl
theorem SpRel.last {p : List UInt8} {out : List (List UInt8)} {f : Nat} (h : SpRel p p.length out f) : SpRel p (p.length + 1) (out ++ [(p.drop f).take (p.length - f)]) (p.length + 1) := by
  obtain ⟨h1, h2, h3⟩ := h.going (Nat.le_refl _)
  refine ⟨fun e => by omega, fun _ => ?_, by simp; have := h.few; omega⟩
  have e : (p.drop f).take (p.length - f) = p.drop f := List.take_of_length_le (by rw [List.length_drop]; omega)
  rw [e] at h3 ⊢
  rw [h2, parts_none _ h3]
set_option maxRecDepth 100000 in
set_option maxHeartbeats 4000000 in
theorem rsplit_walk (p : List UInt8) (hp : p.length ≤ 100000) (w : World) : Calls Tryd.prog 18 #[.string (sb p)] w (SlPost (Pt.split p) w) := by
  unfold Pt.split
  have h1 : ((sb p).toList == []) = (p == []) := by rw [sb_list]
  by_cases h : p = []
  · rw [if_pos h]
    rw [show (p == []) = true by rw [h]; rfl] at h1
    clear h hp
    generalize sb p = b at *
    go_enter Tryd.func18, Tryd.ntmps18
    go_wp2_with fail
    go_ret
    exact ⟨_, rfl, .inr ⟨none, rfl, rfl⟩, Below.refl _ _⟩
  · rw [if_neg h]
    rw [show (p == []) = false by simpa using h] at h1
    have hsz : (sb p).size = p.length := sb_size p
    have HIX : Hid (∀ k, k < p.length → ∀ w, _) := Lib.hid (fun k hk w => sidx p k hk w)
    have HEX : Hid (∀ f k, (sb p).extract f k = sb ((p.drop f).take (k - f))) := Lib.hid (fun f k => sb_extract p f k)
    obtain ⟨N, hN⟩ : ∃ N, p.length = N := ⟨_, rfl⟩
    have HN := Lib.hid hN
    rw [hN] at hp hsz HIX
    generalize sb p = b at *
    have hbz : (b.size : Int) = (N : Int) := by omega
    obtain ⟨i0, hi, hz0, hz1, hz2⟩ := info_parts info9
    have HI0 := Lib.hid (And.intro hi (And.intro hz0 (And.intro hz1 hz2)))
    clear hN hsz h hi hz0 hz1 hz2
    go_enter Tryd.func18, Tryd.ntmps18
    go_wp2_with fail
    go_loopw [3, 4, 5] (fun v3 v4 v5 wr => ∃ (k f : Nat) (out : List (List UInt8)), k ≤ N + 1 ∧ v5 = .int .i64 (k : Int) ∧ v4 = .int .i64 (f : Int) ∧ (k ≤ N → f ≤ k) ∧ SpRel p k out f ∧ (∃ pv cv, v3 = .slice pv out.length cv) ∧ wr.ownsRow w.heap.size 9 1 v3 out.length (sl out) ∧ Below w.heap.size w wr) (fun _ _ v5 _ => N + 1 - (intOf v5).toNat)
    case atStart => exact ⟨0, 0, [], by omega, rfl, rfl, fun _ => Nat.le_refl _, SpRel.zero p, ⟨_, _, rfl⟩, World.ownsRow_nil _ _ _ _, Below.refl _ _⟩
    case round =>
      obtain ⟨k, f, out, hk, rfl, rfl, hfk, hR, ⟨pv, cv, rfl⟩, hO, hB⟩ := hrel
      have HR := Lib.hid hR
      have HO := Lib.hid hO
      have HB := Lib.hid hB
      have hfew := hR.few
      generalize hpk : out.length = np at *
      have HPK := Lib.hid hpk
      have hle : w.heap.size ≤ wr.heap.size := hB.size
      clear hR hO hB hpk
      by_cases hkN : k ≤ N
      · have hkI : decide ((k : Int) ≤ (N : Int)) = true := decide_eq_true (by omega)
        have hf := hfk hkN
        have HSX : ∀ x : List UInt8, Hid (sl [x] = [.string (sb x)]) := fun x => Lib.hid rfl
        have hex := HEX.out f k
        have HX := HSX ((p.drop f).take (k - f))
        have hk2 : (k : Int) ≤ (b.size : Int) := by omega
        have hf2 : (f : Int) ≤ (k : Int) := by omega
        have HX2 := Lib.hid hex
        clear HSX
        by_cases hke : k = N
        · obtain rfl := hke
          have hee : ((k : Int) == (k : Int)) = true := beq_self_eq_true _
          have HR2 : Hid (SpRel p (k + 1) (out ++ [(p.drop f).take (k - f)]) (k + 1)) := Lib.hid (by
            have h9 := HR.out
            have hn := HN.out
            rw [← hn] at h9 ⊢
            exact h9.last)
          generalize sb ((p.drop f).take (k - f)) = bt at *
          go_wp2_with (refine wpList_appK 31 9 i0 (.string ByteArray.empty) 1 16 Tryd.underlying31 HI0.out.1 HI0.out.2.1 HI0.out.2.2.1 HI0.out.2.2.2 rfl (by decide) (by decide) rfl _ _ rfl w.heap.size (.slice pv np cv) (.slice (some ⟨wr.heap.size, 0, none⟩) 1 1) np 1 _ [.string bt] rfl rfl (by intro y hy; simp at hy; subst hy; rfl) (HO.out.alloc _) (⟨rfl, .inl ⟨wr.heap.size, 0, 1, rfl, Nat.le_refl _, fun i v hi => by rw [Nat.zero_add]; exact (cell_of_row _ _ _ _ _ _ (heap_alloc_new wr _)).trans (by simpa using hi)⟩⟩) (by simp; omega) (by omega) ?_; intro v' w9 hown hgrow hat; obtain ⟨p9, cap9, hv'⟩ := own_shape hown; have HOW := Lib.hid hown; have HGR := Lib.hid hgrow; clear hown hgrow hat; subst hv')
          go_roundw
          case rel =>
            refine ⟨k + 1, k + 1, _, by omega, by go_num, by go_num, fun _ => Nat.le_refl _, HR2.out, ⟨p9, cap9, by rw [List.length_append, HPK.out]; rfl⟩, ?_, ((HB.out.alloc HB.out.size _).grown HGR.out (by simp; omega) (fun k e => (HO.out.lt k e).1))⟩
            rw [List.length_append, HPK.out, sl_append, HX.out]
            exact HOW.out
          case measure => simp [intOf] <;> omega
        · have hee : ((k : Int) == (N : Int)) = false := beq_eq_false_iff_ne.2 (by omega)
          have hix := HIX.out k (by omega)
          have hkl : k < p.length := by rw [HN.out]; omega
          have hx47 := @bi_inj (p.getD k 0) 47
          rw [show bi 47 = 47 from rfl] at hx47
          by_cases h47 : p.getD k 0 = 47
          · have hb47 : bi (p.getD k 0) = 47 := hx47.2 h47
            rw [hb47] at hix
            have HR2 := Lib.hid (HR.out.hit hkl h47)
            generalize sb ((p.drop f).take (k - f)) = bt at *
            clear hx47 hb47 h47 hkl
            go_wp2_with (refine wpList_appK 31 9 i0 (.string ByteArray.empty) 1 16 Tryd.underlying31 HI0.out.1 HI0.out.2.1 HI0.out.2.2.1 HI0.out.2.2.2 rfl (by decide) (by decide) rfl _ _ rfl w.heap.size (.slice pv np cv) (.slice (some ⟨wr.heap.size, 0, none⟩) 1 1) np 1 _ [.string bt] rfl rfl (by intro y hy; simp at hy; subst hy; rfl) (HO.out.alloc _) (⟨rfl, .inl ⟨wr.heap.size, 0, 1, rfl, Nat.le_refl _, fun i v hi => by rw [Nat.zero_add]; exact (cell_of_row _ _ _ _ _ _ (heap_alloc_new wr _)).trans (by simpa using hi)⟩⟩) (by simp; omega) (by omega) ?_; intro v' w9 hown hgrow hat; obtain ⟨p9, cap9, hv'⟩ := own_shape hown; have HOW := Lib.hid hown; have HGR := Lib.hid hgrow; clear hown hgrow hat; subst hv')
            go_roundw
            case rel =>
              refine ⟨k + 1, k + 1, _, by omega, by go_num, by go_num, fun _ => Nat.le_refl _, HR2.out, ⟨p9, cap9, by rw [List.length_append, HPK.out]; rfl⟩, ?_, ((HB.out.alloc HB.out.size _).grown HGR.out (by simp; omega) (fun k e => (HO.out.lt k e).1))⟩
              rw [List.length_append, HPK.out, sl_append, HX.out]
              exact HOW.out
            case measure => simp [intOf] <;> omega
          · have hb47 : (bi (p.getD k 0) == 47) = false := beq_eq_false_iff_ne.2 (fun e => h47 (hx47.1 e))
            have HR2 := Lib.hid (HR.out.skip hkl h47)
            generalize bi (p.getD k 0) = bx at *
            clear hx47 h47 hkl hex
            go_wp2_with fail
            go_roundw
            case rel => exact ⟨k + 1, f, out, by omega, by go_num, rfl, fun _ => by omega, HR2.out, ⟨_, _, by rw [HPK.out]⟩, by rw [HPK.out]; exact HO.out, HB.out⟩
            case measure => simp [intOf] <;> omega
      · obtain rfl : k = N + 1 := by omega
        have hkI : decide (((N + 1 : Nat) : Int) ≤ (N : Int)) = false := decide_eq_false (by omega)
        have hfin := HR.out.done (by rw [HN.out])
        have HF := Lib.hid hfin
        clear hfin
        go_wp2_with fail
        go_ret
        exact ⟨_, rfl, by rw [← HF.out]; exact own_toV HO.out, HB.out⟩
end Go.Proofs.YtgdnemjlmhmhhaaDoor
