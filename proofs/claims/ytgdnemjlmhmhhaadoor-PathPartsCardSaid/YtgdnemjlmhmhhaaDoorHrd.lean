/-
  The document's own answers: cut, Parent, Base, Above, Under, Whiteout, Opaque.
-/
import Derived.Test.YtgdnemjlmhmhhaaDoorHrc
namespace Go.Proofs.YtgdnemjlmhmhhaaDoor
open Go.RowKit Go.Maps

theorem cut_snoc (l : List UInt8) (x : UInt8) : Pt.cut (l ++ [x]) = if x = 47 then (l.length : Int) else Pt.cut l := by
  by_cases hx : x = 47
  · rw [if_pos hx, hx]; exact cut_at l [] (by simp)
  · rw [if_neg hx]
    rcases cut_spec l with ⟨h1, h2⟩ | ⟨a, b, h1, h2, h3⟩
    · rw [h2]
      exact cut_none _ (by rw [List.mem_append, not_or]; exact ⟨h1, by simpa using fun e => hx e.symm⟩)
    · rw [h3, h1, List.append_assoc]
      exact cut_at a (b ++ [x]) (by rw [List.mem_append, not_or]; exact ⟨h2, by simpa using fun e => hx e.symm⟩)
theorem cut_succ (p : List UInt8) (k : Nat) (hk : k < p.length) : Pt.cut (p.take (k + 1)) = if p.getD k 0 = 47 then (k : Int) else Pt.cut (p.take k) := by
  rw [List.take_succ_eq_append_getElem hk, cut_snoc]
  have e : p.getD k 0 = p[k] := by simp [hk]
  rw [e, List.length_take, Nat.min_eq_left (by omega)]
set_option maxRecDepth 100000 in
set_option maxHeartbeats 4000000 in
theorem rcut_walk (p : List UInt8) (hp : p.length ≤ 1000000) (w : World) : Calls Tryd.prog 49 #[.string (sb p)] w fun e w' => e = .returned (.int .i64 (Pt.cut p)) ∧ w' = w := by
  have hsz : (sb p).size = p.length := sb_size p
  have HIX : Hid (∀ k, k < p.length → ∀ w, _) := Lib.hid (fun k hk w => sidx p k hk w)
  obtain ⟨N, hN⟩ : ∃ N, p.length = N := ⟨_, rfl⟩
  have HN := Lib.hid hN
  rw [hN] at hp hsz HIX
  generalize sb p = b at *
  have hbz : (b.size : Int) = (N : Int) := by omega
  clear hN hsz
  go_enter Tryd.func49, Tryd.ntmps49
  go_wp2_with fail
  go_loopw [3, 4] (fun v3 v4 wr => ∃ k : Nat, k ≤ N ∧ v4 = .int .i64 (k : Int) ∧ v3 = .int .i64 (Pt.cut (p.take k)) ∧ wr = w) (fun _ v4 _ => N - (intOf v4).toNat)
  case atStart => exact ⟨0, Nat.zero_le _, rfl, rfl, rfl⟩
  case round =>
    obtain ⟨k, hk, rfl, rfl, rfl⟩ := hrel
    by_cases hkN : k < N
    · have hix := HIX.out k hkN
      have hkl : k < p.length := by rw [HN.out]; exact hkN
      have HC := Lib.hid (cut_succ p k hkl)
      have hx47 := @bi_inj (p.getD k 0) 47
      rw [show bi 47 = 47 from rfl] at hx47
      have hkI : (k : Int) < (N : Int) := by omega
      generalize hcp : Pt.cut (p.take k) = cp at *
      have HCP := Lib.hid hcp
      clear hcp
      by_cases h47 : p.getD k 0 = 47
      · have hb47 : bi (p.getD k 0) = 47 := hx47.2 h47
        rw [hb47] at hix
        have HC2 := HC.out
        rw [if_pos h47] at HC2
        have HC2 := Lib.hid HC2
        clear hx47 hb47 h47 hkl HC
        go_wp2_with fail
        go_roundw
        case rel => exact ⟨k + 1, by omega, by go_num, by rw [HC2.out], trivial⟩
        case measure => simp [intOf] <;> omega
      · have hb47 : (bi (p.getD k 0) == 47) = false := beq_eq_false_iff_ne.2 (fun e => h47 (hx47.1 e))
        have HC2 := HC.out
        rw [if_neg h47] at HC2
        have HC2 := Lib.hid HC2
        generalize bi (p.getD k 0) = bx at *
        clear hx47 h47 hkl HC
        go_wp2_with fail
        go_roundw
        case rel => exact ⟨k + 1, by omega, by go_num, by rw [HC2.out], trivial⟩
        case measure => simp [intOf] <;> omega
    · obtain rfl : k = N := by omega
      have hz : decide ((k : Int) < (k : Int)) = false := decide_eq_false (by omega)
      have htk : p.take k = p := List.take_of_length_le (by rw [HN.out]; exact Nat.le_refl _)
      rw [htk]
      have HTK := Lib.hid htk
      clear htk
      go_wp2_with fail
      go_ret
      exact ⟨rfl, rfl⟩
set_option maxHeartbeats 1000000 in
theorem rparent_walk (p : List UInt8) (hp : p.length ≤ 100000) (w : World) : Calls Tryd.prog 22 #[.string (sb p)] w fun e w' => e = .returned (.string (sb (Pt.parent p))) ∧ w' = w := by
  have HL := Lib.hid (rcut_walk p (by omega) w)
  have h1 := cut_ge p
  have h2 := cut_lt p
  have hres : (sb p).extract 0 (Pt.cut p).toNat = sb (Pt.parent p) := by rw [sb_extract]; rfl
  have hneg : Pt.cut p < 0 → Pt.parent p = [] := fun h => by unfold Pt.parent; rw [show (Pt.cut p).toNat = 0 by omega]; rfl
  have hsz : ((sb p).size : Int) = (p.length : Int) := by rw [sb_size]
  obtain ⟨C, hC⟩ : ∃ C, Pt.cut p = C := ⟨_, rfl⟩
  rw [hC] at HL h1 h2 hres hneg
  by_cases hc : C < 0
  · have HR := Lib.hid (hneg hc)
    generalize sb p = b at *
    clear hres hneg hC
    go_enter Tryd.func22, Tryd.ntmps22
    go_wp2_with ((with_reducible refine HL.out.mono ?_); rintro e w' ⟨rfl, hw⟩; rw [hw]; clear hw)
    go_ret
    exact ⟨by rw [HR.out]; rfl, rfl⟩
  · have HR := Lib.hid hres
    have hc0 : 0 ≤ C := by omega
    generalize hb : sb p = b at *
    have hb2 : (b.size : Int) ≤ 100000 := by omega
    have hcb : C ≤ (b.size : Int) := by omega
    clear hres hneg hC hb
    go_enter Tryd.func22, Tryd.ntmps22
    go_wp2_with ((with_reducible refine HL.out.mono ?_); rintro e w' ⟨rfl, hw⟩; rw [hw]; clear hw)
    go_ret
    exact ⟨by rw [← HR.out]; rfl, rfl⟩
set_option maxHeartbeats 1000000 in
theorem rbase_walk (p : List UInt8) (hp : p.length ≤ 100000) (w : World) : Calls Tryd.prog 24 #[.string (sb p)] w fun e w' => e = .returned (.string (sb (Pt.base p))) ∧ w' = w := by
  have HL := Lib.hid (rcut_walk p (by omega) w)
  have h1 := cut_ge p
  have h2 := cut_lt p
  have hres : (sb p).extract (Pt.cut p + 1).toNat (sb p).size = sb (Pt.base p) := by
    rw [sb_extract, sb_size]
    unfold Pt.base
    rw [List.take_of_length_le (by simp)]
  have hsz : ((sb p).size : Int) = (p.length : Int) := by rw [sb_size]
  obtain ⟨C, hC⟩ : ∃ C, Pt.cut p = C := ⟨_, rfl⟩
  rw [hC] at HL h1 h2 hres
  have HR := Lib.hid hres
  generalize hb : sb p = b at *
  have hb2 : (b.size : Int) ≤ 100000 := by omega
  have hc2 : C + 1 ≤ (b.size : Int) := by omega
  clear hres hb hC
  go_enter Tryd.func24, Tryd.ntmps24
  go_wp2_with ((with_reducible refine HL.out.mono ?_); rintro e w' ⟨rfl, hw⟩; rw [hw]; clear hw)
  go_ret
  exact ⟨by rw [← HR.out]; rfl, rfl⟩
set_option maxRecDepth 100000 in
set_option maxHeartbeats 2000000 in
theorem rabove_walk (p : List UInt8) (hp : p.length ≤ 100000) (w : World) : Calls Tryd.prog 26 #[.string (sb p)] w (SlPost (Pt.above p) w) := by
  unfold Pt.above
  have hsz : (sb p).size = p.length := sb_size p
  have HIX : Hid (∀ k, k < p.length → ∀ w, _) := Lib.hid (fun k hk w => sidx p k hk w)
  have hcut : ∀ k, (sb p).extract 0 k = sb (p.take k) := fun k => by rw [sb_extract]; rfl
  have HCUT := Lib.hid hcut
  obtain ⟨N, hN⟩ : ∃ N, p.length = N := ⟨_, rfl⟩
  rw [hN] at hp hsz HIX ⊢
  have HN := Lib.hid hN
  generalize sb p = b at *
  have hbz : (b.size : Int) = (N : Int) := by omega
  obtain ⟨i0, hi, hz0, hz1, hz2⟩ := info_parts info9
  have HI0 := Lib.hid (And.intro hi (And.intro hz0 (And.intro hz1 hz2)))
  clear hcut hN hsz hi hz0 hz1 hz2
  go_enter Tryd.func26, Tryd.ntmps26
  go_wp2_with fail
  go_loopw [3, 4] (fun v3 v4 wr => ∃ k : Nat, k ≤ N ∧ v4 = .int .i64 (k : Int) ∧ (∃ pv cv, v3 = .slice pv (Pt.upTo p k).length cv) ∧ wr.ownsRow w.heap.size 9 1 v3 (Pt.upTo p k).length (sl (Pt.upTo p k)) ∧ Below w.heap.size w wr) (fun _ v4 _ => N - (intOf v4).toNat)
  case atStart => exact ⟨0, Nat.zero_le _, rfl, ⟨_, _, rfl⟩, World.ownsRow_nil _ _ _ _, Below.refl _ _⟩
  case round =>
    obtain ⟨k, hk, rfl, ⟨pv, cv, rfl⟩, hO, hB⟩ := hrel
    have HO := Lib.hid hO
    have HB := Lib.hid hB
    have hle1 : w.heap.size ≤ wr.heap.size := hB.size
    clear hO hB
    by_cases hkN : k < N
    · have hix := HIX.out k hkN
      have hkI : (k : Int) < (N : Int) := by omega
      have HU : Hid (Pt.upTo p (k + 1) = if p.getD k 0 = 47 then Pt.upTo p k ++ [p.take k] else Pt.upTo p k) := Lib.hid (by rw [Pt.upTo])
      have hul := upTo_le p k
      generalize hpk : (Pt.upTo p k).length = np at *
      have HPK := Lib.hid hpk
      clear hpk
      have hx := @bi_inj (p.getD k 0) 47
      rw [show bi 47 = 47 from rfl] at hx
      by_cases h47 : p.getD k 0 = 47
      · have hb47 : bi (p.getD k 0) = 47 := hx.2 h47
        rw [hb47] at hix
        have HU2 := HU.out
        rw [if_pos h47] at HU2
        have HU2 := Lib.hid HU2
        have hex : b.extract 0 k = sb (p.take k) := HCUT.out k
        have HSX : Hid (sl [p.take k] = [.string (sb (p.take k))]) := Lib.hid rfl
        generalize sb (p.take k) = bt at *
        clear hx hb47 h47 HU
        go_wp2_with (refine wpList_appK 31 9 i0 (.string ByteArray.empty) 1 16 Tryd.underlying31 HI0.out.1 HI0.out.2.1 HI0.out.2.2.1 HI0.out.2.2.2 rfl (by decide) (by decide) rfl _ _ rfl w.heap.size (.slice pv np cv) (.slice (some ⟨wr.heap.size, 0, none⟩) 1 1) np 1 _ [.string bt] rfl rfl (by intro y hy; simp at hy; subst hy; rfl) (HO.out.alloc _) (⟨rfl, .inl ⟨wr.heap.size, 0, 1, rfl, Nat.le_refl _, fun i v hi => by rw [Nat.zero_add]; exact (cell_of_row _ _ _ _ _ _ (heap_alloc_new wr _)).trans (by simpa using hi)⟩⟩) (by simp; omega) (by omega) ?_; intro v' w9 hown hgrow hat; obtain ⟨p9, cap9, hv'⟩ := own_shape hown; have HOW := Lib.hid hown; have HGR := Lib.hid hgrow; clear hown hgrow hat; subst hv')
        go_roundw
        case rel =>
          refine ⟨k + 1, by omega, by go_num, ⟨p9, cap9, by rw [HU2.out, List.length_append, HPK.out]; rfl⟩, ?_, ((HB.out.alloc HB.out.size _).grown HGR.out (by simp; omega) (fun k e => (HO.out.lt k e).1))⟩
          rw [HU2.out, List.length_append, HPK.out, sl_append, HSX.out]
          exact HOW.out
        case measure => simp [intOf] <;> omega
      · have hb47 : (bi (p.getD k 0) == 47) = false := beq_eq_false_iff_ne.2 (fun e => h47 (hx.1 e))
        have HU2 := HU.out
        rw [if_neg h47] at HU2
        have HU2 := Lib.hid HU2
        generalize bi (p.getD k 0) = bx at *
        clear hx h47 HU
        go_wp2_with fail
        go_roundw
        case rel => exact ⟨k + 1, by omega, by go_num, ⟨_, _, by rw [HU2.out, HPK.out]⟩, by rw [HU2.out, HPK.out]; exact HO.out, HB.out⟩
        case measure => simp [intOf] <;> omega
    · obtain rfl : k = N := by omega
      have hz : decide ((k : Int) < (k : Int)) = false := decide_eq_false (by omega)
      go_wp2_with fail
      go_ret
      exact ⟨_, rfl, own_toV HO.out, HB.out⟩
set_option maxHeartbeats 1000000 in
theorem runder_walk (dir p : List UInt8) (hd : dir.length ≤ 100000) (hp : p.length ≤ 100000) (w : World) : Calls Tryd.prog 28 #[.string (sb dir), .string (sb p)] w fun e w' => e = .returned (.bool (Pt.under dir p)) ∧ w' = w := by
  have hE : Pt.under dir p = (!(p == []) && ((dir == []) || (dir ++ [47]).isPrefixOf p)) := rfl
  rw [hE]
  have h1 : ((sb dir).toList == []) = (dir == []) := by rw [sb_list]
  have h2 : ((sb p).toList == []) = (p == []) := by rw [sb_list]
  have hc : sb dir ++ (⟨#[47]⟩ : ByteArray) = sb (dir ++ [47]) := sb_append dir [47]
  have hs1 : ((sb dir).size : Int) ≤ 100000 := by rw [sb_size]; omega
  have hs2 : ((⟨#[47]⟩ : ByteArray).size : Int) = 1 := rfl
  have HB := Lib.hid (begins_walk p (dir ++ [47]) (by omega) (by simp; omega) w)
  generalize (dir ++ [47]).isPrefixOf p = X at *
  generalize sb (dir ++ [47]) = bd at *
  generalize sb dir = a at *
  generalize sb p = b at *
  generalize (dir == []) = D at *
  generalize (p == []) = P at *
  clear hE hd hp
  cases P
  · cases D
    · go_enter Tryd.func28, Tryd.ntmps28
      go_wp2_with ((with_reducible refine HB.out.mono ?_); rintro e w' ⟨rfl, hw⟩; rw [hw]; clear hw)
      go_ret
      exact ⟨by cases X <;> rfl, rfl⟩
    · go_enter Tryd.func28, Tryd.ntmps28
      go_wp2_with ((with_reducible refine HB.out.mono ?_); rintro e w' ⟨rfl, hw⟩; rw [hw]; clear hw)
      go_ret
      exact ⟨rfl, rfl⟩
  · go_enter Tryd.func28, Tryd.ntmps28
    go_wp2_with fail
    go_ret
    exact ⟨rfl, rfl⟩
end Go.Proofs.YtgdnemjlmhmhhaaDoor
