/-
  The contract of the document's Next.
-/
import Derived.Test.YtoifppfhnedahaaRefC
import Derived.OwnWalk
namespace Go.Proofs.Ytoifppfhnedahaa
open Go.RowKit Hf

def RNPost (r : Nat × Int × Nat) (w : World) (e : Ending) (w' : World) : Prop :=
  e = .returned (.tuple (if r.2.1 = 4 then #[.int .i64 0, .int .i64 (r.2.2 : Nat), .int .i64 (-1)] else #[.int .i64 (r.1 : Nat), .int .i64 (r.2.2 : Nat), .int .i64 r.2.1])) ∧ Below w.heap.size w w'
set_option maxRecDepth 100000 in
set_option maxHeartbeats 2000000 in
theorem rNext_full (w : World) (v u : Value) (zs : List Int) (bits : List Bool) (hv : SlV w v (ni zs)) (hu : SlV w u (nb bits)) (hg : good zs) (hs : st zs = 0) :
    Calls Try.prog 25 #[v, u] w (RNPost (rd zs 15 0 0 bits) w) := by
  have HS := Lib.hid (rState_walk w v zs hv)
  have HC := Lib.hid (rCodes_walk w v zs hv)
  obtain ⟨p, cap, rfl⟩ := hv.shape
  obtain ⟨pb, cb, rfl⟩ := hu.shape
  rw [ni_length] at *
  rw [nb_length] at *
  obtain ⟨l, hl0⟩ : ∃ l, l = zs.length := ⟨_, rfl⟩
  obtain ⟨lb, hb0⟩ : ∃ lb, lb = bits.length := ⟨_, rfl⟩
  rw [← hl0] at hv HS HC ⊢
  rw [← hb0] at hu ⊢
  have HN := Lib.hid hl0
  have HNB := Lib.hid hb0
  have HV := Lib.hid hv
  have HU := Lib.hid hu
  have HG := Lib.hid hg
  have hl2 : l ≤ 1024 := by rw [hl0]; exact hg.1
  clear hl0 hb0 hv hu
  go_enter Try.func25, Try.ntmps25
  go_wp2_with fail
  refine HS.out.mono ?_
  rintro e w' ⟨rfl, rfl⟩
  clear HS
  rw [if_pos hg, hs]
  go_wp2_with fail
  refine HC.out.mono ?_
  rintro e w1 ⟨vc, rfl, hO, hB⟩
  rw [if_pos hg, if_neg (by rw [hs]; decide)]
  rw [if_pos ⟨hg, by rw [hs]; decide⟩, if_pos ⟨hg, by rw [hs]; decide⟩, ← HN.out] at hO
  obtain ⟨pc, cc, rfl⟩ := own_shape hO
  have HCD := Lib.hid (own_toV hO)
  have HB := Lib.hid hB
  have HV := Lib.hid (HV.out.below HB.out (Nat.le_refl _))
  have HU := Lib.hid (HU.out.below HB.out (Nat.le_refl _))
  clear HC hO hB hs hg
  go_wp2_with fail
  go_loopw [12, 13] (fun v12 v13 wr => ∃ n c : Nat, n ≤ 15 ∧ v13 = .int .i64 ((n : Int) + 1) ∧ v12 = .int .u32 (c : Int) ∧ c < 32768 * 2 ^ n ∧ wr = w1 ∧ rd zs 15 0 0 bits = rd zs (15 - n) n c (bits.drop n)) (fun _ v13 _ => 17 - (intOf v13).toNat)
  case atStart => exact ⟨0, 0, by omega, rfl, rfl, by decide, rfl, rfl⟩
  case round =>
    obtain ⟨n, c, hn, rfl, rfl, hc, rfl, hrd⟩ := hrel
    have HRD := Lib.hid hrd
    clear hrd
    by_cases hnm : n < 15
    · have hni : (n : Int) + 1 ≤ 15 := by omega
      have hp : 2 ^ n ≤ 2 ^ 14 := Nat.pow_le_pow_right (by decide) (by omega)
      have hp2 : (2 : Nat) ^ 14 = 16384 := by decide
      have hc2 : c < 536870912 := by omega
      have HP := Lib.hid (Nat.pow_succ 2 n)
      have HCP := Lib.hid hc
      have hms : 15 - n = (15 - (n + 1)) + 1 := by omega
      rw [hms] at HRD
      clear hp hp2 hms hc
      by_cases hlb : n < lb
      · have hlbi : ¬ ((lb : Int) < (n : Int) + 1) := by omega
        have hlbi2 : (n : Int) < (lb : Int) := by omega
        obtain ⟨gb, ob, rfl, hrowb⟩ := HU.out.some (by omega)
        have hcapb := HU.out.le
        have hnz : n < bits.length := by rw [← HNB.out]; exact hlb
        have hcb := hrowb.nb n hnz
        have HDR : Hid (bits.drop n = bits.getD n false :: bits.drop (n + 1)) := Lib.hid (by rw [List.drop_eq_getElem_cons hnz]; congr 1; simp [hnz])
        rw [HDR.out] at HRD
        clear hrowb
        generalize bits.getD n false = b at hcb HRD
        clear HDR
        cases b
        · have hc3 : 2 * c < 32768 * 2 ^ (n + 1) := by rw [HP.out]; have := HCP.out; omega
          have HC3 := Lib.hid hc3
          have HS1 : Hid (∀ s, sym zs (n + 1) (2 * c) = some s → rd zs 15 0 0 bits = (s, 0, n + 1)) := Lib.hid (fun s h => HRD.out.trans (rd_some zs _ n c s false _ h))
          have HS0 : Hid (sym zs (n + 1) (2 * c) = none → rd zs 15 0 0 bits = rd zs (15 - (n + 1)) (n + 1) (2 * c) (bits.drop (n + 1))) := Lib.hid (fun h => HRD.out.trans (rd_none zs _ n c false _ h))
          clear hc3 HP HCP HRD
          have hcast : (((2 * c : Nat)) : Int) = 2 * (c : Int) := by omega
          have HCAST := Lib.hid hcast
          clear hcast
          go_wp2_with fail
          obtain ⟨d, hd⟩ : ∃ d, d = 2 * c := ⟨_, rfl⟩
          rw [← hd] at HC3 HS1 HS0 HCAST
          have hd2 : d < 1073741825 := by omega
          rw [← HCAST.out]
          clear hd hc2
          go_loopw [14] (fun v14 wy => ∃ i : Nat, i ≤ l ∧ v14 = .int .i64 i ∧ wy = wr ∧ ∀ j, j < i → ¬ (zs.getD j 0 = ((n + 1 : Nat) : Int) ∧ code zs j = d)) (fun v14 _ => l - (intOf v14).toNat)
          case atStart => exact ⟨0, Nat.zero_le _, rfl, rfl, fun j hj => by omega⟩
          case round =>
            obtain ⟨i, hi, rfl, rfl, hall⟩ := hrel
            have HA := Lib.hid hall
            clear hall
            by_cases hlt : i < l
            · have hlti : (i : Int) < (l : Int) := by omega
              obtain ⟨g, o, rfl, hrow⟩ := HV.out.some (by omega)
              obtain ⟨g2, o2, rfl, hrow2⟩ := HCD.out.some (by omega)
              have hcap := HV.out.le
              have hcap2 := HCD.out.le
              have hiz : i < zs.length := by rw [← HN.out]; exact hlt
              have hcl := hrow.ni i hiz
              have hcl2 := hrow2.nu i (by rw [codes_length]; exact hiz)
              rw [codes_getD _ _ hiz] at hcl2
              have HSY := Lib.hid (sym_some zs (n + 1) d i (by omega))
              have HIZ := Lib.hid hiz
              obtain ⟨z, hz⟩ : ∃ z, z = zs.getD i 0 := ⟨_, rfl⟩
              obtain ⟨y, hy⟩ : ∃ y, y = code zs i := ⟨_, rfl⟩
              rw [← hz] at hcl HSY
              rw [← hy] at hcl2 HSY
              have HZ := Lib.hid hz
              have HY := Lib.hid hy
              clear hrow hrow2 hiz hz hy
              by_cases hzn : z = ((n + 1 : Nat) : Int)
              · have hzb : (z == (n : Int) + 1) = true := by rw [hzn]; exact beq_self_eq_true _
                by_cases hyd : y = d
                · have hyb : ((y : Int) == (d : Int)) = true := by rw [hyd]; exact beq_self_eq_true _
                  have HR := Lib.hid (HS1.out i (HSY.out.2 ⟨HIZ.out, hzn, hyd⟩))
                  clear HSY HS1 HS0 HA hzn hyd
                  go_wp2_with fail
                  go_ret3
                  exact ⟨by rw [HR.out]; rfl, HB.out⟩
                · have hyb : ((y : Int) == (d : Int)) = false := beq_false_of_ne (by omega)
                  have HA2 : Hid (∀ j, j < i + 1 → ¬ (zs.getD j 0 = ((n + 1 : Nat) : Int) ∧ code zs j = d)) := Lib.hid (fun j hj h => by
                    rcases Nat.lt_or_ge j i with h1 | h1
                    · exact HA.out j h1 h
                    · obtain rfl : j = i := by omega
                      exact hyd (HY.out.trans h.2))
                  clear HSY hzn hyd HA
                  go_wp2_with fail
                  exact ⟨⟨i + 1, by omega, by go_num, (by first | rfl | trivial), HA2.out⟩, by simp [intOf]; omega⟩
              · have hzb : (z == (n : Int) + 1) = false := beq_false_of_ne (by omega)
                have HA2 : Hid (∀ j, j < i + 1 → ¬ (zs.getD j 0 = ((n + 1 : Nat) : Int) ∧ code zs j = d)) := Lib.hid (fun j hj h => by
                  rcases Nat.lt_or_ge j i with h1 | h1
                  · exact HA.out j h1 h
                  · obtain rfl : j = i := by omega
                    exact hzn (HZ.out.trans h.1))
                clear HSY hzn HA
                go_wp2_with fail
                exact ⟨⟨i + 1, by omega, by go_num, (by first | rfl | trivial), HA2.out⟩, by simp [intOf]; omega⟩
            · have hlti : (l : Int) ≤ (i : Int) := by omega
              obtain rfl : i = l := by omega
              have HR := Lib.hid (HS0.out (by
                cases h : sym zs (n + 1) d with
                | none => rfl
                | some s =>
                  have h2 := (sym_some zs (n + 1) d s (by omega)).1 h
                  exact absurd h2.2 (HA.out s (by rw [HN.out]; exact h2.1))))
              clear HS1 HS0 HA
              go_wp2_with fail
              exact ⟨⟨n + 1, d, by omega, by go_num, rfl, HC3.out, (by first | rfl | trivial), HR.out⟩, by simp [intOf]; omega⟩
        · have hc3 : 2 * c + 1 < 32768 * 2 ^ (n + 1) := by rw [HP.out]; have := HCP.out; omega
          have HC3 := Lib.hid hc3
          have HS1 : Hid (∀ s, sym zs (n + 1) (2 * c + 1) = some s → rd zs 15 0 0 bits = (s, 0, n + 1)) := Lib.hid (fun s h => HRD.out.trans (rd_some zs _ n c s true _ h))
          have HS0 : Hid (sym zs (n + 1) (2 * c + 1) = none → rd zs 15 0 0 bits = rd zs (15 - (n + 1)) (n + 1) (2 * c + 1) (bits.drop (n + 1))) := Lib.hid (fun h => HRD.out.trans (rd_none zs _ n c true _ h))
          clear hc3 HP HCP HRD
          have hcast : (((2 * c + 1 : Nat)) : Int) = 2 * (c : Int) + 1 := by omega
          have HCAST := Lib.hid hcast
          clear hcast
          go_wp2_with fail
          obtain ⟨d, hd⟩ : ∃ d, d = 2 * c + 1 := ⟨_, rfl⟩
          rw [← hd] at HC3 HS1 HS0 HCAST
          have hd2 : d < 1073741825 := by omega
          rw [← HCAST.out]
          clear hd hc2
          go_loopw [14] (fun v14 wy => ∃ i : Nat, i ≤ l ∧ v14 = .int .i64 i ∧ wy = wr ∧ ∀ j, j < i → ¬ (zs.getD j 0 = ((n + 1 : Nat) : Int) ∧ code zs j = d)) (fun v14 _ => l - (intOf v14).toNat)
          case atStart => exact ⟨0, Nat.zero_le _, rfl, rfl, fun j hj => by omega⟩
          case round =>
            obtain ⟨i, hi, rfl, rfl, hall⟩ := hrel
            have HA := Lib.hid hall
            clear hall
            by_cases hlt : i < l
            · have hlti : (i : Int) < (l : Int) := by omega
              obtain ⟨g, o, rfl, hrow⟩ := HV.out.some (by omega)
              obtain ⟨g2, o2, rfl, hrow2⟩ := HCD.out.some (by omega)
              have hcap := HV.out.le
              have hcap2 := HCD.out.le
              have hiz : i < zs.length := by rw [← HN.out]; exact hlt
              have hcl := hrow.ni i hiz
              have hcl2 := hrow2.nu i (by rw [codes_length]; exact hiz)
              rw [codes_getD _ _ hiz] at hcl2
              have HSY := Lib.hid (sym_some zs (n + 1) d i (by omega))
              have HIZ := Lib.hid hiz
              obtain ⟨z, hz⟩ : ∃ z, z = zs.getD i 0 := ⟨_, rfl⟩
              obtain ⟨y, hy⟩ : ∃ y, y = code zs i := ⟨_, rfl⟩
              rw [← hz] at hcl HSY
              rw [← hy] at hcl2 HSY
              have HZ := Lib.hid hz
              have HY := Lib.hid hy
              clear hrow hrow2 hiz hz hy
              by_cases hzn : z = ((n + 1 : Nat) : Int)
              · have hzb : (z == (n : Int) + 1) = true := by rw [hzn]; exact beq_self_eq_true _
                by_cases hyd : y = d
                · have hyb : ((y : Int) == (d : Int)) = true := by rw [hyd]; exact beq_self_eq_true _
                  have HR := Lib.hid (HS1.out i (HSY.out.2 ⟨HIZ.out, hzn, hyd⟩))
                  clear HSY HS1 HS0 HA hzn hyd
                  go_wp2_with fail
                  go_ret3
                  exact ⟨by rw [HR.out]; rfl, HB.out⟩
                · have hyb : ((y : Int) == (d : Int)) = false := beq_false_of_ne (by omega)
                  have HA2 : Hid (∀ j, j < i + 1 → ¬ (zs.getD j 0 = ((n + 1 : Nat) : Int) ∧ code zs j = d)) := Lib.hid (fun j hj h => by
                    rcases Nat.lt_or_ge j i with h1 | h1
                    · exact HA.out j h1 h
                    · obtain rfl : j = i := by omega
                      exact hyd (HY.out.trans h.2))
                  clear HSY hzn hyd HA
                  go_wp2_with fail
                  exact ⟨⟨i + 1, by omega, by go_num, (by first | rfl | trivial), HA2.out⟩, by simp [intOf]; omega⟩
              · have hzb : (z == (n : Int) + 1) = false := beq_false_of_ne (by omega)
                have HA2 : Hid (∀ j, j < i + 1 → ¬ (zs.getD j 0 = ((n + 1 : Nat) : Int) ∧ code zs j = d)) := Lib.hid (fun j hj h => by
                  rcases Nat.lt_or_ge j i with h1 | h1
                  · exact HA.out j h1 h
                  · obtain rfl : j = i := by omega
                    exact hzn (HZ.out.trans h.1))
                clear HSY hzn HA
                go_wp2_with fail
                exact ⟨⟨i + 1, by omega, by go_num, (by first | rfl | trivial), HA2.out⟩, by simp [intOf]; omega⟩
            · have hlti : (l : Int) ≤ (i : Int) := by omega
              obtain rfl : i = l := by omega
              have HR := Lib.hid (HS0.out (by
                cases h : sym zs (n + 1) d with
                | none => rfl
                | some s =>
                  have h2 := (sym_some zs (n + 1) d s (by omega)).1 h
                  exact absurd h2.2 (HA.out s (by rw [HN.out]; exact h2.1))))
              clear HS1 HS0 HA
              go_wp2_with fail
              exact ⟨⟨n + 1, d, by omega, by go_num, rfl, HC3.out, (by first | rfl | trivial), HR.out⟩, by simp [intOf]; omega⟩
      · have hlbi : (lb : Int) < (n : Int) + 1 := by omega
        have HDR : Hid (bits.drop n = []) := Lib.hid (List.drop_eq_nil_of_le (by rw [← HNB.out]; omega))
        rw [HDR.out, rd_end] at HRD
        go_wp2_with fail
        go_ret3
        exact ⟨by rw [HRD.out]; go_num, HB.out⟩
    · have hni : (15 : Int) < (n : Int) + 1 := by omega
      obtain rfl : n = 15 := by omega
      have HR := Lib.hid (HRD.out.trans (rd_zero zs 15 c _))
      go_wp2_with fail
      go_ret3
      exact ⟨by rw [HR.out]; rfl, HB.out⟩
set_option maxRecDepth 100000 in
set_option maxHeartbeats 2000000 in
theorem rNext_lone (w : World) (v u : Value) (zs : List Int) (bits : List Bool) (hv : SlV w v (ni zs)) (hu : SlV w u (nb bits)) (hg : good zs) (hs : st zs = -1) :
    Calls Try.prog 25 #[v, u] w (RNPost (rd zs 1 0 0 bits) w) := by
  have HS := Lib.hid (rState_walk w v zs hv)
  have HC := Lib.hid (rCodes_walk w v zs hv)
  obtain ⟨p, cap, rfl⟩ := hv.shape
  obtain ⟨pb, cb, rfl⟩ := hu.shape
  rw [ni_length] at *
  rw [nb_length] at *
  obtain ⟨l, hl0⟩ : ∃ l, l = zs.length := ⟨_, rfl⟩
  obtain ⟨lb, hb0⟩ : ∃ lb, lb = bits.length := ⟨_, rfl⟩
  rw [← hl0] at hv HS HC ⊢
  rw [← hb0] at hu ⊢
  have HN := Lib.hid hl0
  have HNB := Lib.hid hb0
  have HV := Lib.hid hv
  have HU := Lib.hid hu
  have HG := Lib.hid hg
  have hl2 : l ≤ 1024 := by rw [hl0]; exact hg.1
  clear hl0 hb0 hv hu
  go_enter Try.func25, Try.ntmps25
  go_wp2_with fail
  refine HS.out.mono ?_
  rintro e w' ⟨rfl, rfl⟩
  clear HS
  rw [if_pos hg, hs]
  go_wp2_with fail
  refine HC.out.mono ?_
  rintro e w1 ⟨vc, rfl, hO, hB⟩
  rw [if_pos hg, if_neg (by rw [hs]; decide)]
  rw [if_pos ⟨hg, by rw [hs]; decide⟩, if_pos ⟨hg, by rw [hs]; decide⟩, ← HN.out] at hO
  obtain ⟨pc, cc, rfl⟩ := own_shape hO
  have HCD := Lib.hid (own_toV hO)
  have HB := Lib.hid hB
  have HV := Lib.hid (HV.out.below HB.out (Nat.le_refl _))
  have HU := Lib.hid (HU.out.below HB.out (Nat.le_refl _))
  clear HC hO hB hs hg
  go_wp2_with fail
  go_loopw [12, 13] (fun v12 v13 wr => ∃ n c : Nat, n ≤ 1 ∧ v13 = .int .i64 ((n : Int) + 1) ∧ v12 = .int .u32 (c : Int) ∧ c < 32768 * 2 ^ n ∧ wr = w1 ∧ rd zs 1 0 0 bits = rd zs (1 - n) n c (bits.drop n)) (fun _ v13 _ => 17 - (intOf v13).toNat)
  case atStart => exact ⟨0, 0, by omega, rfl, rfl, by decide, rfl, rfl⟩
  case round =>
    obtain ⟨n, c, hn, rfl, rfl, hc, rfl, hrd⟩ := hrel
    have HRD := Lib.hid hrd
    clear hrd
    by_cases hnm : n < 1
    · have hni : (n : Int) + 1 ≤ 1 := by omega
      have hp : 2 ^ n ≤ 2 ^ 14 := Nat.pow_le_pow_right (by decide) (by omega)
      have hp2 : (2 : Nat) ^ 14 = 16384 := by decide
      have hc2 : c < 536870912 := by omega
      have HP := Lib.hid (Nat.pow_succ 2 n)
      have HCP := Lib.hid hc
      have hms : 1 - n = (1 - (n + 1)) + 1 := by omega
      rw [hms] at HRD
      clear hp hp2 hms hc
      by_cases hlb : n < lb
      · have hlbi : ¬ ((lb : Int) < (n : Int) + 1) := by omega
        have hlbi2 : (n : Int) < (lb : Int) := by omega
        obtain ⟨gb, ob, rfl, hrowb⟩ := HU.out.some (by omega)
        have hcapb := HU.out.le
        have hnz : n < bits.length := by rw [← HNB.out]; exact hlb
        have hcb := hrowb.nb n hnz
        have HDR : Hid (bits.drop n = bits.getD n false :: bits.drop (n + 1)) := Lib.hid (by rw [List.drop_eq_getElem_cons hnz]; congr 1; simp [hnz])
        rw [HDR.out] at HRD
        clear hrowb
        generalize bits.getD n false = b at hcb HRD
        clear HDR
        cases b
        · have hc3 : 2 * c < 32768 * 2 ^ (n + 1) := by rw [HP.out]; have := HCP.out; omega
          have HC3 := Lib.hid hc3
          have HS1 : Hid (∀ s, sym zs (n + 1) (2 * c) = some s → rd zs 1 0 0 bits = (s, 0, n + 1)) := Lib.hid (fun s h => HRD.out.trans (rd_some zs _ n c s false _ h))
          have HS0 : Hid (sym zs (n + 1) (2 * c) = none → rd zs 1 0 0 bits = rd zs (1 - (n + 1)) (n + 1) (2 * c) (bits.drop (n + 1))) := Lib.hid (fun h => HRD.out.trans (rd_none zs _ n c false _ h))
          clear hc3 HP HCP HRD
          have hcast : (((2 * c : Nat)) : Int) = 2 * (c : Int) := by omega
          have HCAST := Lib.hid hcast
          clear hcast
          go_wp2_with fail
          obtain ⟨d, hd⟩ : ∃ d, d = 2 * c := ⟨_, rfl⟩
          rw [← hd] at HC3 HS1 HS0 HCAST
          have hd2 : d < 1073741825 := by omega
          rw [← HCAST.out]
          clear hd hc2
          go_loopw [14] (fun v14 wy => ∃ i : Nat, i ≤ l ∧ v14 = .int .i64 i ∧ wy = wr ∧ ∀ j, j < i → ¬ (zs.getD j 0 = ((n + 1 : Nat) : Int) ∧ code zs j = d)) (fun v14 _ => l - (intOf v14).toNat)
          case atStart => exact ⟨0, Nat.zero_le _, rfl, rfl, fun j hj => by omega⟩
          case round =>
            obtain ⟨i, hi, rfl, rfl, hall⟩ := hrel
            have HA := Lib.hid hall
            clear hall
            by_cases hlt : i < l
            · have hlti : (i : Int) < (l : Int) := by omega
              obtain ⟨g, o, rfl, hrow⟩ := HV.out.some (by omega)
              obtain ⟨g2, o2, rfl, hrow2⟩ := HCD.out.some (by omega)
              have hcap := HV.out.le
              have hcap2 := HCD.out.le
              have hiz : i < zs.length := by rw [← HN.out]; exact hlt
              have hcl := hrow.ni i hiz
              have hcl2 := hrow2.nu i (by rw [codes_length]; exact hiz)
              rw [codes_getD _ _ hiz] at hcl2
              have HSY := Lib.hid (sym_some zs (n + 1) d i (by omega))
              have HIZ := Lib.hid hiz
              obtain ⟨z, hz⟩ : ∃ z, z = zs.getD i 0 := ⟨_, rfl⟩
              obtain ⟨y, hy⟩ : ∃ y, y = code zs i := ⟨_, rfl⟩
              rw [← hz] at hcl HSY
              rw [← hy] at hcl2 HSY
              have HZ := Lib.hid hz
              have HY := Lib.hid hy
              clear hrow hrow2 hiz hz hy
              by_cases hzn : z = ((n + 1 : Nat) : Int)
              · have hzb : (z == (n : Int) + 1) = true := by rw [hzn]; exact beq_self_eq_true _
                by_cases hyd : y = d
                · have hyb : ((y : Int) == (d : Int)) = true := by rw [hyd]; exact beq_self_eq_true _
                  have HR := Lib.hid (HS1.out i (HSY.out.2 ⟨HIZ.out, hzn, hyd⟩))
                  clear HSY HS1 HS0 HA hzn hyd
                  go_wp2_with fail
                  go_ret3
                  exact ⟨by rw [HR.out]; rfl, HB.out⟩
                · have hyb : ((y : Int) == (d : Int)) = false := beq_false_of_ne (by omega)
                  have HA2 : Hid (∀ j, j < i + 1 → ¬ (zs.getD j 0 = ((n + 1 : Nat) : Int) ∧ code zs j = d)) := Lib.hid (fun j hj h => by
                    rcases Nat.lt_or_ge j i with h1 | h1
                    · exact HA.out j h1 h
                    · obtain rfl : j = i := by omega
                      exact hyd (HY.out.trans h.2))
                  clear HSY hzn hyd HA
                  go_wp2_with fail
                  exact ⟨⟨i + 1, by omega, by go_num, (by first | rfl | trivial), HA2.out⟩, by simp [intOf]; omega⟩
              · have hzb : (z == (n : Int) + 1) = false := beq_false_of_ne (by omega)
                have HA2 : Hid (∀ j, j < i + 1 → ¬ (zs.getD j 0 = ((n + 1 : Nat) : Int) ∧ code zs j = d)) := Lib.hid (fun j hj h => by
                  rcases Nat.lt_or_ge j i with h1 | h1
                  · exact HA.out j h1 h
                  · obtain rfl : j = i := by omega
                    exact hzn (HZ.out.trans h.1))
                clear HSY hzn HA
                go_wp2_with fail
                exact ⟨⟨i + 1, by omega, by go_num, (by first | rfl | trivial), HA2.out⟩, by simp [intOf]; omega⟩
            · have hlti : (l : Int) ≤ (i : Int) := by omega
              obtain rfl : i = l := by omega
              have HR := Lib.hid (HS0.out (by
                cases h : sym zs (n + 1) d with
                | none => rfl
                | some s =>
                  have h2 := (sym_some zs (n + 1) d s (by omega)).1 h
                  exact absurd h2.2 (HA.out s (by rw [HN.out]; exact h2.1))))
              clear HS1 HS0 HA
              go_wp2_with fail
              exact ⟨⟨n + 1, d, by omega, by go_num, rfl, HC3.out, (by first | rfl | trivial), HR.out⟩, by simp [intOf]; omega⟩
        · have hc3 : 2 * c + 1 < 32768 * 2 ^ (n + 1) := by rw [HP.out]; have := HCP.out; omega
          have HC3 := Lib.hid hc3
          have HS1 : Hid (∀ s, sym zs (n + 1) (2 * c + 1) = some s → rd zs 1 0 0 bits = (s, 0, n + 1)) := Lib.hid (fun s h => HRD.out.trans (rd_some zs _ n c s true _ h))
          have HS0 : Hid (sym zs (n + 1) (2 * c + 1) = none → rd zs 1 0 0 bits = rd zs (1 - (n + 1)) (n + 1) (2 * c + 1) (bits.drop (n + 1))) := Lib.hid (fun h => HRD.out.trans (rd_none zs _ n c true _ h))
          clear hc3 HP HCP HRD
          have hcast : (((2 * c + 1 : Nat)) : Int) = 2 * (c : Int) + 1 := by omega
          have HCAST := Lib.hid hcast
          clear hcast
          go_wp2_with fail
          obtain ⟨d, hd⟩ : ∃ d, d = 2 * c + 1 := ⟨_, rfl⟩
          rw [← hd] at HC3 HS1 HS0 HCAST
          have hd2 : d < 1073741825 := by omega
          rw [← HCAST.out]
          clear hd hc2
          go_loopw [14] (fun v14 wy => ∃ i : Nat, i ≤ l ∧ v14 = .int .i64 i ∧ wy = wr ∧ ∀ j, j < i → ¬ (zs.getD j 0 = ((n + 1 : Nat) : Int) ∧ code zs j = d)) (fun v14 _ => l - (intOf v14).toNat)
          case atStart => exact ⟨0, Nat.zero_le _, rfl, rfl, fun j hj => by omega⟩
          case round =>
            obtain ⟨i, hi, rfl, rfl, hall⟩ := hrel
            have HA := Lib.hid hall
            clear hall
            by_cases hlt : i < l
            · have hlti : (i : Int) < (l : Int) := by omega
              obtain ⟨g, o, rfl, hrow⟩ := HV.out.some (by omega)
              obtain ⟨g2, o2, rfl, hrow2⟩ := HCD.out.some (by omega)
              have hcap := HV.out.le
              have hcap2 := HCD.out.le
              have hiz : i < zs.length := by rw [← HN.out]; exact hlt
              have hcl := hrow.ni i hiz
              have hcl2 := hrow2.nu i (by rw [codes_length]; exact hiz)
              rw [codes_getD _ _ hiz] at hcl2
              have HSY := Lib.hid (sym_some zs (n + 1) d i (by omega))
              have HIZ := Lib.hid hiz
              obtain ⟨z, hz⟩ : ∃ z, z = zs.getD i 0 := ⟨_, rfl⟩
              obtain ⟨y, hy⟩ : ∃ y, y = code zs i := ⟨_, rfl⟩
              rw [← hz] at hcl HSY
              rw [← hy] at hcl2 HSY
              have HZ := Lib.hid hz
              have HY := Lib.hid hy
              clear hrow hrow2 hiz hz hy
              by_cases hzn : z = ((n + 1 : Nat) : Int)
              · have hzb : (z == (n : Int) + 1) = true := by rw [hzn]; exact beq_self_eq_true _
                by_cases hyd : y = d
                · have hyb : ((y : Int) == (d : Int)) = true := by rw [hyd]; exact beq_self_eq_true _
                  have HR := Lib.hid (HS1.out i (HSY.out.2 ⟨HIZ.out, hzn, hyd⟩))
                  clear HSY HS1 HS0 HA hzn hyd
                  go_wp2_with fail
                  go_ret3
                  exact ⟨by rw [HR.out]; rfl, HB.out⟩
                · have hyb : ((y : Int) == (d : Int)) = false := beq_false_of_ne (by omega)
                  have HA2 : Hid (∀ j, j < i + 1 → ¬ (zs.getD j 0 = ((n + 1 : Nat) : Int) ∧ code zs j = d)) := Lib.hid (fun j hj h => by
                    rcases Nat.lt_or_ge j i with h1 | h1
                    · exact HA.out j h1 h
                    · obtain rfl : j = i := by omega
                      exact hyd (HY.out.trans h.2))
                  clear HSY hzn hyd HA
                  go_wp2_with fail
                  exact ⟨⟨i + 1, by omega, by go_num, (by first | rfl | trivial), HA2.out⟩, by simp [intOf]; omega⟩
              · have hzb : (z == (n : Int) + 1) = false := beq_false_of_ne (by omega)
                have HA2 : Hid (∀ j, j < i + 1 → ¬ (zs.getD j 0 = ((n + 1 : Nat) : Int) ∧ code zs j = d)) := Lib.hid (fun j hj h => by
                  rcases Nat.lt_or_ge j i with h1 | h1
                  · exact HA.out j h1 h
                  · obtain rfl : j = i := by omega
                    exact hzn (HZ.out.trans h.1))
                clear HSY hzn HA
                go_wp2_with fail
                exact ⟨⟨i + 1, by omega, by go_num, (by first | rfl | trivial), HA2.out⟩, by simp [intOf]; omega⟩
            · have hlti : (l : Int) ≤ (i : Int) := by omega
              obtain rfl : i = l := by omega
              have HR := Lib.hid (HS0.out (by
                cases h : sym zs (n + 1) d with
                | none => rfl
                | some s =>
                  have h2 := (sym_some zs (n + 1) d s (by omega)).1 h
                  exact absurd h2.2 (HA.out s (by rw [HN.out]; exact h2.1))))
              clear HS1 HS0 HA
              go_wp2_with fail
              exact ⟨⟨n + 1, d, by omega, by go_num, rfl, HC3.out, (by first | rfl | trivial), HR.out⟩, by simp [intOf]; omega⟩
      · have hlbi : (lb : Int) < (n : Int) + 1 := by omega
        have HDR : Hid (bits.drop n = []) := Lib.hid (List.drop_eq_nil_of_le (by rw [← HNB.out]; omega))
        rw [HDR.out, rd_end] at HRD
        go_wp2_with fail
        go_ret3
        exact ⟨by rw [HRD.out]; go_num, HB.out⟩
    · have hni : (1 : Int) < (n : Int) + 1 := by omega
      obtain rfl : n = 1 := by omega
      have HR := Lib.hid (HRD.out.trans (rd_zero zs 1 c _))
      go_wp2_with fail
      go_ret3
      exact ⟨by rw [HR.out]; rfl, HB.out⟩
end Go.Proofs.Ytoifppfhnedahaa
