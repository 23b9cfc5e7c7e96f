/-
  Under, Above, Whiteout, Opaque.
-/
import Derived.Test.YtgdnemjlmhmhhaaDoorHo
namespace Go.Proofs.YtgdnemjlmhmhhaaDoor
open Go.RowKit Go.Maps

theorem pre_append (d : List UInt8) : ∀ p : List UInt8, (d ++ [47]).isPrefixOf p = (d.isPrefixOf p && [47].isPrefixOf (p.drop d.length)) := by
  induction d with
  | nil => intro p; simp
  | cons x t ih =>
    intro p
    cases p with
    | nil => simp
    | cons y q => simp [List.isPrefixOf, ih q, Bool.and_assoc]
theorem under_code (dir p : List UInt8) : Pt.under dir p = if dir = [] then p != [] else (dir.isPrefixOf p && [47].isPrefixOf (Lib.trimPrefix p dir)) := by
  unfold Pt.under
  by_cases hd : dir = []
  · rw [if_pos hd, hd]; simp
  · rw [if_neg hd]
    have h1 : (dir == []) = false := by simpa using hd
    rw [h1, Bool.false_or, pre_append]
    unfold Lib.trimPrefix Lib.hasPrefix
    by_cases hp : p = []
    · subst hp
      have : dir.isPrefixOf [] = false := by cases dir with | nil => exact absurd rfl hd | cons => rfl
      rw [this]; rfl
    · have h2 : (p != []) = true := by simpa using hp
      rw [h2, Bool.true_and]
      cases h : dir.isPrefixOf p
      · rfl
      · rfl
set_option maxHeartbeats 1000000 in
theorem under_walk (dir p : List UInt8) (w : World) : Calls Tryd.prog 27 #[.string (sb dir), .string (sb p)] w fun e w' => e = .returned (.bool (Pt.under dir p)) ∧ w' = w := by
  rw [under_code]
  have h1 : ((sb dir).toList == []) = (dir == []) := by rw [sb_list]
  have h2 : ((sb p).toList == []) = (p == []) := by rw [sb_list]
  by_cases hd : dir = []
  · rw [if_pos hd]
    rw [show (dir == []) = true by rw [hd]; rfl] at h1
    have h3 : (p != []) = !(p == []) := rfl
    rw [h3]
    generalize (p == []) = P at *
    generalize sb dir = b1 at *
    generalize sb p = b2 at *
    clear hd h3
    cases P
    · go_enter Tryd.func27, Tryd.ntmps27
      go_wp2_with fail
      go_ret
      exact ⟨rfl, rfl⟩
    · go_enter Tryd.func27, Tryd.ntmps27
      go_wp2_with fail
      go_ret
      exact ⟨rfl, rfl⟩
  · rw [if_neg hd]
    rw [show (dir == []) = false by simpa using hd] at h1
    have HC := Lib.hid (cp_walk (sb p) (sb dir) w)
    have HP := Lib.hid (hp_walk (sb (Lib.trimPrefix p dir)) ⟨#[47]⟩ w)
    rw [sb_data, sb_data] at HC
    rw [sb_data, show (⟨#[47]⟩ : ByteArray).data.toList = [47] from rfl] at HP
    generalize sb (Lib.trimPrefix p dir) = b3 at *
    generalize [47].isPrefixOf (Lib.trimPrefix p dir) = B at *
    generalize dir.isPrefixOf p = A at *
    generalize sb dir = b1 at *
    generalize sb p = b2 at *
    clear hd h2
    cases A
    · go_enter Tryd.func27, Tryd.ntmps27
      go_wp2_with (first
        | ((with_reducible refine HC.out.mono ?_); rintro e w1 ⟨rfl, hw⟩; rw [hw]; clear hw)
        | ((with_reducible refine HP.out.mono ?_); rintro e w1 ⟨rfl, hw⟩; rw [hw]; clear hw))
      go_ret
      exact ⟨rfl, rfl⟩
    · go_enter Tryd.func27, Tryd.ntmps27
      go_wp2_with (first
        | ((with_reducible refine HC.out.mono ?_); rintro e w1 ⟨rfl, hw⟩; rw [hw]; clear hw)
        | ((with_reducible refine HP.out.mono ?_); rintro e w1 ⟨rfl, hw⟩; rw [hw]; clear hw))
      go_ret
      exact ⟨rfl, rfl⟩
theorem conv_str (b : ByteArray) (w : World) : (convert 9 51 (.string b)).run Tryd.prog w = .ok (.slice (some ⟨w.heap.size, 0, none⟩) b.size (grownCap w b.size 0 5)) (Lib.bytesWorld w 5 b) :=
  Lib.run_convert_string_bytes w 9 51 5 b Tryd.underlying9 Tryd.underlying51 Tryd.underlying5
theorem own_shape {base k : Nat} {e : TypeId} {w : World} {v : Value} {n : Nat} {l : List Value} (h : w.ownsRow base e k v n l) : ∃ p cap, v = .slice p n cap := by
  obtain ⟨_, ⟨h1, h2⟩ | ⟨g, cap, cur, h1, _⟩⟩ := h
  · exact ⟨_, _, by rw [h2]; exact h1⟩
  · exact ⟨_, _, h1⟩
theorem upTo_le (p : List UInt8) (k : Nat) : (Pt.upTo p k).length ≤ k := by
  induction k with
  | zero => exact Nat.zero_le _
  | succ k ih => rw [Pt.upTo]; split <;> (try rw [List.length_append, List.length_singleton]) <;> omega
set_option maxRecDepth 100000 in
set_option maxHeartbeats 2000000 in
theorem above_walk (p : List UInt8) (hp : p.length ≤ 100000) (w : World) : Calls Tryd.prog 25 #[.string (sb p)] w (SlPost (Pt.above p) w) := by
  unfold Pt.above
  have hsz := sb_size p
  have hcv := conv_str (sb p) w
  have hB0 : Below w.heap.size w (Lib.bytesWorld w 5 (sb p)) := conv_below w (sb p)
  have hs1 : (Lib.bytesWorld w 5 (sb p)).heap.size = w.heap.size + 1 := Lib.bytesWorld_size w 5 (sb p)
  have hcell : ∀ k, k < p.length → (Lib.bytesWorld w 5 (sb p)).cell? ⟨w.heap.size, k, none⟩ = some (.int .u8 (bi (p.getD k 0))) := fun k hk => by
    rw [Lib.bytesWorld_cell w 5 (sb p) k (by omega), sb_data]; rfl
  have hcut : ∀ k, k ≤ p.length → (sb p).extract 0 k = sb (p.take k) := fun k _ => by rw [sb_extract]; rfl
  have hix : ∀ w, (Instr.index 9 (.string ⟨#[47]⟩) (.int .i64 0)).run Tryd.prog w = .ok (.int .u8 47) w := fun w => by kernel_rfl
  have hge := grownCap_ge w (sb p).size 0 5
  generalize grownCap w (sb p).size 0 5 = CAP at *
  obtain ⟨N, hN⟩ : ∃ N, p.length = N := ⟨_, rfl⟩
  rw [hN] at hp hsz hcell hcut ⊢
  rw [hsz] at hcv hge
  have HB0 := Lib.hid hB0
  have HS1 := Lib.hid hs1
  have HCELL := Lib.hid hcell
  have HCUT := Lib.hid hcut
  generalize Lib.bytesWorld w 5 (sb p) = w1 at *
  generalize hb : sb p = b at *
  obtain ⟨i0, hi, hz0, hz1, hz2⟩ := info_parts info9
  have HI0 := Lib.hid (And.intro hi (And.intro hz0 (And.intro hz1 hz2)))
  clear hB0 hs1 hcell hcut hN hb hi hz0 hz1 hz2
  go_enter Tryd.func25, Tryd.ntmps25
  go_wp2_with fail
  go_loopw [3, 9] (fun v3 v9 wr => ∃ k : Nat, k ≤ N ∧ v9 = .int .i64 (k : Int) ∧ (∃ pv cv, v3 = .slice pv (Pt.upTo p k).length cv) ∧ wr.ownsRow w1.heap.size 9 1 v3 (Pt.upTo p k).length (sl (Pt.upTo p k)) ∧ Below w1.heap.size w1 wr) (fun _ v9 _ => N - (intOf v9).toNat)
  case atStart => exact ⟨0, Nat.zero_le _, rfl, ⟨_, _, rfl⟩, World.ownsRow_nil _ _ _ _, Below.refl _ _⟩
  case round =>
    obtain ⟨k, hk, rfl, ⟨pv, cv, rfl⟩, hO, hB⟩ := hrel
    have HO := Lib.hid hO
    have HB := Lib.hid hB
    clear hO hB
    by_cases hkN : k < N
    · have hc := HB.out.cell (p := ⟨w.heap.size, k, none⟩) (by show w.heap.size < _; rw [HS1.out]; omega)
      rw [HCELL.out k hkN] at hc
      have hkI : (k : Int) < (N : Int) := by omega
      have hle1 : w1.heap.size ≤ wr.heap.size := HB.out.size
      have HU : Hid (Pt.upTo p (k + 1) = if p.getD k 0 = 47 then Pt.upTo p k ++ [p.take k] else Pt.upTo p k) := Lib.hid (by rw [Pt.upTo])
      have hul := upTo_le p k
      generalize hpk : (Pt.upTo p k).length = np at *
      have HPK := Lib.hid hpk
      clear hpk
      have hx := @bi_inj (p.getD k 0) 47
      rw [show bi 47 = 47 from rfl] at hx
      by_cases h47 : p.getD k 0 = 47
      · have hb47 : bi (p.getD k 0) = 47 := hx.2 h47
        rw [hb47] at hc
        have HU2 := HU.out
        rw [if_pos h47] at HU2
        have HU2 := Lib.hid HU2
        have hex : b.extract 0 k = sb (p.take k) := HCUT.out k hk
        have HSX : Hid (sl [p.take k] = [.string (sb (p.take k))]) := Lib.hid rfl
        generalize sb (p.take k) = bt at *
        clear hx hb47 h47 HU
        go_wp2_with (refine wpList_appK 31 9 i0 (.string ByteArray.empty) 1 16 Tryd.underlying31 HI0.out.1 HI0.out.2.1 HI0.out.2.2.1 HI0.out.2.2.2 rfl (by decide) (by decide) rfl _ _ rfl w1.heap.size (.slice pv np cv) (.slice (some ⟨wr.heap.size, 0, none⟩) 1 1) np 1 _ [.string bt] rfl rfl (by intro y hy; simp at hy; subst hy; rfl) (HO.out.alloc _) (⟨rfl, .inl ⟨wr.heap.size, 0, 1, rfl, Nat.le_refl _, fun i v hi => by rw [Nat.zero_add]; exact (cell_of_row _ _ _ _ _ _ (heap_alloc_new wr _)).trans (by simpa using hi)⟩⟩) (by simp; omega) (by omega) ?_; intro v' w9 hown hgrow hat; obtain ⟨p9, cap9, hv'⟩ := own_shape hown; have HOW := Lib.hid hown; have HGR := Lib.hid hgrow; clear hown hgrow hat; subst hv')
        go_roundw
        case rel =>
          refine ⟨k + 1, by omega, by go_num, ⟨p9, cap9, by rw [HU2.out, List.length_append, HPK.out]; rfl⟩, ?_, ((HB.out.alloc HB.out.size _).grown HGR.out (by simp; omega) (fun k e => (HO.out.lt k e).1))⟩
          rw [HU2.out, List.length_append, HPK.out, sl_append, HSX.out]
          exact HOW.out
        case measure => simp [intOf]; omega
      · have hb47 : (bi (p.getD k 0) == 47) = false := beq_eq_false_iff_ne.2 (fun e => h47 (hx.1 e))
        have HU2 := HU.out
        rw [if_neg h47] at HU2
        have HU2 := Lib.hid HU2
        generalize bi (p.getD k 0) = bx at *
        clear hx h47 HU
        go_wp2_with fail
        go_roundw
        case rel => exact ⟨k + 1, by omega, by go_num, ⟨_, _, by rw [HU2.out, HPK.out]⟩, by rw [HU2.out, HPK.out]; exact HO.out, HB.out⟩
        case measure => simp [intOf]; omega
    · obtain rfl : k = N := by omega
      have hz : decide ((k : Int) < (k : Int)) = false := decide_eq_false (by omega)
      go_wp2_with fail
      go_ret
      exact ⟨_, rfl, own_toV HO.out, HB0.out.trans (HB.out.mono (by rw [HS1.out]; omega))⟩
set_option maxHeartbeats 2000000 in
theorem opaq_walk (d : List UInt8) (hd : d.length ≤ 100000) (w : World) : Calls Tryd.prog 31 #[.string (sb d)] w fun e w' => e = .returned (.string (sb (Pt.opaq d))) ∧ Below w.heap.size w w' := by
  have HM := Lib.hid (may_walk d hd w)
  unfold Pt.opaq
  by_cases h : Pt.may d = true
  · rw [if_pos h]
    rw [h] at HM
    have hJ : (Pt.join [d, Pt.opq]).length ≤ 100100 := by
      have : Pt.full [d, Pt.opq] = [Pt.opq] ∨ Pt.full [d, Pt.opq] = [d, Pt.opq] := by
        unfold Pt.full
        by_cases hd0 : d = []
        · exact .inl (by rw [hd0]; rfl)
        · exact .inr (by rw [List.filter_cons_of_pos (by simpa using hd0)]; rfl)
      unfold Pt.join
      rcases this with e | e <;> rw [e]
      · decide
      · show (d ++ 47 :: Pt.opq).length ≤ _
        have : Pt.opq.length = 12 := rfl
        simp; omega
    have HJ : Hid (∀ w1 : World, Calls Tryd.prog 19 #[.slice (some ⟨w1.heap.size, 0, none⟩) 2 2] (w1.alloc (.cells #[.string (sb d), .string ⟨#[46, 119, 104, 46, 46, 119, 104, 46, 46, 111, 112, 113]⟩] 9)) (JoinPost [d, Pt.opq] (w1.alloc (.cells #[.string (sb d), .string ⟨#[46, 119, 104, 46, 46, 119, 104, 46, 46, 111, 112, 113]⟩] 9)))) := Lib.hid (fun w1 =>
      join_walk [d, Pt.opq] (by simp) (by omega) _ _ (slv_new w1 (sl [d, Pt.opq]) 9))
    have HBA : Hid (∀ w1 : World, Below w1.heap.size w1 (w1.alloc (.cells #[.string (sb d), .string ⟨#[46, 119, 104, 46, 46, 119, 104, 46, 46, 111, 112, 113]⟩] 9))) := Lib.hid (fun w1 => (Below.refl _ _).alloc (Nat.le_refl _) _)
    unfold JoinPost at HJ
    generalize sb (Pt.join [d, Pt.opq]) = bj at *
    generalize sb d = b at *
    clear h hd hJ
    go_enter Tryd.func31, Tryd.ntmps31
    go_wp2_with (first
      | ((with_reducible refine HM.out.mono ?_); rintro e w1 ⟨rfl, hb⟩; have HB1 := Lib.hid hb; clear hb)
      | ((with_reducible refine (HJ.out _).mono ?_); rintro e w2 ⟨rfl, hb⟩; have HB2 := Lib.hid hb; clear hb))
    go_ret
    exact ⟨rfl, HB1.out.trans (((HBA.out w1).trans (HB2.out.mono (by simp))).mono HB1.out.size)⟩
  · rw [if_neg h]
    rw [show Pt.may d = false by simpa using h] at HM
    generalize sb d = b at *
    clear h
    go_enter Tryd.func31, Tryd.ntmps31
    go_wp2_with ((with_reducible refine HM.out.mono ?_); rintro e w1 ⟨rfl, hb⟩; have HB1 := Lib.hid hb; clear hb)
    go_ret
    exact ⟨rfl, HB1.out⟩
theorem parent_len (p : List UInt8) : (Pt.parent p).length ≤ p.length := by unfold Pt.parent; rw [List.length_take]; omega
theorem base_len (p : List UInt8) : (Pt.base p).length ≤ p.length := by unfold Pt.base; rw [List.length_drop]; omega
set_option maxHeartbeats 2000000 in
theorem whiteout_walk (p : List UInt8) (hp : p.length ≤ 100000) (w : World) : Calls Tryd.prog 29 #[.string (sb p)] w fun e w' => e = .returned (.string (sb (Pt.whiteout p))) ∧ Below w.heap.size w w' := by
  have HM := Lib.hid (may_walk p hp w)
  have h1 : ((sb p).toList == []) = (p == []) := by rw [sb_list]
  have h3 : (p != []) = !(p == []) := rfl
  unfold Pt.whiteout
  rw [h3]
  by_cases h0 : p = []
  · rw [show (p == []) = true by rw [h0]; rfl] at h1 ⊢
    generalize sb p = b at *
    clear h0 HM h3
    go_enter Tryd.func29, Tryd.ntmps29
    go_wp2_with fail
    go_ret
    exact ⟨rfl, Below.refl _ _⟩
  · rw [show (p == []) = false by simpa using h0] at h1 ⊢
    by_cases h : Pt.may p = true
    · rw [h] at HM ⊢
      rw [if_pos (show (!false && true) = true from rfl)]
      have hpl := parent_len p
      have hbl := base_len p
      have hJ : (Pt.join [Pt.parent p, Pt.wh ++ Pt.base p]).length ≤ 300000 := by
        have hwl : Pt.wh.length = 4 := rfl
        have : Pt.full [Pt.parent p, Pt.wh ++ Pt.base p] = [Pt.wh ++ Pt.base p] ∨ Pt.full [Pt.parent p, Pt.wh ++ Pt.base p] = [Pt.parent p, Pt.wh ++ Pt.base p] := by
          unfold Pt.full
          by_cases hd0 : Pt.parent p = []
          · exact .inl (by rw [hd0]; rfl)
          · exact .inr (by rw [List.filter_cons_of_pos (by simpa using hd0)]; rfl)
        unfold Pt.join
        rcases this with e | e <;> rw [e]
        · show (Pt.wh ++ Pt.base p).length ≤ _
          simp; omega
        · show (Pt.parent p ++ 47 :: (Pt.wh ++ Pt.base p)).length ≤ _
          simp; omega
      have HJ : Hid (∀ w1 : World, Calls Tryd.prog 19 #[.slice (some ⟨w1.heap.size, 0, none⟩) 2 2] (w1.alloc (.cells #[.string (sb (Pt.parent p)), .string (sb (Pt.wh ++ Pt.base p))] 9)) (JoinPost [Pt.parent p, Pt.wh ++ Pt.base p] (w1.alloc (.cells #[.string (sb (Pt.parent p)), .string (sb (Pt.wh ++ Pt.base p))] 9)))) := Lib.hid (fun w1 =>
        join_walk [Pt.parent p, Pt.wh ++ Pt.base p] (by simp) (by omega) _ _ (slv_new w1 (sl [Pt.parent p, Pt.wh ++ Pt.base p]) 9))
      have HBA : Hid (∀ w1 : World, Below w1.heap.size w1 (w1.alloc (.cells #[.string (sb (Pt.parent p)), .string (sb (Pt.wh ++ Pt.base p))] 9))) := Lib.hid (fun w1 => (Below.refl _ _).alloc (Nat.le_refl _) _)
      unfold JoinPost at HJ
      have HPA : Hid (∀ w1, _) := Lib.hid (fun w1 => parent_walk p hp w1)
      have HBS : Hid (∀ w1, _) := Lib.hid (fun w1 => base_walk p hp w1)
      have hcat : (⟨#[46, 119, 104, 46]⟩ : ByteArray) ++ sb (Pt.base p) = sb (Pt.wh ++ Pt.base p) := sb_append Pt.wh (Pt.base p)
      have hbs : ((sb (Pt.base p)).size : Int) ≤ 100000 := by rw [sb_size]; omega
      generalize sb (Pt.join [Pt.parent p, Pt.wh ++ Pt.base p]) = bj at *
      generalize sb (Pt.wh ++ Pt.base p) = bw at *
      generalize sb (Pt.base p) = bb at *
      generalize sb (Pt.parent p) = bp at *
      generalize sb p = b at *
      clear h hp hJ h0 h3 hpl hbl
      go_enter Tryd.func29, Tryd.ntmps29
      go_wp2_with (first
        | ((with_reducible refine HM.out.mono ?_); rintro e w1 ⟨rfl, hb⟩; have HB1 := Lib.hid hb; clear hb)
        | ((with_reducible refine (HPA.out _).mono ?_); rintro e w1 ⟨rfl, hw⟩; rw [hw]; clear hw)
        | ((with_reducible refine (HBS.out _).mono ?_); rintro e w1 ⟨rfl, hw⟩; rw [hw]; clear hw)
        | ((with_reducible refine (HJ.out _).mono ?_); rintro e w2 ⟨rfl, hb⟩; have HB2 := Lib.hid hb; clear hb))
      go_ret
      exact ⟨rfl, HB1.out.trans (((HBA.out _).trans (HB2.out.mono (by simp))).mono HB1.out.size)⟩
    · rw [show Pt.may p = false by simpa using h] at HM ⊢
      generalize sb p = b at *
      clear h h0 h3
      go_enter Tryd.func29, Tryd.ntmps29
      go_wp2_with ((with_reducible refine HM.out.mono ?_); rintro e w1 ⟨rfl, hb⟩; have HB1 := Lib.hid hb; clear hb)
      go_ret
      exact ⟨rfl, HB1.out⟩
end Go.Proofs.YtgdnemjlmhmhhaaDoor
