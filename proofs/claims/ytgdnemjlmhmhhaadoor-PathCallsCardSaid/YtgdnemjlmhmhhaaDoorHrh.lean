/-
  The document's own answers: Class, the walk.
-/
import Derived.Test.YtgdnemjlmhmhhaaDoorHrg
namespace Go.Proofs.YtgdnemjlmhmhhaaDoor
open Go.RowKit Go.Maps

theorem rC_len (p : List UInt8) (hM : (ini p).all Pt.mayName = true) : (rC p (ini p) (Pt.base p)).2.length ≤ p.length := by
  obtain ⟨hj, hp2, _⟩ := ini_two hM
  have hpl := parent_len p
  unfold rC
  rw [hj]
  split
  · exact Nat.le_refl _
  · split
    · exact hpl
    · split
      · rename_i hw
        rw [Bool.and_eq_true] at hw
        have hr0 := (name_facts hw.2).1
        rw [join_two _ _ hr0]
        dsimp only
        have h4 : ((Pt.base p).drop 4).length ≤ (Pt.base p).length := by rw [List.length_drop]; omega
        have hl := congrArg List.length hp2
        by_cases hpp : Pt.parent p = []
        · rw [if_pos hpp] at hl ⊢; omega
        · rw [if_neg hpp] at hl ⊢; simp at hl ⊢; omega
      · exact Nat.zero_le _
theorem slice_toS (g o n cap k : Nat) (hk : k ≤ cap) : ∀ w', (Instr.sliceAt 31 (.slice (some ⟨g, o, none⟩) n cap) none (some (.int .i64 (k : Int))) none).run Tryd.prog w' = .ok (.slice (some ⟨g, o, none⟩) k cap) w' := by
  intro w'
  have h1 : (0 : Int) ≤ (k : Int) := by omega
  have h2 : (k : Int) ≤ (cap : Int) := by omega
  go_simp
theorem slice_from4 (l : List UInt8) (h4 : 4 ≤ l.length) (hl : l.length ≤ 1000000) : ∀ w1, (Instr.sliceAt 9 (.string (sb l)) (some (.int .i64 4)) none none).run Tryd.prog w1 = .ok (.string (sb (l.drop 4))) w1 := fun w1 => by
  have hz := sb_size l
  have he := sb_extract l 4 l.length
  rw [List.take_of_length_le (by simp)] at he
  have hz4 : (4 : Int) ≤ ((sb l).size : Int) := by omega
  have hz5 : ((sb l).size : Int) ≤ 1000000 := by omega
  rw [← hz] at he
  rw [← he]
  generalize sb l = bb at *
  clear hz he h4 hl
  go_simp
def RClsPost (p : List UInt8) (w : World) (e : Ending) (w' : World) : Prop := e = .returned (.tuple #[.int .i64 (rCls p).1, .string (sb (rCls p).2)]) ∧ Below w.heap.size w w'
set_option maxRecDepth 100000 in
set_option maxHeartbeats 8000000 in
theorem rclass_walk (p : List UInt8) (hp : p.length ≤ 50000) (w : World) : Calls Tryd.prog 11 #[.string (sb p)] w (RClsPost p w) := by
  unfold RClsPost
  have ht : ((sb p).toList == [46, 119, 104, 46, 46, 119, 104, 46, 116, 111, 99]) = (p == Pt.toc) := by rw [sb_list]; rfl
  have hU : rCls p = if p = Pt.toc then (4, []) else if p = [] then (0, []) else if (ini p).all Pt.mayName = false then (0, []) else
    if ((rC p (ini p) (Pt.base p)).1 == 0 || !Pt.may (rC p (ini p) (Pt.base p)).2) = true then (0, []) else rC p (ini p) (Pt.base p) := rfl
  by_cases c1 : p = Pt.toc
  · rw [if_pos c1] at hU
    rw [show (p == Pt.toc) = true by rw [c1]; rfl] at ht
    rw [hU]
    clear hU c1 hp
    generalize sb p = b at *
    go_enter Tryd.func11, Tryd.ntmps11
    go_wp2_with fail
    go_ret2
    exact ⟨rfl, Below.refl _ _⟩
  rw [if_neg c1] at hU
  rw [show (p == Pt.toc) = false by simpa using c1] at ht
  have HS := Lib.hid (rsplit_walk p (by omega) w)
  unfold SlPost at HS
  by_cases c2 : p = []
  · rw [if_pos c2] at hU
    rw [hU]
    rw [show Pt.split p = [] by rw [c2]; rfl] at HS
    have hn0 : (([] : List (List UInt8)).length : Int) = 0 := rfl
    clear hU c1 c2 hp
    generalize sb p = b at *
    go_enter Tryd.func11, Tryd.ntmps11
    go_wp2_with ((with_reducible refine HS.out.mono ?_); rintro e w1 ⟨v, rfl, hv, hb⟩; obtain ⟨pp, cap, rfl⟩ := hv.shape; simp only [sl_length, List.length_nil] at hv ⊢; have HB := Lib.hid hb; clear hv hb)
    go_ret2
    exact ⟨rfl, HB.out⟩
  rw [if_neg c2] at hU
  have hsp : Pt.split p = Pt.parts p := by unfold Pt.split; rw [if_neg c2]
  rw [hsp] at HS
  have hml := parts_mem p
  have hlb := last_base p
  have hpl := parts_len p
  have hcl : p.count 47 ≤ p.length := List.count_le_length
  obtain ⟨N, hN⟩ : ∃ N, (Pt.parts p).length = N + 1 := ⟨_, hpl⟩
  have hini : ini p = (Pt.parts p).take N := by unfold ini; rw [hN, Nat.add_sub_cancel]
  rw [hN, Nat.add_sub_cancel] at hlb
  have hN1 : N ≤ 50000 := by omega
  have HRL := Lib.hid (rC_len p)
  rw [hini] at hU HRL
  obtain ⟨L, hL⟩ : ∃ L, Pt.parts p = L := ⟨_, rfl⟩
  rw [hL] at HS hml hN hlb hU HRL
  have HN := Lib.hid hN
  have HML := Lib.hid hml
  have HLB := Lib.hid hlb
  have HU := Lib.hid hU
  have hbl := base_len p
  have HINI : Hid ((L.take N).all Pt.mayName = true → Pt.join (L.take N) = Pt.parent p) := Lib.hid (fun h => by
    rw [← hL, ← hini] at h ⊢
    exact (ini_two h).1)
  have hNI : ((N + 1 : Nat) : Int) = (N : Int) + 1 := by omega
  generalize hbp : sb p = b at *
  have HBP := Lib.hid hbp
  clear hN hml hlb hU hL hsp c1 c2 hpl hcl hini hbp
  have hne0 : (((N : Int) + 1) == 0) = false := beq_eq_false_iff_ne.2 (by omega)
  go_enter Tryd.func11, Tryd.ntmps11
  go_wp2_with fail
  refine HS.out.mono ?_
  rintro e w1 ⟨v, rfl, hv, hb⟩
  obtain ⟨pp, cap, rfl⟩ := hv.shape
  have hnn := HN.out
  rw [sl_length, hnn] at hv ⊢
  obtain ⟨g, o, rfl, hrow⟩ := hv.some (by omega)
  have hcap := hv.le
  have hcl := hrow.sl N (by rw [hnn]; omega)
  rw [HLB.out] at hcl
  have hcap2 : (N : Int) + 1 ≤ (cap : Int) := by omega
  have HV := Lib.hid hv
  have HROW := Lib.hid hrow
  have HB := Lib.hid hb
  clear hnn hv hb hrow
  go_wp2_with fail
  go_loopw [6] (fun v6 wr => ∃ k : Nat, k ≤ N ∧ v6 = .int .i64 (k : Int) ∧ (L.take k).all Pt.mayName = true ∧ w1 = wr) (fun v6 _ => N - (intOf v6).toNat)
  case atStart => exact ⟨0, Nat.zero_le _, rfl, rfl, rfl⟩
  case round =>
    obtain ⟨k, hk, rfl, hal, rfl⟩ := hrel
    have HA := Lib.hid hal
    clear hal
    by_cases hkN : k < N
    · have hkl : k < L.length := by rw [HN.out]; omega
      have hcell := HROW.out.sl k hkl
      have hkI : (k : Int) < (N : Int) := by omega
      have ek : L.getD k [] = L[k] := by simp [hkl]
      have hxl : (L.getD k []).length ≤ 1000000 := by rw [ek]; have := HML.out _ (List.getElem_mem hkl); omega
      have HC := Lib.hid (rmayName_walk (L.getD k []) hxl w1)
      have HT : Hid ((L.take (k + 1)).all Pt.mayName = Pt.mayName (L.getD k [])) := Lib.hid (by
        rw [List.take_succ_eq_append_getElem hkl, List.all_append, HA.out, ek]; simp)
      have HF : Hid (Pt.mayName (L.getD k []) = false → (L.take N).all Pt.mayName = false) := Lib.hid (fun h => by
        rw [Bool.eq_false_iff]
        intro ha
        rw [List.all_eq_true] at ha
        rw [ek] at h
        have hm : L[k] ∈ L.take N := by
          rw [List.mem_take_iff_getElem]
          exact ⟨k, by omega, rfl⟩
        exact absurd (ha _ hm) (by rw [h]; decide))
      generalize sb (L.getD k []) = bx at *
      generalize Pt.mayName (L.getD k []) = M at *
      clear hkl ek hxl
      cases M
      · have HR := HU.out
        rw [HF.out rfl, if_pos rfl] at HR
        have HR := Lib.hid HR
        go_wp2_with ((with_reducible refine HC.out.mono ?_); rintro e w2 ⟨rfl, hw⟩; rw [hw]; clear hw)
        go_ret2
        exact ⟨by rw [HR.out]; rfl, HB.out⟩
      · go_wp2_with ((with_reducible refine HC.out.mono ?_); rintro e w2 ⟨rfl, hw⟩; rw [hw]; clear hw)
        go_roundw
        case rel => exact ⟨k + 1, by omega, by go_num, HT.out, trivial⟩
        case measure => simp [intOf] <;> omega
    · obtain rfl : k = N := by omega
      have hz : decide ((k : Int) < (k : Int)) = false := decide_eq_false (by omega)
      have hU2 := HU.out
      rw [HA.out, if_neg (show ¬ true = false by decide)] at hU2
      have hjd := HINI.out HA.out
      have hrl := HRL.out HA.out
      have hpl := parent_len p
      have hC : rC p (L.take k) (Pt.base p) = if Pt.mayName (Pt.base p) = true then (1, p) else if Pt.base p = Pt.opq then (3, Pt.parent p) else if (Pt.wh.isPrefixOf (Pt.base p) && Pt.mayName ((Pt.base p).drop 4)) = true then (2, Pt.join [Pt.parent p, (Pt.base p).drop 4]) else (0, []) := by
        unfold rC; rw [hjd]
      have hst := slice_toS g o (k + 1) cap k (by omega)
      have HJ := Lib.hid (rjoin_walk (L.take k) (by rw [List.length_take]; omega) (by rw [hjd]; omega) (fun x hx => by have := HML.out x (List.mem_of_mem_take hx); omega) (.slice (some ⟨g, o, none⟩) k cap) w1 (by
        have := HV.out.take k (by omega)
        rw [sl_take] at this; exact this))
      rw [hjd] at HJ
      have HBN := Lib.hid (rmayName_walk (Pt.base p) (by omega) w1)
      have HBG := Lib.hid (begins_walk (Pt.base p) Pt.wh (by omega) (by decide) w1)
      have HBG2 : Hid (Calls Tryd.prog 40 #[.string (sb (Pt.base p)), .string ⟨#[46, 119, 104, 46]⟩] w1 fun e w' => e = .returned (.bool (Pt.wh.isPrefixOf (Pt.base p))) ∧ w' = w1) := HBG
      have hoq : ((sb (Pt.base p)).toList == [46, 119, 104, 46, 46, 119, 104, 46, 46, 111, 112, 113]) = (Pt.base p == Pt.opq) := by rw [sb_list]; rfl
      have HM : Hid (∀ t : List UInt8, t.length ≤ 50000 → ∀ w1, Below w.heap.size w w1 → Calls Tryd.prog 15 #[.string (sb t)] w1 fun e w' => e = .returned (.bool (Pt.may t)) ∧ Below w.heap.size w w') := Lib.hid (fun t ht w1 hb => (rmay_walk t (by omega) w1).mono fun _ _ ⟨h1, h2⟩ => ⟨h1, hb.trans (h2.mono hb.size)⟩)
      clear HBG
      cases hn : Pt.mayName (Pt.base p)
      · rw [hn] at HBN
        rw [hn, if_neg (show ¬ false = true by decide)] at hC
        by_cases ho : Pt.base p = Pt.opq
        · rw [if_pos ho] at hC
          rw [hC] at hU2
          rw [show (Pt.base p == Pt.opq) = true by rw [ho]; exact beq_self_eq_true _] at hoq
          have HMP : Hid (∀ w1, Below w.heap.size w w1 → _) := Lib.hid (HM.out (Pt.parent p) (by omega))
          have HR : Hid (rCls p = if ((3 : Int) == 0 || !Pt.may (Pt.parent p)) = true then (0, []) else (3, Pt.parent p)) := Lib.hid hU2
          generalize Pt.may (Pt.parent p) = MP at *
          clear hC hU2 ho hn hrl hjd hpl
          generalize sb (Pt.base p) = bb at *
          generalize hbd : sb (Pt.parent p) = bd at *
          have HBD := Lib.hid hbd
          clear hbd
          cases MP
          · go_wp2_with (first
              | ((with_reducible refine HJ.out.mono ?_); rintro e w2 ⟨rfl, hw⟩; rw [hw]; clear hw)
              | ((with_reducible refine HBN.out.mono ?_); rintro e w2 ⟨rfl, hw⟩; rw [hw]; clear hw)
              | ((with_reducible refine (HMP.out _ HB.out).mono ?_); rintro e w2 ⟨rfl, hb⟩; have HB3 := Lib.hid hb; clear hb))
            go_ret2
            exact ⟨by rw [HR.out]; rfl, HB3.out⟩
          · go_wp2_with (first
              | ((with_reducible refine HJ.out.mono ?_); rintro e w2 ⟨rfl, hw⟩; rw [hw]; clear hw)
              | ((with_reducible refine HBN.out.mono ?_); rintro e w2 ⟨rfl, hw⟩; rw [hw]; clear hw)
              | ((with_reducible refine (HMP.out _ HB.out).mono ?_); rintro e w2 ⟨rfl, hb⟩; have HB3 := Lib.hid hb; clear hb))
            go_ret2
            exact ⟨by rw [HR.out, ← HBD.out]; rfl, HB3.out⟩
        · rw [if_neg ho] at hC
          rw [show (Pt.base p == Pt.opq) = false by simpa using ho] at hoq
          cases hw : Pt.wh.isPrefixOf (Pt.base p)
          · rw [hw] at HBG2
            rw [hw, Bool.false_and, if_neg (show ¬ false = true by decide)] at hC
            rw [hC] at hU2
            have HR : Hid (rCls p = (0, [])) := Lib.hid hU2
            clear hC hU2 ho hn hw hrl hjd hpl
            generalize sb (Pt.base p) = bb at *
            go_wp2_with (first
              | ((with_reducible refine HJ.out.mono ?_); rintro e w2 ⟨rfl, hw⟩; rw [hw]; clear hw)
              | ((with_reducible refine HBN.out.mono ?_); rintro e w2 ⟨rfl, hw⟩; rw [hw]; clear hw)
              | ((with_reducible refine HBG2.out.mono ?_); rintro e w2 ⟨rfl, hw⟩; rw [hw]; clear hw))
            go_ret2
            exact ⟨by rw [HR.out]; rfl, HB.out⟩
          · rw [hw] at HBG2
            rw [hw, Bool.true_and] at hC
            have h4 : 4 ≤ (Pt.base p).length := by
              have := List.IsPrefix.length_le (List.isPrefixOf_iff_prefix.1 hw)
              exact this
            have hs4 := slice_from4 (Pt.base p) h4 (by omega)
            have HDN := Lib.hid (rmayName_walk ((Pt.base p).drop 4) (by rw [List.length_drop]; omega) w1)
            cases hd : Pt.mayName ((Pt.base p).drop 4)
            · rw [hd] at HDN
              rw [hd, if_neg (show ¬ false = true by decide)] at hC
              rw [hC] at hU2
              have HR : Hid (rCls p = (0, [])) := Lib.hid hU2
              clear hC hU2 ho hn hw hrl hjd hpl hd h4
              generalize sb ((Pt.base p).drop 4) = bt at *
              generalize sb (Pt.base p) = bb at *
              go_wp2_with (first
                | ((with_reducible refine HJ.out.mono ?_); rintro e w2 ⟨rfl, hw⟩; rw [hw]; clear hw)
                | ((with_reducible refine HBN.out.mono ?_); rintro e w2 ⟨rfl, hw⟩; rw [hw]; clear hw)
                | ((with_reducible refine HDN.out.mono ?_); rintro e w2 ⟨rfl, hw⟩; rw [hw]; clear hw)
                | ((with_reducible refine HBG2.out.mono ?_); rintro e w2 ⟨rfl, hw⟩; rw [hw]; clear hw))
              go_ret2
              exact ⟨by rw [HR.out]; rfl, HB.out⟩
            · rw [hd] at HDN
              rw [hd, if_pos rfl] at hC
              rw [hC] at hU2 hrl
              have HMP : Hid (∀ w1, Below w.heap.size w w1 → _) := Lib.hid (HM.out (Pt.join [Pt.parent p, (Pt.base p).drop 4]) (by dsimp only at hrl; omega))
              have HR : Hid (rCls p = if ((2 : Int) == 0 || !Pt.may (Pt.join [Pt.parent p, (Pt.base p).drop 4])) = true then (0, []) else (2, Pt.join [Pt.parent p, (Pt.base p).drop 4])) := Lib.hid hU2
              have HJ2 : Hid (Calls Tryd.prog 20 #[.slice (some ⟨w1.heap.size, 0, none⟩) 2 2] (w1.alloc (.cells #[.string (sb (Pt.parent p)), .string (sb ((Pt.base p).drop 4))] 9)) fun e w' => e = .returned (.string (sb (Pt.join [Pt.parent p, (Pt.base p).drop 4]))) ∧ w' = w1.alloc (.cells #[.string (sb (Pt.parent p)), .string (sb ((Pt.base p).drop 4))] 9)) := Lib.hid
                (rjoin_walk [Pt.parent p, (Pt.base p).drop 4] (by simp) (by dsimp only at hrl; omega) (fun x hx => by
                  rcases List.mem_cons.1 hx with rfl | hx
                  · omega
                  · obtain rfl : x = (Pt.base p).drop 4 := by simpa using hx
                    rw [List.length_drop]; omega) _ _ (slv_new w1 (sl [Pt.parent p, (Pt.base p).drop 4]) 9))
              have HBA : Hid (Below w.heap.size w (w1.alloc (.cells #[.string (sb (Pt.parent p)), .string (sb ((Pt.base p).drop 4))] 9))) := Lib.hid (HB.out.alloc HB.out.size _)
              generalize Pt.may (Pt.join [Pt.parent p, (Pt.base p).drop 4]) = MP at *
              clear hC hU2 ho hn hw hrl hjd hpl hd h4
              generalize hbj : sb (Pt.join [Pt.parent p, (Pt.base p).drop 4]) = bj at *
              have HBJ := Lib.hid hbj
              clear hbj
              generalize sb ((Pt.base p).drop 4) = bt at *
              generalize sb (Pt.base p) = bb at *
              generalize sb (Pt.parent p) = bd at *
              cases MP
              · go_wp2_with (first
                  | ((with_reducible refine HJ.out.mono ?_); rintro e w2 ⟨rfl, hw⟩; rw [hw]; clear hw)
                  | ((with_reducible refine HJ2.out.mono ?_); rintro e w2 ⟨rfl, hw⟩; rw [hw]; clear hw)
                  | ((with_reducible refine HBN.out.mono ?_); rintro e w2 ⟨rfl, hw⟩; rw [hw]; clear hw)
                  | ((with_reducible refine HDN.out.mono ?_); rintro e w2 ⟨rfl, hw⟩; rw [hw]; clear hw)
                  | ((with_reducible refine HBG2.out.mono ?_); rintro e w2 ⟨rfl, hw⟩; rw [hw]; clear hw)
                  | ((with_reducible refine (HMP.out _ HBA.out).mono ?_); rintro e w2 ⟨rfl, hb⟩; have HB3 := Lib.hid hb; clear hb))
                go_ret2
                exact ⟨by rw [HR.out]; rfl, HB3.out⟩
              · go_wp2_with (first
                  | ((with_reducible refine HJ.out.mono ?_); rintro e w2 ⟨rfl, hw⟩; rw [hw]; clear hw)
                  | ((with_reducible refine HJ2.out.mono ?_); rintro e w2 ⟨rfl, hw⟩; rw [hw]; clear hw)
                  | ((with_reducible refine HBN.out.mono ?_); rintro e w2 ⟨rfl, hw⟩; rw [hw]; clear hw)
                  | ((with_reducible refine HDN.out.mono ?_); rintro e w2 ⟨rfl, hw⟩; rw [hw]; clear hw)
                  | ((with_reducible refine HBG2.out.mono ?_); rintro e w2 ⟨rfl, hw⟩; rw [hw]; clear hw)
                  | ((with_reducible refine (HMP.out _ HBA.out).mono ?_); rintro e w2 ⟨rfl, hb⟩; have HB3 := Lib.hid hb; clear hb))
                go_ret2
                exact ⟨by rw [HR.out, ← HBJ.out]; rfl, HB3.out⟩
      · rw [hn] at HBN
        rw [hn, if_pos rfl] at hC
        rw [hC] at hU2
        have HMP : Hid (∀ w1, Below w.heap.size w w1 → _) := Lib.hid (HM.out p hp)
        have HR : Hid (rCls p = if ((1 : Int) == 0 || !Pt.may p) = true then (0, []) else (1, p)) := Lib.hid hU2
        rw [HBP.out] at HMP
        generalize Pt.may p = MP at *
        clear hC hU2 hn hrl hjd hpl
        generalize sb (Pt.base p) = bb at *
        cases MP
        · go_wp2_with (first
            | ((with_reducible refine HJ.out.mono ?_); rintro e w2 ⟨rfl, hw⟩; rw [hw]; clear hw)
            | ((with_reducible refine HBN.out.mono ?_); rintro e w2 ⟨rfl, hw⟩; rw [hw]; clear hw)
            | ((with_reducible refine (HMP.out _ HB.out).mono ?_); rintro e w2 ⟨rfl, hb⟩; have HB3 := Lib.hid hb; clear hb))
          go_ret2
          exact ⟨by rw [HR.out]; rfl, HB3.out⟩
        · go_wp2_with (first
            | ((with_reducible refine HJ.out.mono ?_); rintro e w2 ⟨rfl, hw⟩; rw [hw]; clear hw)
            | ((with_reducible refine HBN.out.mono ?_); rintro e w2 ⟨rfl, hw⟩; rw [hw]; clear hw)
            | ((with_reducible refine (HMP.out _ HB.out).mono ?_); rintro e w2 ⟨rfl, hb⟩; have HB3 := Lib.hid hb; clear hb))
          go_ret2
          exact ⟨by rw [HR.out, ← HBP.out]; rfl, HB3.out⟩
end Go.Proofs.YtgdnemjlmhmhhaaDoor
