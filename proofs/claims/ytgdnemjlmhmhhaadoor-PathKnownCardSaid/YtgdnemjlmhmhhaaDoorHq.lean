/-
  Class.
-/
import Derived.Test.YtgdnemjlmhmhhaaDoorHk
namespace Go.Proofs.YtgdnemjlmhmhhaaDoor
open Go.RowKit Go.Maps

theorem cut_base (p : List UInt8) : p = p.take (p.length - (Pt.base p).length) ++ Pt.base p ∧ (Pt.base p).length ≤ p.length := by
  have h1 := cut_ge p
  have h2 := cut_lt p
  unfold Pt.base
  rw [List.length_drop]
  have : p.length - (p.length - (Pt.cut p + 1).toNat) = (Pt.cut p + 1).toNat := by omega
  rw [this]
  exact ⟨(List.take_append_drop _ _).symm, by omega⟩
theorem trim_base (p : List UInt8) : Lib.trimSuffix p (Pt.base p) = p.take (p.length - (Pt.base p).length) := by
  unfold Lib.trimSuffix Lib.hasSuffix
  have h := (cut_base p).1
  have : (Pt.base p).isSuffixOf p = true := by
    rw [List.isSuffixOf_iff_suffix]
    exact ⟨_, h.symm⟩
  rw [this, if_pos rfl]
theorem lastC_four (b : List UInt8) : Pt.lastC b = 1 ∨ (Pt.lastC b = 2 ∧ 4 ≤ b.length) ∨ Pt.lastC b = 3 ∨ Pt.lastC b = 4 := by
  unfold Pt.lastC
  split
  · exact .inr (.inr (.inl rfl))
  · split
    · exact .inr (.inr (.inr rfl))
    · split
      · rename_i h
        refine .inr (.inl ⟨rfl, ?_⟩)
        have := List.IsPrefix.length_le (List.isPrefixOf_iff_prefix.1 h)
        exact this
      · exact .inl rfl
def ClassPost (p : List UInt8) (w : World) (e : Ending) (w' : World) : Prop := e = .returned (.tuple #[.int .i64 (Pt.cls p), .string (sb (Pt.tgt p))]) ∧ Below w.heap.size w w'
theorem cls_yes {p : List UInt8} (h : Pt.clsB p = true) : Pt.cls p = Pt.lastC (Pt.base p) ∧ Pt.tgt p = Pt.clsT p := by unfold Pt.cls Pt.tgt; rw [h]; exact ⟨rfl, rfl⟩
theorem cls_no {p : List UInt8} (h : Pt.clsB p = false) : Pt.cls p = 0 ∧ Pt.tgt p = [] := by unfold Pt.cls Pt.tgt; rw [h]; exact ⟨rfl, rfl⟩
theorem gone_len (p : List UInt8) : (Pt.goneT p).length ≤ p.length := by
  have h := cut_base p
  unfold Pt.goneT
  rw [List.length_append, List.length_take, List.length_drop]
  omega
set_option maxRecDepth 100000 in
set_option maxHeartbeats 4000000 in
theorem class_walk (p : List UInt8) (hp : p.length ≤ 50000) (w : World) : Calls Tryd.prog 10 #[.string (sb p)] w (ClassPost p w) := by
  unfold ClassPost
  have HBS : Hid (Calls Tryd.prog 23 #[.string (sb p)] w _) := Lib.hid (base_walk p (by omega) w)
  have HLC : Hid (Calls Tryd.prog 41 #[.string (sb (Pt.base p))] w _) := Lib.hid (lastClass_walk (Pt.base p) w)
  have hT : Pt.clsT p = if Pt.lastC (Pt.base p) = 1 then p else if Pt.lastC (Pt.base p) = 2 then Pt.goneT p else if Pt.lastC (Pt.base p) = 3 then Pt.parent p else [] := rfl
  have hB : Pt.clsB p = if Pt.lastC (Pt.base p) = 1 then p != [] && Pt.may p else if Pt.lastC (Pt.base p) = 2 then Pt.whiteout (Pt.goneT p) == p else if Pt.lastC (Pt.base p) = 3 then Pt.opaq (Pt.parent p) == p else p == Pt.toc := rfl
  have hyes := @cls_yes p
  have hno := @cls_no p
  rcases lastC_four (Pt.base p) with h | ⟨h, h4⟩ | h | h
  · rw [h] at HLC hyes hT hB
    rw [if_pos rfl] at hT hB
    have h1 : ((sb p).toList == []) = (p == []) := by rw [sb_list]
    have h3 : (p != []) = !(p == []) := rfl
    rw [h3] at hB
    have HM : Hid (∀ w1, Below w.heap.size w w1 → Calls Tryd.prog 14 #[.string (sb p)] w1 fun e w' => e = .returned (.bool (Pt.may p)) ∧ Below w.heap.size w w') := Lib.hid (fun w1 hb => (may_walk p (by omega) w1).mono fun _ _ ⟨h1, h2⟩ => ⟨h1, hb.trans (h2.mono hb.size)⟩)
    by_cases h0 : (p == []) = true
    · rw [h0] at h1 hB
      obtain ⟨e1, e2⟩ := hno hB
      rw [e1, e2]
      clear hT hB hyes hno h3 h e1 e2 h0 HM
      generalize sb (Pt.base p) = bb at *
      generalize sb p = b at *
      go_enter Tryd.func10, Tryd.ntmps10
      go_wp2_with (first
        | ((with_reducible refine HBS.out.mono ?_); rintro e w1 ⟨rfl, hw⟩; rw [hw]; clear hw)
        | ((with_reducible refine HLC.out.mono ?_); rintro e w1 ⟨rfl, hb⟩; have HB1 := Lib.hid hb; clear hb))
      go_ret2
      exact ⟨rfl, HB1.out⟩
    · replace h0 : (p == []) = false := by simpa using h0
      rw [h0] at h1 hB
      by_cases hm : Pt.may p = true
      · rw [hm] at hB HM
        obtain ⟨e1, e2⟩ := hyes hB
        rw [e1, e2, hT]
        clear hT hB hyes hno h3 h e1 e2 h0 hm
        generalize sb (Pt.base p) = bb at *
        generalize sb p = b at *
        go_enter Tryd.func10, Tryd.ntmps10
        go_wp2_with (first
          | ((with_reducible refine HBS.out.mono ?_); rintro e w1 ⟨rfl, hw⟩; rw [hw]; clear hw)
          | ((with_reducible refine HLC.out.mono ?_); rintro e w1 ⟨rfl, hb⟩; have HB1 := Lib.hid hb; have HC := Lib.hid (HM.out _ hb); clear hb)
          | ((with_reducible refine HC.out.mono ?_); rintro e w2 ⟨rfl, hb⟩; have HB2 := Lib.hid hb; clear hb))
        go_ret2
        exact ⟨rfl, HB2.out⟩
      · replace hm : Pt.may p = false := by simpa using hm
        rw [hm] at hB HM
        obtain ⟨e1, e2⟩ := hno hB
        rw [e1, e2]
        clear hT hB hyes hno h3 h e1 e2 h0 hm
        generalize sb (Pt.base p) = bb at *
        generalize sb p = b at *
        go_enter Tryd.func10, Tryd.ntmps10
        go_wp2_with (first
          | ((with_reducible refine HBS.out.mono ?_); rintro e w1 ⟨rfl, hw⟩; rw [hw]; clear hw)
          | ((with_reducible refine HLC.out.mono ?_); rintro e w1 ⟨rfl, hb⟩; have HB1 := Lib.hid hb; have HC := Lib.hid (HM.out _ hb); clear hb)
          | ((with_reducible refine HC.out.mono ?_); rintro e w2 ⟨rfl, hb⟩; have HB2 := Lib.hid hb; clear hb))
        go_ret2
        exact ⟨rfl, HB2.out⟩
  · rw [h] at HLC hyes hT hB
    rw [if_neg (by decide), if_pos rfl] at hT hB
    have hgl := gone_len p
    have hcb := cut_base p
    have HTS : Hid (∀ w1, Calls Tryd.prog 42 #[.string (sb p), .string (sb (Pt.base p))] w1 fun e w' => e = .returned (.string (sb (p.take (p.length - (Pt.base p).length)))) ∧ w' = w1) := Lib.hid (fun w1 => by
      have := ts_walk (sb p) (sb (Pt.base p)) w1 (by rw [sb_size]; omega)
      rw [sb_data, sb_data, trim_base] at this
      exact this)
    have HM : Hid (∀ w1, Below w.heap.size w w1 → Calls Tryd.prog 29 #[.string (sb (Pt.goneT p))] w1 fun e w' => e = .returned (.string (sb (Pt.whiteout (Pt.goneT p)))) ∧ Below w.heap.size w w') := Lib.hid (fun w1 hb => (whiteout_walk (Pt.goneT p) (by omega) w1).mono fun _ _ ⟨h1, h2⟩ => ⟨h1, hb.trans (h2.mono hb.size)⟩)
    have heq : ((sb (Pt.whiteout (Pt.goneT p))).toList == (sb p).toList) = Pt.clsB p := by rw [hB, sb_beq]
    have hcat : sb (p.take (p.length - (Pt.base p).length)) ++ sb ((Pt.base p).drop 4) = sb (Pt.goneT p) := sb_append _ _
    have hs4 : ∀ w1, (Instr.sliceAt 9 (.string (sb (Pt.base p))) (some (.int .i64 4)) none none).run Tryd.prog w1 = .ok (.string (sb ((Pt.base p).drop 4))) w1 := fun w1 => by
      have hz := sb_size (Pt.base p)
      have he := sb_extract (Pt.base p) 4 (Pt.base p).length
      rw [List.take_of_length_le (by simp)] at he
      have hz4 : (4 : Int) ≤ ((sb (Pt.base p)).size : Int) := by omega
      rw [← hz] at he
      rw [← he]
      generalize sb (Pt.base p) = bb at *
      clear hz he
      go_simp
    have hz1 : ((sb (p.take (p.length - (Pt.base p).length))).size : Int) ≤ 50000 := by rw [sb_size, List.length_take]; omega
    have hz2 : ((sb ((Pt.base p).drop 4)).size : Int) ≤ 50000 := by rw [sb_size, List.length_drop]; omega
    have hR : Hid (Pt.cls p = (if Pt.clsB p then 2 else 0) ∧ Pt.tgt p = (if Pt.clsB p then Pt.goneT p else [])) := Lib.hid (by
      cases hc : Pt.clsB p
      · exact hno hc
      · obtain ⟨e1, e2⟩ := hyes hc
        rw [e1, e2, hT]; exact ⟨rfl, rfl⟩)
    rw [hR.out.1, hR.out.2]
    generalize sb (Pt.whiteout (Pt.goneT p)) = bo at *
    generalize Pt.clsB p = B at *
    clear hT hB hyes hno h hgl hcb hR h4
    cases B
    · rw [if_neg (by decide), if_neg (by decide)]
      generalize sb (Pt.goneT p) = bg at *
      generalize sb (p.take (p.length - (Pt.base p).length)) = bt at *
      generalize sb ((Pt.base p).drop 4) = bd at *
      generalize sb (Pt.base p) = bb at *
      generalize sb p = b at *
      go_enter Tryd.func10, Tryd.ntmps10
      go_wp2_with (first
        | ((with_reducible refine HBS.out.mono ?_); rintro e w1 ⟨rfl, hw⟩; rw [hw]; clear hw)
        | ((with_reducible refine HLC.out.mono ?_); rintro e w1 ⟨rfl, hb⟩; have HB1 := Lib.hid hb; clear hb))
      go_quiet ((go_at_call 42; exact (HTS.out _).mono fun _ _ ⟨h1, h2⟩ => ⟨h1, _, h2⟩))
      have HC : Hid (∀ n, _) := Lib.hid (fun n => HM.out _ (below_drewN HB1.out n))
      go_wp2_with (first
        | ((with_reducible refine (HC.out _).mono ?_); rintro e w2 ⟨rfl, hb⟩; have HB2 := Lib.hid hb; clear hb))
      go_ret2
      exact ⟨rfl, HB2.out⟩
    · rw [if_pos rfl, if_pos rfl]
      generalize sb (Pt.goneT p) = bg at *
      generalize sb (p.take (p.length - (Pt.base p).length)) = bt at *
      generalize sb ((Pt.base p).drop 4) = bd at *
      generalize sb (Pt.base p) = bb at *
      generalize sb p = b at *
      go_enter Tryd.func10, Tryd.ntmps10
      go_wp2_with (first
        | ((with_reducible refine HBS.out.mono ?_); rintro e w1 ⟨rfl, hw⟩; rw [hw]; clear hw)
        | ((with_reducible refine HLC.out.mono ?_); rintro e w1 ⟨rfl, hb⟩; have HB1 := Lib.hid hb; clear hb))
      go_quiet ((go_at_call 42; exact (HTS.out _).mono fun _ _ ⟨h1, h2⟩ => ⟨h1, _, h2⟩))
      have HC : Hid (∀ n, _) := Lib.hid (fun n => HM.out _ (below_drewN HB1.out n))
      go_wp2_with (first
        | ((with_reducible refine (HC.out _).mono ?_); rintro e w2 ⟨rfl, hb⟩; have HB2 := Lib.hid hb; clear hb))
      go_ret2
      exact ⟨rfl, HB2.out⟩
  · rw [h] at HLC hyes hT hB
    rw [if_neg (by decide), if_neg (by decide), if_pos rfl] at hT hB
    have hpl := parent_len p
    have HPA : Hid (∀ w1, Calls Tryd.prog 21 #[.string (sb p)] w1 fun e w' => e = .returned (.string (sb (Pt.parent p))) ∧ w' = w1) := Lib.hid (fun w1 => parent_walk p (by omega) w1)
    have HM : Hid (∀ w1, Below w.heap.size w w1 → Calls Tryd.prog 31 #[.string (sb (Pt.parent p))] w1 fun e w' => e = .returned (.string (sb (Pt.opaq (Pt.parent p)))) ∧ Below w.heap.size w w') := Lib.hid (fun w1 hb => (opaq_walk (Pt.parent p) (by omega) w1).mono fun _ _ ⟨h1, h2⟩ => ⟨h1, hb.trans (h2.mono hb.size)⟩)
    have heq : ((sb (Pt.opaq (Pt.parent p))).toList == (sb p).toList) = Pt.clsB p := by rw [hB, sb_beq]
    have hR : Hid (Pt.cls p = (if Pt.clsB p then 3 else 0) ∧ Pt.tgt p = (if Pt.clsB p then Pt.parent p else [])) := Lib.hid (by
      cases hc : Pt.clsB p
      · exact hno hc
      · obtain ⟨e1, e2⟩ := hyes hc
        rw [e1, e2, hT]; exact ⟨rfl, rfl⟩)
    rw [hR.out.1, hR.out.2]
    generalize sb (Pt.opaq (Pt.parent p)) = bo at *
    generalize Pt.clsB p = B at *
    clear hT hB hyes hno h hpl hR
    cases B
    · rw [if_neg (by decide), if_neg (by decide)]
      generalize sb (Pt.parent p) = bp at *
      generalize sb (Pt.base p) = bb at *
      generalize sb p = b at *
      go_enter Tryd.func10, Tryd.ntmps10
      go_wp2_with (first
        | ((with_reducible refine HBS.out.mono ?_); rintro e w1 ⟨rfl, hw⟩; rw [hw]; clear hw)
        | ((with_reducible refine (HPA.out _).mono ?_); rintro e w1 ⟨rfl, hw⟩; rw [hw]; clear hw)
        | ((with_reducible refine HLC.out.mono ?_); rintro e w1 ⟨rfl, hb⟩; have HB1 := Lib.hid hb; have HC := Lib.hid (HM.out _ hb); clear hb)
        | ((with_reducible refine HC.out.mono ?_); rintro e w2 ⟨rfl, hb⟩; have HB2 := Lib.hid hb; clear hb))
      go_ret2
      exact ⟨rfl, HB2.out⟩
    · rw [if_pos rfl, if_pos rfl]
      generalize sb (Pt.parent p) = bp at *
      generalize sb (Pt.base p) = bb at *
      generalize sb p = b at *
      go_enter Tryd.func10, Tryd.ntmps10
      go_wp2_with (first
        | ((with_reducible refine HBS.out.mono ?_); rintro e w1 ⟨rfl, hw⟩; rw [hw]; clear hw)
        | ((with_reducible refine (HPA.out _).mono ?_); rintro e w1 ⟨rfl, hw⟩; rw [hw]; clear hw)
        | ((with_reducible refine HLC.out.mono ?_); rintro e w1 ⟨rfl, hb⟩; have HB1 := Lib.hid hb; have HC := Lib.hid (HM.out _ hb); clear hb)
        | ((with_reducible refine HC.out.mono ?_); rintro e w2 ⟨rfl, hb⟩; have HB2 := Lib.hid hb; clear hb))
      go_ret2
      exact ⟨rfl, HB2.out⟩
  · rw [h] at HLC hyes hT hB
    rw [if_neg (by decide), if_neg (by decide), if_neg (by decide)] at hT hB
    have heq : ((sb p).toList == [46, 119, 104, 46, 46, 119, 104, 46, 116, 111, 99]) = Pt.clsB p := by rw [hB, sb_list]; rfl
    have hR : Hid (Pt.cls p = (if Pt.clsB p then 4 else 0) ∧ Pt.tgt p = []) := Lib.hid (by
      cases hc : Pt.clsB p
      · exact hno hc
      · obtain ⟨e1, e2⟩ := hyes hc
        rw [e1, e2, hT]; exact ⟨rfl, rfl⟩)
    rw [hR.out.1, hR.out.2]
    generalize Pt.clsB p = B at *
    clear hT hB hyes hno h hR
    cases B
    · rw [if_neg (by decide)]
      generalize sb (Pt.base p) = bb at *
      generalize sb p = b at *
      go_enter Tryd.func10, Tryd.ntmps10
      go_wp2_with (first
        | ((with_reducible refine HBS.out.mono ?_); rintro e w1 ⟨rfl, hw⟩; rw [hw]; clear hw)
        | ((with_reducible refine HLC.out.mono ?_); rintro e w1 ⟨rfl, hb⟩; have HB1 := Lib.hid hb; clear hb))
      go_ret2
      exact ⟨rfl, HB1.out⟩
    · rw [if_pos rfl]
      generalize sb (Pt.base p) = bb at *
      generalize sb p = b at *
      go_enter Tryd.func10, Tryd.ntmps10
      go_wp2_with (first
        | ((with_reducible refine HBS.out.mono ?_); rintro e w1 ⟨rfl, hw⟩; rw [hw]; clear hw)
        | ((with_reducible refine HLC.out.mono ?_); rintro e w1 ⟨rfl, hb⟩; have HB1 := Lib.hid hb; clear hb))
      go_ret2
      exact ⟨rfl, HB1.out⟩
end Go.Proofs.YtgdnemjlmhmhhaaDoor
