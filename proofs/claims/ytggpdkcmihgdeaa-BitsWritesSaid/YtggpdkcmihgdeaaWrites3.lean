/-
  The law BitsWrites walked: a round that aligns.
-/
import Derived.Test.YtggpdkcmihgdeaaWrites0
namespace Go.Proofs.Ytggpdkcmihgdeaa
open Go.RowKit Bt
set_option maxRecDepth 100000 in
set_option maxHeartbeats 16000000 in
theorem leaf2 (k : Nat) (hk4 : k = 2) : Leaf.1 k := by
  subst hk4
  delta Leaf
  dsimp only
  set_option tactic.hygienic false in intros
  by_cases h2 : what = 2
  · subst h2
    go_wp2_with fail
    generalize wr.alloc (.cells #[.int .i64 2, .int .i64 m, .int .u64 (N : Int), .slice pb lb cb] 32) = w5 at *
    generalize wr.heap.size = gx at *
    refine (ws_walign HW5.out 0 g L rfl (by have := HLL.out; omega)).mono ?_
    rintro e w6 ⟨rfl, hW, hb⟩
    have HW6 := Lib.hid hW
    have HB6 := Lib.hid (HB5.out.trans hb)
    clear hW hb HW5 HB5
    go_wp2_with fail
    refine (ws_turn HW6.out 1 rfl fun F hF => rfill_walk w6 F g3 0 L hF (by have := HLL.out; omega)).mono ?_
    rintro e w7 ⟨rfl, hW, hb⟩
    have HWn : Hid (Ws w.heap.size w7 [.wr g (fill L), .row g3 (fill L) 0, .box gx #[.int .i64 2, .int .i64 m, .int .u64 (N : Int), .slice pb lb cb] 32]) := Lib.hid hW
    have HBn := Lib.hid (HB6.out.trans hb)
    have HLX : Hid ((fill L).length ≤ L.length + 200) := Lib.hid (by rw [fill_length]; omega)
    clear hW hb HW6 HB6
    go_wp2_with fail
    refine (ws_done HWn.out 0 g (fill L) rfl (by have := HLX.out; have := HLL.out; omega)).mono ?_
    rintro e wd ⟨pd, cd, rfl, hW, hb⟩
    have HWd := Lib.hid hW
    have HBd := Lib.hid (HBn.out.trans hb)
    clear hW hb HWn HBn c0 c1 c2 c3
    obtain ⟨pr, cr, hrc⟩ := row_cell HWd.out 1 rfl
    have hb1 : wd.cell? ⟨gx, 1, none⟩ = some (.int .i64 m) := HWd.out.box 2 gx _ 32 rfl 1
    have hb2 : wd.cell? ⟨gx, 2, none⟩ = some (.int .u64 (N : Int)) := HWd.out.box 2 gx _ 32 rfl 2
    have HLX2 : Hid ((fill L).length ≤ 1099511627) := Lib.hid (by have := HLX.out; have := HLL.out; omega)
    have HLX3 : Hid ((fill L).length ≤ L.length + 200) := Lib.hid HLX.out
    obtain ⟨pl, hpl⟩ : ∃ pl, pl = (pack (fill L)).length := ⟨_, rfl⟩
    have hpb : pl ≤ 1099511627 := by rw [hpl, pack_length]; have := HLX2.out; omega
    rw [← hpl] at HWd ⊢
    have HPL := Lib.hid hpl.symm
    clear hpl
    obtain ⟨lx, hlx⟩ : ∃ lx, lx = (fill L).length := ⟨_, rfl⟩
    rw [← hlx] at hrc
    have HLXX := Lib.hid hlx
    clear hlx
    go_wp2_with fail
    go_region_held3 (fun w' => w'.cell? ⟨gx, 1, none⟩ = some (.int .i64 m) ∧ w'.cell? ⟨gx, 2, none⟩ = some (.int .u64 (N : Int)) ∧ w'.cell? ⟨g3, 0, none⟩ = some (.slice pr lx cr))
      (first | go_keep | (refine ⟨?_, ?_, ?_⟩ <;> assumption))
      (first
        | (go_at_call 20; refine (ws_len HWd.out.drew 0 g (fill L) rfl).mono ?_; rintro e w' ⟨rfl, rfl⟩; rw [← HLXX.out])
        | (go_at_call 22; refine (ws_rdone2 HWd.out.drew 1 rfl HLX2.out).mono ?_; rintro e wq ⟨p2, cap2, rfl, hWq, hbq⟩; have hbq2 : Below wd.heap.size wd wq := drew_below hbq (Nat.le_refl _); have k1 : wq.cell? ⟨gx, 1, none⟩ = some (.int .i64 m) := (hbq2.cell (p := ⟨gx, 1, none⟩) (block_lt_of_cell hb1)).trans hb1; have k2 : wq.cell? ⟨gx, 2, none⟩ = some (.int .u64 (N : Int)) := (hbq2.cell (p := ⟨gx, 2, none⟩) (block_lt_of_cell hb2)).trans hb2; have k3 : wq.cell? ⟨g3, 0, none⟩ = some (.slice pr lx cr) := (hbq2.cell (p := ⟨g3, 0, none⟩) (block_lt_of_cell hrc)).trans hrc; have HWq := Lib.hid hWq; have HBq := Lib.hid (HBd.out.trans (hbq2.mono HBd.out.size)); clear hWq hbq hbq2)
        | (go_at_call 21; refine (equal_walk _ _ _ (pack (fill L)) (pack (fill L)) (HWq.out.sl 3 _ _ rfl) (HWq.out.sl 4 _ _ rfl)).mono ?_; rintro e w' ⟨rfl, rfl⟩; rw [show (pack (fill L) == pack (fill L)) = true from beq_self_eq_true _])
        | (go_at_call 23; refine (reverse_walk N (m) _ HN0.out).mono ?_; rintro e w' ⟨rfl, rfl⟩)
        | (go_at_call 24; refine (revref _ N (m) HN0.out).mono ?_; rintro e wz ⟨rfl, hbz⟩; have z1 : wz.cell? ⟨gx, 1, none⟩ = some (.int .i64 m) := (hbz.cell (p := ⟨gx, 1, none⟩) (block_lt_of_cell k1)).trans k1; have z2 : wz.cell? ⟨gx, 2, none⟩ = some (.int .u64 (N : Int)) := (hbz.cell (p := ⟨gx, 2, none⟩) (block_lt_of_cell k2)).trans k2; have z3 : wz.cell? ⟨g3, 0, none⟩ = some (.slice pr lx cr) := (hbz.cell (p := ⟨g3, 0, none⟩) (block_lt_of_cell k3)).trans k3; have HWz := Lib.hid (HWq.out.later hbz); have HBz := Lib.hid (HBq.out.trans (hbz.mono HBq.out.size)); clear hbz))
    all_goals
      go_wp2_with fail
      have HWe : Hid (Ws w.heap.size wz ([.wr g (fill L), .row g3 (fill L) 0, .box gx #[.int .i64 2, .int .i64 m, .int .u64 (N : Int), .slice pb lb cb] 32] ++ [.sl (.slice pd pl cd) (pack (fill L))])) := Lib.hid (HWz.out.take 4)
      have HBe := Lib.hid HBz.out
      clear HWz HBz
      go_loopw [13, 128] (fun _ v wr => XorRel2 w [.wr g (fill L), .row g3 (fill L) 0, .box gx #[.int .i64 2, .int .i64 m, .int .u64 (N : Int), .slice pb lb cb] 32] (.slice pd pl cd) pl v wr) (fun _ v _ => pl - (intOf v).toNat)
      case atStart => exact ⟨0, Nat.zero_le _, rfl, pack (fill L), HPL.out, HWe.out, HBe.out⟩
      case round =>
        clear HWe HBe
        obtain ⟨i, hi, rfl, ob, hob, hW, hb⟩ := hrel
        by_cases hlt : i < pl
        · have hii : (i : Int) < (pl : Int) := by omega
          obtain ⟨gd, cc, e1, hc, hf, hset⟩ := hW.setb 3 _ ob rfl i (by rw [hob]; exact hlt)
          obtain ⟨rfl, rfl⟩ : pd = some ⟨gd, 0, none⟩ ∧ cd = cc := by
            have := Value.slice.inj e1
            exact ⟨this.1, this.2.2⟩
          obtain ⟨y, hy⟩ : ∃ y, y = ob.getD i 0 ^^^ 255 := ⟨_, rfl⟩
          have hxx : bits .xor .u8 (bi (ob.getD i 0)) 255 = bi y := by
            have := u8_xor_nat (ob.getD i 0).toNat 255 (UInt8.toNat_lt _) (by decide)
            rw [hy]; unfold bi; rw [UInt8.toNat_xor]; exact this
          have HQ : Hid (XorRel2 w [.wr g (fill L), .row g3 (fill L) 0, .box gx #[.int .i64 2, .int .i64 m, .int .u64 (N : Int), .slice pb lb cb] 32] (.slice (some ⟨gd, 0, none⟩) pl cd) pl (.int .i64 ((i : Int) + 1)) (wr.setCell ⟨gd, i, none⟩ (.int .u8 (bi y)))) := Lib.hid ⟨i + 1, hlt, by go_num, ob.set i y, by rw [List.length_set, hob], (hset y).1, hb.trans (hset y).2⟩
          clear e1 hset hW hb hy hob
          generalize ob.getD i 0 = x at *
          go_wp2_with fail
          exact ⟨HQ.out, by simp [intOf]; omega⟩
        · obtain rfl : pl = i := by omega
          have HF := Lib.hid (HQQ.out ((fill L)) wr HLX3.out (hW.take 2) hb)
          clear hW hb HQQ hob
          go_wp2_with fail
          exact HF.out
  exact absurd HK.out h2
end Go.Proofs.Ytggpdkcmihgdeaa
