/-
  The law BitsWrites walked: a round that puts.
-/
import Derived.Test.YtggpdkcmihgdeaaWrites0
namespace Go.Proofs.Ytggpdkcmihgdeaa
open Go.RowKit Bt
set_option maxRecDepth 100000 in
set_option maxHeartbeats 16000000 in
theorem leaf0 (k : Nat) (hk4 : k = 0) : Leaf.1 k := by
  subst hk4
  delta Leaf
  dsimp only
  set_option tactic.hygienic false in intros
  by_cases h0 : what = 0
  · subst h0
    by_cases hf : fits N m
    · obtain ⟨k, rfl, hk57, hkf⟩ := fits_nat hf
      have HKF := Lib.hid hkf
      have HLX : Hid (((L ++ bitsN N k)).length ≤ L.length + 200) := Lib.hid (by simp [bitsN_length]; omega)
      clear hf hkf
      go_wp2_with fail
      generalize wr.alloc (.cells #[.int .i64 0, .int .i64 (k : Int), .int .u64 (N : Int), .slice pb lb cb] 32) = w5 at *
      generalize wr.heap.size = gx at *
      have hbx1 : w5.cell? ⟨gx, 1, none⟩ = some (.int .i64 (k : Int)) := HW5.out.box 2 gx _ 32 rfl 1
      have hbx2 : w5.cell? ⟨gx, 2, none⟩ = some (.int .u64 (N : Int)) := HW5.out.box 2 gx _ 32 rfl 2
      have HW5d := Lib.hid HW5.out.drew
      have HB5d : Hid (Below w.heap.size w w5.drew) := Lib.hid (HB5.out.trans ⟨rfl, rfl, rfl, Nat.le_refl _, fun _ _ => rfl⟩)
      clear HW5 HB5
      go_region_held3 (fun w' => w'.cell? ⟨gx, 1, none⟩ = some (.int .i64 (k : Int)) ∧ w'.cell? ⟨gx, 2, none⟩ = some (.int .u64 (N : Int)))
        (first | go_keep | (refine ⟨?_, ?_⟩ <;> assumption))
        (first
          | (go_at_call 10; refine (ws_put HW5d.out 0 g L N k rfl (by have := HLL.out; omega) HN0.out hk57 HKF.out).mono ?_; rintro e wp ⟨rfl, hWp, hbp⟩; have zp1 : wp.cell? ⟨gx, 1, none⟩ = some (.int .i64 (k : Int)) := hWp.box 2 gx _ 32 rfl 1; have zp2 : wp.cell? ⟨gx, 2, none⟩ = some (.int .u64 (N : Int)) := hWp.box 2 gx _ 32 rfl 2; have HWp := Lib.hid hWp; have HBp := Lib.hid (HB5d.out.trans hbp); clear hWp hbp)
          | (go_at_call 10; refine (ws_put HWp.out 0 g L N k rfl (by have := HLL.out; omega) HN0.out hk57 HKF.out).mono ?_; rintro e wq ⟨rfl, hWq, hbq⟩; have zq1 : wq.cell? ⟨gx, 1, none⟩ = some (.int .i64 (k : Int)) := hWq.box 2 gx _ 32 rfl 1; have zq2 : wq.cell? ⟨gx, 2, none⟩ = some (.int .u64 (N : Int)) := hWq.box 2 gx _ 32 rfl 2; have HWq := Lib.hid hWq; have HBq := Lib.hid (HBp.out.trans hbq); clear hWq hbq)
          | (go_at_call 11; refine (ws_rput HW5d.out 1 N k rfl (by have := HLL.out; omega) HN0.out hk57 HKF.out).mono ?_; rintro e wp ⟨rfl, hWp, hbp⟩; have zp1 : wp.cell? ⟨gx, 1, none⟩ = some (.int .i64 (k : Int)) := hWp.box 2 gx _ 32 rfl 1; have zp2 : wp.cell? ⟨gx, 2, none⟩ = some (.int .u64 (N : Int)) := hWp.box 2 gx _ 32 rfl 2; have HWp := Lib.hid hWp; have HBp := Lib.hid (HB5d.out.trans hbp); clear hWp hbp)
          | (go_at_call 11; refine (ws_rput HWp.out 1 N k rfl (by have := HLL.out; omega) HN0.out hk57 HKF.out).mono ?_; rintro e wq ⟨rfl, hWq, hbq⟩; have zq1 : wq.cell? ⟨gx, 1, none⟩ = some (.int .i64 (k : Int)) := hWq.box 2 gx _ 32 rfl 1; have zq2 : wq.cell? ⟨gx, 2, none⟩ = some (.int .u64 (N : Int)) := hWq.box 2 gx _ 32 rfl 2; have HWq := Lib.hid hWq; have HBq := Lib.hid (HBp.out.trans hbq); clear hWq hbq))
      all_goals
        have HWn : Hid (Ws w.heap.size wq [.wr g (L ++ bitsN N k), .row g3 (L ++ bitsN N k) 0, .box gx #[.int .i64 0, .int .i64 (k : Int), .int .u64 (N : Int), .slice pb lb cb] 32]) := Lib.hid HWq.out
        have HBn := Lib.hid HBq.out
        clear HWq HBq HWp HBp HW5d HB5d zp1 zp2 zq1 zq2 hbx1 hbx2
        go_wp2_with fail
        refine (ws_done HWn.out 0 g (L ++ bitsN N k) rfl (by have := HLX.out; have := HLL.out; omega)).mono ?_
        rintro e wd ⟨pd, cd, rfl, hW, hb⟩
        have HWd := Lib.hid hW
        have HBd := Lib.hid (HBn.out.trans hb)
        clear hW hb HWn HBn c0 c1 c2 c3
        obtain ⟨pr, cr, hrc⟩ := row_cell HWd.out 1 rfl
        have hb1 : wd.cell? ⟨gx, 1, none⟩ = some (.int .i64 (k : Int)) := HWd.out.box 2 gx _ 32 rfl 1
        have hb2 : wd.cell? ⟨gx, 2, none⟩ = some (.int .u64 (N : Int)) := HWd.out.box 2 gx _ 32 rfl 2
        have HLX2 : Hid ((L ++ bitsN N k).length ≤ 1099511627) := Lib.hid (by have := HLX.out; have := HLL.out; omega)
        have HLX3 : Hid ((L ++ bitsN N k).length ≤ L.length + 200) := Lib.hid HLX.out
        obtain ⟨pl, hpl⟩ : ∃ pl, pl = (pack (L ++ bitsN N k)).length := ⟨_, rfl⟩
        have hpb : pl ≤ 1099511627 := by rw [hpl, pack_length]; have := HLX2.out; omega
        rw [← hpl] at HWd ⊢
        have HPL := Lib.hid hpl.symm
        clear hpl
        obtain ⟨lx, hlx⟩ : ∃ lx, lx = (L ++ bitsN N k).length := ⟨_, rfl⟩
        rw [← hlx] at hrc
        have HLXX := Lib.hid hlx
        clear hlx
        go_wp2_with fail
        go_region_held3 (fun w' => w'.cell? ⟨gx, 1, none⟩ = some (.int .i64 (k : Int)) ∧ w'.cell? ⟨gx, 2, none⟩ = some (.int .u64 (N : Int)) ∧ w'.cell? ⟨g3, 0, none⟩ = some (.slice pr lx cr))
          (first | go_keep | (refine ⟨?_, ?_, ?_⟩ <;> assumption))
          (first
            | (go_at_call 20; refine (ws_len HWd.out.drew 0 g (L ++ bitsN N k) rfl).mono ?_; rintro e w' ⟨rfl, rfl⟩; rw [← HLXX.out])
            | (go_at_call 22; refine (ws_rdone2 HWd.out.drew 1 rfl HLX2.out).mono ?_; rintro e wq ⟨p2, cap2, rfl, hWq, hbq⟩; have hbq2 : Below wd.heap.size wd wq := drew_below hbq (Nat.le_refl _); have k1 : wq.cell? ⟨gx, 1, none⟩ = some (.int .i64 (k : Int)) := (hbq2.cell (p := ⟨gx, 1, none⟩) (block_lt_of_cell hb1)).trans hb1; have k2 : wq.cell? ⟨gx, 2, none⟩ = some (.int .u64 (N : Int)) := (hbq2.cell (p := ⟨gx, 2, none⟩) (block_lt_of_cell hb2)).trans hb2; have k3 : wq.cell? ⟨g3, 0, none⟩ = some (.slice pr lx cr) := (hbq2.cell (p := ⟨g3, 0, none⟩) (block_lt_of_cell hrc)).trans hrc; have HWq := Lib.hid hWq; have HBq := Lib.hid (HBd.out.trans (hbq2.mono HBd.out.size)); clear hWq hbq hbq2)
            | (go_at_call 21; refine (equal_walk _ _ _ (pack (L ++ bitsN N k)) (pack (L ++ bitsN N k)) (HWq.out.sl 3 _ _ rfl) (HWq.out.sl 4 _ _ rfl)).mono ?_; rintro e w' ⟨rfl, rfl⟩; rw [show (pack (L ++ bitsN N k) == pack (L ++ bitsN N k)) = true from beq_self_eq_true _])
            | (go_at_call 23; refine (reverse_walk N ((k : Int)) _ HN0.out).mono ?_; rintro e w' ⟨rfl, rfl⟩)
            | (go_at_call 24; refine (revref _ N ((k : Int)) HN0.out).mono ?_; rintro e wz ⟨rfl, hbz⟩; have z1 : wz.cell? ⟨gx, 1, none⟩ = some (.int .i64 (k : Int)) := (hbz.cell (p := ⟨gx, 1, none⟩) (block_lt_of_cell k1)).trans k1; have z2 : wz.cell? ⟨gx, 2, none⟩ = some (.int .u64 (N : Int)) := (hbz.cell (p := ⟨gx, 2, none⟩) (block_lt_of_cell k2)).trans k2; have z3 : wz.cell? ⟨g3, 0, none⟩ = some (.slice pr lx cr) := (hbz.cell (p := ⟨g3, 0, none⟩) (block_lt_of_cell k3)).trans k3; have HWz := Lib.hid (HWq.out.later hbz); have HBz := Lib.hid (HBq.out.trans (hbz.mono HBq.out.size)); clear hbz))
        all_goals
          go_wp2_with fail
          have HWe : Hid (Ws w.heap.size wz ([.wr g (L ++ bitsN N k), .row g3 (L ++ bitsN N k) 0, .box gx #[.int .i64 0, .int .i64 (k : Int), .int .u64 (N : Int), .slice pb lb cb] 32] ++ [.sl (.slice pd pl cd) (pack (L ++ bitsN N k))])) := Lib.hid (HWz.out.take 4)
          have HBe := Lib.hid HBz.out
          clear HWz HBz
          go_loopw [13, 128] (fun _ v wr => XorRel2 w [.wr g (L ++ bitsN N k), .row g3 (L ++ bitsN N k) 0, .box gx #[.int .i64 0, .int .i64 (k : Int), .int .u64 (N : Int), .slice pb lb cb] 32] (.slice pd pl cd) pl v wr) (fun _ v _ => pl - (intOf v).toNat)
          case atStart => exact ⟨0, Nat.zero_le _, rfl, pack (L ++ bitsN N k), HPL.out, HWe.out, HBe.out⟩
          case round =>
            clear HWe HBe
            obtain ⟨i, hi, rfl, ob, hob, hW, hb⟩ := hrel
            by_cases hlt : i < pl
            · have hii : (i : Int) < (pl : Int) := by omega
              obtain ⟨gd, cc, e1, hc, hf, hset⟩ := hW.setb 3 _ ob rfl i (by rw [hob]; exact hlt)
              obtain ⟨rfl, rfl⟩ : pd = some ⟨gd, 0, none⟩ ∧ cd = cc := by
                have := Value.slice.inj e1
                exact ⟨this.1, this.2.2⟩
              obtain ⟨y, hy⟩ : ∃ y, y = ob.getD i 0 ^^^ 255 := ⟨_, rfl⟩
              have hxx : bits .xor .u8 (bi (ob.getD i 0)) 255 = bi y := by
                have := u8_xor_nat (ob.getD i 0).toNat 255 (UInt8.toNat_lt _) (by decide)
                rw [hy]; unfold bi; rw [UInt8.toNat_xor]; exact this
              have HQ : Hid (XorRel2 w [.wr g (L ++ bitsN N k), .row g3 (L ++ bitsN N k) 0, .box gx #[.int .i64 0, .int .i64 (k : Int), .int .u64 (N : Int), .slice pb lb cb] 32] (.slice (some ⟨gd, 0, none⟩) pl cd) pl (.int .i64 ((i : Int) + 1)) (wr.setCell ⟨gd, i, none⟩ (.int .u8 (bi y)))) := Lib.hid ⟨i + 1, hlt, by go_num, ob.set i y, by rw [List.length_set, hob], (hset y).1, hb.trans (hset y).2⟩
              clear e1 hset hW hb hy hob
              generalize ob.getD i 0 = x at *
              go_wp2_with fail
              exact ⟨HQ.out, by simp [intOf]; omega⟩
            · obtain rfl : pl = i := by omega
              have HF := Lib.hid (HQQ.out ((L ++ bitsN N k)) wr HLX3.out (hW.take 2) hb)
              clear hW hb HQQ hob
              go_wp2_with fail
              exact HF.out
    · have HF0 := Lib.hid hf
      have HLX : Hid (L.length ≤ L.length + 200) := Lib.hid (by omega)
      clear hf
      go_wp2_with fail
      generalize wr.alloc (.cells #[.int .i64 0, .int .i64 m, .int .u64 (N : Int), .slice pb lb cb] 32) = w5 at *
      generalize wr.heap.size = gx at *
      have hbx1 : w5.cell? ⟨gx, 1, none⟩ = some (.int .i64 m) := HW5.out.box 2 gx _ 32 rfl 1
      have hbx2 : w5.cell? ⟨gx, 2, none⟩ = some (.int .u64 (N : Int)) := HW5.out.box 2 gx _ 32 rfl 2
      have HW5d := Lib.hid HW5.out.drew
      have HB5d : Hid (Below w.heap.size w w5.drew) := Lib.hid (HB5.out.trans ⟨rfl, rfl, rfl, Nat.le_refl _, fun _ _ => rfl⟩)
      clear HW5 HB5
      go_region_held3 (fun w' => w'.cell? ⟨gx, 1, none⟩ = some (.int .i64 m) ∧ w'.cell? ⟨gx, 2, none⟩ = some (.int .u64 (N : Int)))
        (first | go_keep | (refine ⟨?_, ?_⟩ <;> assumption))
        (first
          | (go_at_call 10; refine (ws_eq HW5d.out (ws_put_no HW5d.out 0 g L N m rfl HF0.out)).mono ?_; rintro e wp ⟨rfl, hWp, hbp⟩; have zp1 : wp.cell? ⟨gx, 1, none⟩ = some (.int .i64 m) := hWp.box 2 gx _ 32 rfl 1; have zp2 : wp.cell? ⟨gx, 2, none⟩ = some (.int .u64 (N : Int)) := hWp.box 2 gx _ 32 rfl 2; have HWp := Lib.hid hWp; have HBp := Lib.hid (HB5d.out.trans hbp); clear hWp hbp)
          | (go_at_call 10; refine (ws_eq HWp.out (ws_put_no HWp.out 0 g L N m rfl HF0.out)).mono ?_; rintro e wq ⟨rfl, hWq, hbq⟩; have zq1 : wq.cell? ⟨gx, 1, none⟩ = some (.int .i64 m) := hWq.box 2 gx _ 32 rfl 1; have zq2 : wq.cell? ⟨gx, 2, none⟩ = some (.int .u64 (N : Int)) := hWq.box 2 gx _ 32 rfl 2; have HWq := Lib.hid hWq; have HBq := Lib.hid (HBp.out.trans hbq); clear hWq hbq)
          | (go_at_call 11; refine (ws_below HW5d.out (rput_no _ g3 N m HN0.out HF0.out)).mono ?_; rintro e wp ⟨rfl, hWp, hbp⟩; have zp1 : wp.cell? ⟨gx, 1, none⟩ = some (.int .i64 m) := hWp.box 2 gx _ 32 rfl 1; have zp2 : wp.cell? ⟨gx, 2, none⟩ = some (.int .u64 (N : Int)) := hWp.box 2 gx _ 32 rfl 2; have HWp := Lib.hid hWp; have HBp := Lib.hid (HB5d.out.trans hbp); clear hWp hbp)
          | (go_at_call 11; refine (ws_below HWp.out (rput_no _ g3 N m HN0.out HF0.out)).mono ?_; rintro e wq ⟨rfl, hWq, hbq⟩; have zq1 : wq.cell? ⟨gx, 1, none⟩ = some (.int .i64 m) := hWq.box 2 gx _ 32 rfl 1; have zq2 : wq.cell? ⟨gx, 2, none⟩ = some (.int .u64 (N : Int)) := hWq.box 2 gx _ 32 rfl 2; have HWq := Lib.hid hWq; have HBq := Lib.hid (HBp.out.trans hbq); clear hWq hbq))
      all_goals
        have HWn : Hid (Ws w.heap.size wq [.wr g L, .row g3 L 0, .box gx #[.int .i64 0, .int .i64 m, .int .u64 (N : Int), .slice pb lb cb] 32]) := Lib.hid HWq.out
        have HBn := Lib.hid HBq.out
        clear HWq HBq HWp HBp HW5d HB5d zp1 zp2 zq1 zq2 hbx1 hbx2
        go_wp2_with fail
        refine (ws_done HWn.out 0 g L rfl (by have := HLX.out; have := HLL.out; omega)).mono ?_
        rintro e wd ⟨pd, cd, rfl, hW, hb⟩
        have HWd := Lib.hid hW
        have HBd := Lib.hid (HBn.out.trans hb)
        clear hW hb HWn HBn c0 c1 c2 c3
        obtain ⟨pr, cr, hrc⟩ := row_cell HWd.out 1 rfl
        have hb1 : wd.cell? ⟨gx, 1, none⟩ = some (.int .i64 m) := HWd.out.box 2 gx _ 32 rfl 1
        have hb2 : wd.cell? ⟨gx, 2, none⟩ = some (.int .u64 (N : Int)) := HWd.out.box 2 gx _ 32 rfl 2
        have HLX2 : Hid (L.length ≤ 1099511627) := Lib.hid (by have := HLX.out; have := HLL.out; omega)
        have HLX3 : Hid (L.length ≤ L.length + 200) := Lib.hid HLX.out
        obtain ⟨pl, hpl⟩ : ∃ pl, pl = (pack L).length := ⟨_, rfl⟩
        have hpb : pl ≤ 1099511627 := by rw [hpl, pack_length]; have := HLX2.out; omega
        rw [← hpl] at HWd ⊢
        have HPL := Lib.hid hpl.symm
        clear hpl
        obtain ⟨lx, hlx⟩ : ∃ lx, lx = L.length := ⟨_, rfl⟩
        rw [← hlx] at hrc
        have HLXX := Lib.hid hlx
        clear hlx
        go_wp2_with fail
        go_region_held3 (fun w' => w'.cell? ⟨gx, 1, none⟩ = some (.int .i64 m) ∧ w'.cell? ⟨gx, 2, none⟩ = some (.int .u64 (N : Int)) ∧ w'.cell? ⟨g3, 0, none⟩ = some (.slice pr lx cr))
          (first | go_keep | (refine ⟨?_, ?_, ?_⟩ <;> assumption))
          (first
            | (go_at_call 20; refine (ws_len HWd.out.drew 0 g L rfl).mono ?_; rintro e w' ⟨rfl, rfl⟩; rw [← HLXX.out])
            | (go_at_call 22; refine (ws_rdone2 HWd.out.drew 1 rfl HLX2.out).mono ?_; rintro e wq ⟨p2, cap2, rfl, hWq, hbq⟩; have hbq2 : Below wd.heap.size wd wq := drew_below hbq (Nat.le_refl _); have k1 : wq.cell? ⟨gx, 1, none⟩ = some (.int .i64 m) := (hbq2.cell (p := ⟨gx, 1, none⟩) (block_lt_of_cell hb1)).trans hb1; have k2 : wq.cell? ⟨gx, 2, none⟩ = some (.int .u64 (N : Int)) := (hbq2.cell (p := ⟨gx, 2, none⟩) (block_lt_of_cell hb2)).trans hb2; have k3 : wq.cell? ⟨g3, 0, none⟩ = some (.slice pr lx cr) := (hbq2.cell (p := ⟨g3, 0, none⟩) (block_lt_of_cell hrc)).trans hrc; have HWq := Lib.hid hWq; have HBq := Lib.hid (HBd.out.trans (hbq2.mono HBd.out.size)); clear hWq hbq hbq2)
            | (go_at_call 21; refine (equal_walk _ _ _ (pack L) (pack L) (HWq.out.sl 3 _ _ rfl) (HWq.out.sl 4 _ _ rfl)).mono ?_; rintro e w' ⟨rfl, rfl⟩; rw [show (pack L == pack L) = true from beq_self_eq_true _])
            | (go_at_call 23; refine (reverse_walk N (m) _ HN0.out).mono ?_; rintro e w' ⟨rfl, rfl⟩)
            | (go_at_call 24; refine (revref _ N (m) HN0.out).mono ?_; rintro e wz ⟨rfl, hbz⟩; have z1 : wz.cell? ⟨gx, 1, none⟩ = some (.int .i64 m) := (hbz.cell (p := ⟨gx, 1, none⟩) (block_lt_of_cell k1)).trans k1; have z2 : wz.cell? ⟨gx, 2, none⟩ = some (.int .u64 (N : Int)) := (hbz.cell (p := ⟨gx, 2, none⟩) (block_lt_of_cell k2)).trans k2; have z3 : wz.cell? ⟨g3, 0, none⟩ = some (.slice pr lx cr) := (hbz.cell (p := ⟨g3, 0, none⟩) (block_lt_of_cell k3)).trans k3; have HWz := Lib.hid (HWq.out.later hbz); have HBz := Lib.hid (HBq.out.trans (hbz.mono HBq.out.size)); clear hbz))
        all_goals
          go_wp2_with fail
          have HWe : Hid (Ws w.heap.size wz ([.wr g L, .row g3 L 0, .box gx #[.int .i64 0, .int .i64 m, .int .u64 (N : Int), .slice pb lb cb] 32] ++ [.sl (.slice pd pl cd) (pack L)])) := Lib.hid (HWz.out.take 4)
          have HBe := Lib.hid HBz.out
          clear HWz HBz
          go_loopw [13, 128] (fun _ v wr => XorRel2 w [.wr g L, .row g3 L 0, .box gx #[.int .i64 0, .int .i64 m, .int .u64 (N : Int), .slice pb lb cb] 32] (.slice pd pl cd) pl v wr) (fun _ v _ => pl - (intOf v).toNat)
          case atStart => exact ⟨0, Nat.zero_le _, rfl, pack L, HPL.out, HWe.out, HBe.out⟩
          case round =>
            clear HWe HBe
            obtain ⟨i, hi, rfl, ob, hob, hW, hb⟩ := hrel
            by_cases hlt : i < pl
            · have hii : (i : Int) < (pl : Int) := by omega
              obtain ⟨gd, cc, e1, hc, hf, hset⟩ := hW.setb 3 _ ob rfl i (by rw [hob]; exact hlt)
              obtain ⟨rfl, rfl⟩ : pd = some ⟨gd, 0, none⟩ ∧ cd = cc := by
                have := Value.slice.inj e1
                exact ⟨this.1, this.2.2⟩
              obtain ⟨y, hy⟩ : ∃ y, y = ob.getD i 0 ^^^ 255 := ⟨_, rfl⟩
              have hxx : bits .xor .u8 (bi (ob.getD i 0)) 255 = bi y := by
                have := u8_xor_nat (ob.getD i 0).toNat 255 (UInt8.toNat_lt _) (by decide)
                rw [hy]; unfold bi; rw [UInt8.toNat_xor]; exact this
              have HQ : Hid (XorRel2 w [.wr g L, .row g3 L 0, .box gx #[.int .i64 0, .int .i64 m, .int .u64 (N : Int), .slice pb lb cb] 32] (.slice (some ⟨gd, 0, none⟩) pl cd) pl (.int .i64 ((i : Int) + 1)) (wr.setCell ⟨gd, i, none⟩ (.int .u8 (bi y)))) := Lib.hid ⟨i + 1, hlt, by go_num, ob.set i y, by rw [List.length_set, hob], (hset y).1, hb.trans (hset y).2⟩
              clear e1 hset hW hb hy hob
              generalize ob.getD i 0 = x at *
              go_wp2_with fail
              exact ⟨HQ.out, by simp [intOf]; omega⟩
            · obtain rfl : pl = i := by omega
              have HF := Lib.hid (HQQ.out (L) wr HLX3.out (hW.take 2) hb)
              clear hW hb HQQ hob
              go_wp2_with fail
              exact HF.out
  exact absurd HK.out h0
end Go.Proofs.Ytggpdkcmihgdeaa
