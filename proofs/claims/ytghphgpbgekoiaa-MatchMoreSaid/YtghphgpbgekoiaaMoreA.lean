/-
  MatchMore: the law's walk.
-/
import Derived.Test.YtghphgpbgekoiaaBestOf
namespace Go.Proofs.Ytghphgpbgekoiaa
open Go.RowKit
/-- What is found, as a block. -/
theorem block3 {w w1 w2 : World} {x y : Int} (h1 : w1 = w.alloc (.cells #[.int .i64 x, .int .i64 y, .int .u8 0] 32)) (hb : Below w1.heap.size w1 w2) :
    w2.cell? ⟨w.heap.size, 0, none⟩ = some (.int .i64 x) ∧ w2.cell? ⟨w.heap.size, 1, none⟩ = some (.int .i64 y) := by
  subst h1
  have h := heap_alloc_new w (.cells #[.int .i64 x, .int .i64 y, .int .u8 0] 32)
  have h2 := (hb.block _ (Array.getElem?_eq_some_iff.1 h).1).trans h
  exact ⟨(row3 h2).1, (row3 h2).2.1⟩
set_option maxRecDepth 100000 in
set_option maxHeartbeats 8000000 in
theorem more_walkA (w : World) (v : Value) (b0 : List UInt8) (a c : Int) (hv : SlV w v (bl b0)) (ha : 0 ≤ a ∧ a < 65536) (hc : 0 ≤ c ∧ c < 256) (hz0 : min b0.length 300 ≠ 0)
    (hcase : ∀ k dd : Nat, a % ((min b0.length 300 : Nat) : Int) = (k : Int) → c % 16 = (dd : Int) → (fun x y : Nat × Nat => 0 < x.1 ∧ x.1 = y.1) (Mt.best (b0.take (min b0.length 300)) k (1 + (dd : Int)).toNat) (Mt.best (b0.take (min b0.length 300)) k (2 + (dd : Int)).toNat)) :
    Calls Try.prog 5 #[v, .int .u16 a, .int .u8 c] w fun e w' => e = .returned (.bool true) ∧ Below w.heap.size w w' := by
  obtain ⟨p, cap, rfl⟩ := hv.shape
  rw [bl_length] at *
  obtain ⟨n, hn⟩ : ∃ n, n = min b0.length 300 := ⟨_, rfl⟩
  rw [← hn] at hcase hz0
  have hmin : min (b0.length : Int) 300 = (n : Int) := by omega
  have hsl := to22 hv n (by omega)
  have hv2 := hv.take n (by omega)
  rw [bl_take] at hv2
  obtain ⟨b, hbb⟩ : ∃ b, b = b0.take n := ⟨_, rfl⟩
  have hbn : n = b.length := by rw [hbb, List.length_take]; omega
  rw [← hbb] at hv2 hcase
  have HCS := Lib.hid hcase
  clear hcase
  have hn300 : n ≤ 300 := by omega
  have HN := Lib.hid hbn
  have HV := Lib.hid hv2
  clear hv hv2 hbb hbn hn
  generalize b0.length = n0 at *
  go_enter Try.func5, Try.ntmps5
  · have hz : ¬ n = 0 := hz0
    have hz' : ((n : Int) == 0) = false := beq_eq_false_iff_ne.2 (by omega)
    have hkn : a % (n : Int) < (n : Int) := Int.emod_lt_of_pos _ (by omega)
    have hk0 : 0 ≤ a % (n : Int) := Int.emod_nonneg _ (by omega)
    obtain ⟨k, hk⟩ : ∃ k : Nat, a % (n : Int) = (k : Int) := ⟨(a % (n : Int)).toNat, by omega⟩
    obtain ⟨dd, hdd⟩ : ∃ dd : Nat, c % 16 = (dd : Int) := ⟨(c % 16).toNat, by omega⟩
    have hdd16 : dd < 16 := by omega
    have hkn : k < n := by omega
    have HBL : Hid (b.length ≤ 32768) := Lib.hid (by rw [← HN.out]; omega)
    have HOF : Hid (∀ d : Int, bestOf b (k : Int) d = Mt.best b k d.toNat) := Lib.hid (fun d => by unfold bestOf; rw [← HN.out, if_pos (by omega), Int.toNat_natCast])
    obtain ⟨f1, f2, hf⟩ : ∃ x y, Mt.best b k (1 + (dd : Int)).toNat = (x, y) := ⟨_, _, rfl⟩
    obtain ⟨m1, m2, hm⟩ : ∃ x y, Mt.best b k (2 + (dd : Int)).toNat = (x, y) := ⟨_, _, rfl⟩
    obtain ⟨a1, a2, ha3⟩ : ∃ x y, Mt.best b k (32768 : Int).toNat = (x, y) := ⟨_, _, rfl⟩
    have h12 := Mt.best_more b k (1 + (dd : Int)).toNat (2 + (dd : Int)).toNat (by omega)
    have h23 := Mt.best_more b k (2 + (dd : Int)).toNat (32768 : Int).toNat (by show _ ≤ 32768; omega)
    have hall := Mt.more_all b k (32768 : Int).toNat (by rw [← HN.out]; exact hkn) (by show k ≤ 32768; omega)
    rw [hf, hm] at h12
    rw [hm, ha3] at h23
    rw [ha3] at hall
    simp only at h12 h23 hall
    have HF := Lib.hid hf
    have HM := Lib.hid hm
    have HA := Lib.hid ha3
    have HALL := Lib.hid hall
    have HEQ : Hid (f1 = m1 → f2 = m2) := Lib.hid (fun e => by have := h12.2 e; injection this)
    have hfm : f1 ≤ m1 := h12.1
    have hcase := HCS.out k dd hk hdd
    rw [HF.out, HM.out] at hcase
    simp only at hcase
    have HCASE := Lib.hid hcase
    clear hcase
    have hma : m1 ≤ a1 := h23.1
    clear hf hm ha3 hall h12 h23
    have hb1 := Best_walk w _ b (k : Int) (1 + (dd : Int)) HV.out HBL.out (by omega)
    rw [HOF.out, HF.out] at hb1
    go_wp2_with fail
    refine hb1.mono ?_
    rintro e w1 ⟨rfl, hb1'⟩
    have HB1 := Lib.hid (hb1'.alloc hb1'.size (.cells #[.int .i64 (f1 : Int), .int .i64 (f2 : Int), .int .u8 0] 32))
    clear hb1 hb1'
    unfold stv stc
    have hb2 := Best_walk _ _ b (k : Int) (2 + (dd : Int)) (HV.out.below HB1.out (Nat.le_refl _)) HBL.out (by omega)
    rw [HOF.out, HM.out] at hb2
    go_wp2_with fail
    refine hb2.mono ?_
    rintro e w2 ⟨rfl, hb2'⟩
    have HC1 := Lib.hid (block3 rfl hb2')
    have HB2 := Lib.hid ((HB1.out.trans (hb2'.mono HB1.out.size)).alloc (Nat.le_trans HB1.out.size hb2'.size) (.cells #[.int .i64 (m1 : Int), .int .i64 (m2 : Int), .int .u8 0] 32))
    have HL1 : Hid (w1.heap.size < w2.heap.size) := Lib.hid (block_lt_of_cell HC1.out.1)
    clear hb2 hb2'
    unfold stv stc
    have hb3 := Best_walk _ _ b (k : Int) 32768 (HV.out.below HB2.out (Nat.le_refl _)) HBL.out (by omega)
    rw [HOF.out, HA.out] at hb3
    go_wp2_with fail
    refine hb3.mono ?_
    rintro e w3 ⟨rfl, hb3'⟩
    have HC2 := Lib.hid (block3 rfl hb3')
    have hx12 : Below w2.heap.size w2 w3 := ((Below.refl _ _).alloc (Nat.le_refl _) _).trans (hb3'.mono (by simp))
    have HC1 := Lib.hid (And.intro ((hx12.cell (p := ⟨w1.heap.size, 0, none⟩) HL1.out).trans HC1.out.1) ((hx12.cell (p := ⟨w1.heap.size, 1, none⟩) HL1.out).trans HC1.out.2))
    have HB3 := Lib.hid ((HB2.out.trans (hb3'.mono HB2.out.size)).alloc (Nat.le_trans HB2.out.size hb3'.size) (.cells #[.int .i64 (a1 : Int), .int .i64 (a2 : Int), .int .u8 0] 32))
    clear hb3 hb3' hx12
    unfold stv stc
    have hx : Below w3.heap.size w3 (w3.alloc (.cells #[.int .i64 (a1 : Int), .int .i64 (a2 : Int), .int .u8 0] 32)) := (Below.refl _ _).alloc (Nat.le_refl _) _
    have c10 := (hx.cell (block_lt_of_cell HC1.out.1)).trans HC1.out.1
    have c11 := (hx.cell (block_lt_of_cell HC1.out.2)).trans HC1.out.2
    have c20 := (hx.cell (block_lt_of_cell HC2.out.1)).trans HC2.out.1
    have c21 := (hx.cell (block_lt_of_cell HC2.out.2)).trans HC2.out.2
    obtain ⟨c30, c31, -⟩ := row3 (heap_alloc_new w3 (.cells #[.int .i64 (a1 : Int), .int .i64 (a2 : Int), .int .u8 0] 32))
    have hv5 := HV.out.below HB3.out (Nat.le_refl _)
    have hne1 : w1.heap.size ≠ w2.heap.size := Nat.ne_of_lt HL1.out
    clear HC1 HC2 HL1 HB1 HB2 hx
    have hf0 : 0 < f1 := HCASE.out.1
    have hm0 : 0 < m1 := by omega
    obtain rfl : m1 = f1 := HCASE.out.2.symm
    obtain rfl : f2 = m2 := HEQ.out rfl
    have hq1 : decide (a1 < m1) = false := decide_eq_false (by omega)
    have hq1' : decide ((a1 : Int) < (m1 : Int)) = false := decide_eq_false (by omega)
    go_wp2_with fail
    generalize w3.alloc (.cells #[.int .i64 (a1 : Int), .int .i64 (a2 : Int), .int .u8 0] 32) = w4 at *
    go_loopw [16, 17] (fun v16 v17 wr => ∃ t : Nat, t ≤ k ∧ v17 = .int .i64 ((t : Int) + 1) ∧ v16 = .int .i64 (Mt.longest b k t : Nat) ∧ ∃ j, wr = w4.drewN j) (fun _ v17 _ => k + 2 - (intOf v17).toNat)
    case atStart => exact ⟨0, Nat.zero_le _, rfl, rfl, 0, rfl⟩
    case round =>
      obtain ⟨t, ht, rfl, rfl, jj, rfl⟩ := hrel
      have hLm := Mt.longest_short b k t
      obtain ⟨L, hL⟩ : ∃ L, L = Mt.longest b k t := ⟨_, rfl⟩
      rw [← hL] at hLm ⊢
      have HLL := Lib.hid hL
      clear hL
      by_cases htk : t < k
      · have htki : (t : Int) + 1 ≤ (k : Int) := by omega
        go_wp2_with fail
        go_loopw [18] (fun v18 wx => ∃ i : Nat, i ≤ Mt.run b (k - (t + 1)) k (Mt.lim b k) ∧ v18 = .int .i64 i ∧ ∃ j, wx = w4.drewN j) (fun v18 _ => 300 - (intOf v18).toNat)
        case atStart => exact ⟨0, Nat.zero_le _, rfl, _, rfl⟩
        case round =>
          obtain ⟨i, hi, rfl, ii, rfl⟩ := hrel
          have hrm := Mt.run_le b (Mt.lim b k) (k - (t + 1)) k
          have hlm : Mt.lim b k = min 258 (n - k) := by unfold Mt.lim; rw [← HN.out]
          obtain ⟨g, o, rfl, hrow⟩ := hv5.some (by omega)
          have hcap := hv5.le
          have ht1 : ((k : Int) - ((t : Int) + 1) + (i : Int)).toNat = k - (t + 1) + i := by omega
          have ht2 : ((k : Int) + (i : Int)).toNat = k + i := by omega
          have hw1 : IntKind.i64.wrap ((k : Int) + (i : Int)) = (k : Int) + (i : Int) := IntWalk.i64_in _ (by omega)
          have hw2 : IntKind.i64.wrap ((k : Int) - ((t : Int) + 1)) = (k : Int) - ((t : Int) + 1) := IntWalk.i64_in _ (by omega)
          have hw3 : IntKind.i64.wrap ((k : Int) - ((t : Int) + 1) + (i : Int)) = (k : Int) - ((t : Int) + 1) + (i : Int) := IntWalk.i64_in _ (by omega)
          have hx1 : 0 ≤ (k : Int) + (i : Int) := by omega
          have hx2 : 0 ≤ (k : Int) - ((t : Int) + 1) + (i : Int) := by omega
          by_cases hir : i < Mt.run b (k - (t + 1)) k (Mt.lim b k)
          · have hy1 : (k : Int) + (i : Int) < (n : Int) := by omega
            have hy2 : (k : Int) - ((t : Int) + 1) + (i : Int) < (n : Int) := by omega
            have hy3 : (i : Int) < 258 := by omega
            have hck := hrow.bl (k + i) (by rw [← HN.out]; omega)
            have hcq := hrow.bl (k - (t + 1) + i) (by rw [← HN.out]; omega)
            have hbe : (bi (Mt.byt b (k - (t + 1) + i)) == bi (Mt.byt b (k + i))) = true := by rw [Mt.run_eq b _ _ _ i hir]; simp
            clear hrow
            go_wp2_with fail
            go_quiet (fail)
            go_wp2_with fail
            refine ⟨⟨i + 1, hir, ?_, _, rfl⟩, ?_⟩
            · go_num
            · simp only [intOf]; omega
          · have HRI : Hid (Mt.run b (k - (t + 1)) k (Mt.lim b k) = i) := Lib.hid (by omega)
            by_cases hkn2 : k + i < n
            · have hy1 : (k : Int) + (i : Int) < (n : Int) := by omega
              by_cases hi258 : i < 258
              · have hy2 : (k : Int) - ((t : Int) + 1) + (i : Int) < (n : Int) := by omega
                have hy3 : (i : Int) < 258 := by omega
                have hck := hrow.bl (k + i) (by rw [← HN.out]; omega)
                have hcq := hrow.bl (k - (t + 1) + i) (by rw [← HN.out]; omega)
                have hbe : (bi (Mt.byt b (k - (t + 1) + i)) == bi (Mt.byt b (k + i))) = false := by
                  have h9 := Mt.run_ne b (Mt.lim b k) (k - (t + 1)) k (by rw [HRI.out, hlm]; omega)
                  rw [HRI.out] at h9
                  exact beq_eq_false_iff_ne.2 (fun e => h9 (bi_inj.1 e))
                clear hrow
                go_wp2_with fail
                go_quiet (fail)
                have hv16 : ∀ x : Nat, x = max L i → Value.int .i64 (x : Int) = .int .i64 ((Mt.longest b k (t + 1) : Nat) : Int) := fun x hx => by
                  rw [show Mt.longest b k (t + 1) = max L i by show max (Mt.longest b k t) (Mt.run b (k - (t + 1)) k (Mt.lim b k)) = _; rw [← HLL.out, HRI.out], hx]
                by_cases hil : L < i
                · by_cases hi3 : 3 ≤ i
                  · by_cases hia : i = a1
                    · obtain rfl : a1 = i := hia.symm
                      have haf : a2 ≤ t + 1 := HALL.out.2 (t + 1) (by omega) (by omega) (by rw [HRI.out]; exact hi3) HRI.out
                      go_wp2_with fail
                      all_goals (
                        refine ⟨?_, ?_⟩
                        · first
                            | exact ⟨t + 1, by omega, by go_num, hv16 _ (by omega), _, rfl⟩
                            | ((repeat (apply Exists.intro)); refine And.symm ⟨?_, ?_⟩; (first | rfl | (repeat' (first | rfl | apply And.intro))); exact ⟨t + 1, by omega, by go_num, hv16 _ (by omega), _, rfl⟩)
                        · (simp only [intOf]; try omega))
                    · have hia' : ((i : Int) == (a1 : Int)) = false := beq_eq_false_iff_ne.2 (by omega)
                      go_wp2_with fail
                      all_goals (
                        refine ⟨?_, ?_⟩
                        · first
                            | exact ⟨t + 1, by omega, by go_num, hv16 _ (by omega), _, rfl⟩
                            | ((repeat (apply Exists.intro)); refine And.symm ⟨?_, ?_⟩; (first | rfl | (repeat' (first | rfl | apply And.intro))); exact ⟨t + 1, by omega, by go_num, hv16 _ (by omega), _, rfl⟩)
                        · (simp only [intOf]; try omega))
                  · go_wp2_with fail
                    all_goals (
                      refine ⟨?_, ?_⟩
                      · first
                          | exact ⟨t + 1, by omega, by go_num, hv16 _ (by omega), _, rfl⟩
                          | ((repeat (apply Exists.intro)); refine And.symm ⟨?_, ?_⟩; (first | rfl | (repeat' (first | rfl | apply And.intro))); exact ⟨t + 1, by omega, by go_num, hv16 _ (by omega), _, rfl⟩)
                      · (simp only [intOf]; try omega))
                · go_wp2_with fail
                  all_goals (
                    refine ⟨?_, ?_⟩
                    · first
                        | exact ⟨t + 1, by omega, by go_num, hv16 _ (by omega), _, rfl⟩
                        | ((repeat (apply Exists.intro)); refine And.symm ⟨?_, ?_⟩; (first | rfl | (repeat' (first | rfl | apply And.intro))); exact ⟨t + 1, by omega, by go_num, hv16 _ (by omega), _, rfl⟩)
                    · (simp only [intOf]; try omega))
              · have hy3 : decide ((i : Int) < 258) = false := decide_eq_false (by omega)
                have hy4 : decide (i < 258) = false := decide_eq_false (by omega)
                clear hrow
                go_wp2_with fail
                go_quiet (fail)
                have hv16 : ∀ x : Nat, x = max L i → Value.int .i64 (x : Int) = .int .i64 ((Mt.longest b k (t + 1) : Nat) : Int) := fun x hx => by
                  rw [show Mt.longest b k (t + 1) = max L i by show max (Mt.longest b k t) (Mt.run b (k - (t + 1)) k (Mt.lim b k)) = _; rw [← HLL.out, HRI.out], hx]
                by_cases hil : L < i
                · by_cases hi3 : 3 ≤ i
                  · by_cases hia : i = a1
                    · obtain rfl : a1 = i := hia.symm
                      have haf : a2 ≤ t + 1 := HALL.out.2 (t + 1) (by omega) (by omega) (by rw [HRI.out]; exact hi3) HRI.out
                      go_wp2_with fail
                      all_goals (
                        refine ⟨?_, ?_⟩
                        · first
                            | exact ⟨t + 1, by omega, by go_num, hv16 _ (by omega), _, rfl⟩
                            | ((repeat (apply Exists.intro)); refine And.symm ⟨?_, ?_⟩; (first | rfl | (repeat' (first | rfl | apply And.intro))); exact ⟨t + 1, by omega, by go_num, hv16 _ (by omega), _, rfl⟩)
                        · (simp only [intOf]; try omega))
                    · have hia' : ((i : Int) == (a1 : Int)) = false := beq_eq_false_iff_ne.2 (by omega)
                      go_wp2_with fail
                      all_goals (
                        refine ⟨?_, ?_⟩
                        · first
                            | exact ⟨t + 1, by omega, by go_num, hv16 _ (by omega), _, rfl⟩
                            | ((repeat (apply Exists.intro)); refine And.symm ⟨?_, ?_⟩; (first | rfl | (repeat' (first | rfl | apply And.intro))); exact ⟨t + 1, by omega, by go_num, hv16 _ (by omega), _, rfl⟩)
                        · (simp only [intOf]; try omega))
                  · go_wp2_with fail
                    all_goals (
                      refine ⟨?_, ?_⟩
                      · first
                          | exact ⟨t + 1, by omega, by go_num, hv16 _ (by omega), _, rfl⟩
                          | ((repeat (apply Exists.intro)); refine And.symm ⟨?_, ?_⟩; (first | rfl | (repeat' (first | rfl | apply And.intro))); exact ⟨t + 1, by omega, by go_num, hv16 _ (by omega), _, rfl⟩)
                      · (simp only [intOf]; try omega))
                · go_wp2_with fail
                  all_goals (
                    refine ⟨?_, ?_⟩
                    · first
                        | exact ⟨t + 1, by omega, by go_num, hv16 _ (by omega), _, rfl⟩
                        | ((repeat (apply Exists.intro)); refine And.symm ⟨?_, ?_⟩; (first | rfl | (repeat' (first | rfl | apply And.intro))); exact ⟨t + 1, by omega, by go_num, hv16 _ (by omega), _, rfl⟩)
                    · (simp only [intOf]; try omega))
            · have hy1 : decide ((k : Int) + (i : Int) < (n : Int)) = false := decide_eq_false (by omega)
              have hy4 : decide (k + i < n) = false := decide_eq_false (by omega)
              clear hrow
              go_wp2_with fail
              go_quiet (fail)
              have hv16 : ∀ x : Nat, x = max L i → Value.int .i64 (x : Int) = .int .i64 ((Mt.longest b k (t + 1) : Nat) : Int) := fun x hx => by
                rw [show Mt.longest b k (t + 1) = max L i by show max (Mt.longest b k t) (Mt.run b (k - (t + 1)) k (Mt.lim b k)) = _; rw [← HLL.out, HRI.out], hx]
              by_cases hil : L < i
              · by_cases hi3 : 3 ≤ i
                · by_cases hia : i = a1
                  · obtain rfl : a1 = i := hia.symm
                    have haf : a2 ≤ t + 1 := HALL.out.2 (t + 1) (by omega) (by omega) (by rw [HRI.out]; exact hi3) HRI.out
                    go_wp2_with fail
                    all_goals (
                      refine ⟨?_, ?_⟩
                      · first
                          | exact ⟨t + 1, by omega, by go_num, hv16 _ (by omega), _, rfl⟩
                          | ((repeat (apply Exists.intro)); refine And.symm ⟨?_, ?_⟩; (first | rfl | (repeat' (first | rfl | apply And.intro))); exact ⟨t + 1, by omega, by go_num, hv16 _ (by omega), _, rfl⟩)
                      · (simp only [intOf]; try omega))
                  · have hia' : ((i : Int) == (a1 : Int)) = false := beq_eq_false_iff_ne.2 (by omega)
                    go_wp2_with fail
                    all_goals (
                      refine ⟨?_, ?_⟩
                      · first
                          | exact ⟨t + 1, by omega, by go_num, hv16 _ (by omega), _, rfl⟩
                          | ((repeat (apply Exists.intro)); refine And.symm ⟨?_, ?_⟩; (first | rfl | (repeat' (first | rfl | apply And.intro))); exact ⟨t + 1, by omega, by go_num, hv16 _ (by omega), _, rfl⟩)
                      · (simp only [intOf]; try omega))
                · go_wp2_with fail
                  all_goals (
                    refine ⟨?_, ?_⟩
                    · first
                        | exact ⟨t + 1, by omega, by go_num, hv16 _ (by omega), _, rfl⟩
                        | ((repeat (apply Exists.intro)); refine And.symm ⟨?_, ?_⟩; (first | rfl | (repeat' (first | rfl | apply And.intro))); exact ⟨t + 1, by omega, by go_num, hv16 _ (by omega), _, rfl⟩)
                    · (simp only [intOf]; try omega))
              · go_wp2_with fail
                all_goals (
                  refine ⟨?_, ?_⟩
                  · first
                      | exact ⟨t + 1, by omega, by go_num, hv16 _ (by omega), _, rfl⟩
                      | ((repeat (apply Exists.intro)); refine And.symm ⟨?_, ?_⟩; (first | rfl | (repeat' (first | rfl | apply And.intro))); exact ⟨t + 1, by omega, by go_num, hv16 _ (by omega), _, rfl⟩)
                  · (simp only [intOf]; try omega))
      · obtain rfl : t = k := by omega
        have ha1 := HALL.out.1
        rw [← HLL.out] at ha1
        have HBF : Hid (Below w.heap.size w (w4.drewN jj)) := Lib.hid (below_drewN HB3.out jj)
        by_cases hL3 : 3 ≤ L
        · rw [if_pos hL3] at ha1
          subst ha1
          have hLp : 0 < a1 := by omega
          go_wp2_with fail
          refine (wakes_walk _).mono ?_
          rintro e w9 ⟨rfl, hb9⟩
          have HB9 := Lib.hid hb9
          clear hb9
          go_wp2_with fail
          go_ret
          exact ⟨rfl, bt HBF.out HB9.out⟩
        · rw [if_neg hL3] at ha1
          exfalso; omega
end Go.Proofs.Ytghphgpbgekoiaa
