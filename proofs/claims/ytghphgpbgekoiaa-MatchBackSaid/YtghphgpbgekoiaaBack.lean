/-
  MatchBack: the law's walk.
-/
import Derived.Test.YtghphgpbgekoiaaExpand
import Derived.Test.YtghphgpbgekoiaaBestOf
namespace Go.Proofs.Ytghphgpbgekoiaa
open Go.RowKit
theorem tells_at (b : List UInt8) (d : Nat) : ∀ (ss : List Mt.St) (k i : Nat) (h : i < ss.length), Mt.tells b d ss k → k + Mt.sizeL (ss.take i) < b.length ∧ (ss[i] = (0, 0, Mt.byt b (k + Mt.sizeL (ss.take i))) ∨
    (Mt.Mat b (k + Mt.sizeL (ss.take i)) (ss[i].1, ss[i].2.1) ∧ Mt.best b (k + Mt.sizeL (ss.take i)) d = (ss[i].1, ss[i].2.1) ∧ ss[i].2.2 = 0))
  | [], _, _, h, _ => by simp at h
  | s :: t, k, 0, _, h => ⟨h.1, h.2.1⟩
  | s :: t, k, i + 1, h, hk => by
    have := tells_at b d t (k + Mt.mk s) i (by simpa using h) hk.2.2
    have e : Mt.sizeL ((s :: t).take (i + 1)) = Mt.mk s + Mt.sizeL (t.take i) := rfl
    rw [e, ← Nat.add_assoc]; exact this
theorem part_eq (b : List UInt8) (k far long : Nat) (h : Mt.Mat b k (long, far)) (m : Nat) (hm : m ≤ long) : (b.drop (k - far)).take m = (b.drop k).take m := by
  have h1 := h.is
  have h2 := h.le
  have h3 := h.far
  simp only at h1 h2 h3
  unfold Mt.lim at h2
  apply List.ext_getElem
  · simp; omega
  · intro i hi1 hi2
    have him : i < m := by simp at hi1; omega
    have := Mt.run_eq b _ _ _ i (by rw [← h1]; show i < long; omega)
    simp only [List.getElem_take, List.getElem_drop]
    unfold Mt.byt at this
    rw [List.getD_eq_getElem?_getD, List.getD_eq_getElem?_getD, List.getElem?_eq_getElem (by omega), List.getElem?_eq_getElem (by omega)] at this
    exact this
set_option maxRecDepth 100000 in
set_option maxHeartbeats 8000000 in
theorem back_some (w : World) (v : Value) (b0 : List UInt8) (c : Int) (hv : SlV w v (bl b0)) (hc : 0 ≤ c ∧ c < 256) (hz0 : min b0.length 2000 ≠ 0) :
    Calls Try.prog 4 #[v, .int .u8 c] w fun e w' => e = .returned (.bool true) ∧ Below w.heap.size w w' := by
  obtain ⟨p, cap, rfl⟩ := hv.shape
  rw [bl_length] at *
  obtain ⟨n, hn⟩ : ∃ n, n = min b0.length 2000 := ⟨_, rfl⟩
  rw [← hn] at hz0
  have hmin : min (b0.length : Int) 2000 = (n : Int) := by omega
  have hsl := to22 hv n (by omega)
  have hv2 := hv.take n (by omega)
  rw [bl_take] at hv2
  obtain ⟨b, hbb⟩ : ∃ b, b = b0.take n := ⟨_, rfl⟩
  have hbn : n = b.length := by rw [hbb, List.length_take]; omega
  rw [← hbb] at hv2
  have hn2 : n ≤ 2000 := by omega
  have HN := Lib.hid hbn
  have HV := Lib.hid hv2
  clear hv hv2 hbb hbn hn
  generalize b0.length = n0 at *
  have HBL : Hid (b.length ≤ 32768) := Lib.hid (by rw [← HN.out]; omega)
  obtain ⟨D, hD⟩ : ∃ D : Nat, c + 1 = (D : Int) := ⟨(c + 1).toNat, by omega⟩
  have hD1 : 1 ≤ D ∧ D ≤ 256 := by omega
  obtain ⟨ss, hss⟩ : ∃ ss, ss = Mt.cutAt b D 0 := ⟨_, rfl⟩
  have htl : Mt.tells b D ss 0 := by rw [hss]; exact Mt.cut_tells b D b.length 0 (Nat.zero_le _) (by omega)
  have hok := Mt.tells_ok b D HBL.out ss 0 htl
  have hsz : Mt.sizeL ss = n := by have := Mt.tells_size b D ss 0 htl; rw [HN.out]; omega
  have hout : Mt.outL [] ss = b := by have := Mt.tells_out b D ss 0 htl; simpa using this
  have hsl2 : ss.length ≤ n := by have := Mt.tells_length b D ss 0 htl; rw [HN.out]; omega
  have HTL := Lib.hid htl
  have HOK := Lib.hid hok
  have HSZ := Lib.hid hsz
  have HOUT := Lib.hid hout
  have HCUT : Hid (∀ wx, Below w.heap.size w wx → Calls Try.prog 8 #[.slice p n cap, .int .i64 (D : Int)] wx fun e w' => ∃ u, e = .returned (.tuple #[u, .int .i64 0]) ∧ Below wx.heap.size wx w' ∧ SlS w' u ss) := Lib.hid (fun wx hx => by
    refine (Cut_walk wx _ b (D : Int) (HV.out.below hx (Nat.le_refl _)) HBL.out).mono ?_
    rintro e w' ⟨u, rfl, hb1, ho, _⟩
    have ho := own_toS (ho (by omega))
    rw [Int.toNat_natCast, ← hss] at ho
    exact ⟨u, by rw [if_pos (by omega)], hb1, ho⟩)
  have HEX : Hid (∀ (wx : World) (u : Value) (cp : Int), SlS wx u ss → Calls Try.prog 15 #[u, .int .i64 cp] wx (ExpPost ss cp wx)) := Lib.hid (fun wx u cp hs => expand_walk wx u ss cp hs (by omega) (by omega) hok)
  have HMAY : Hid (∀ (wx : World) (u : Value), SlS wx u ss → Calls Try.prog 16 #[u] wx fun e w' => e = .returned (.bool true) ∧ Below wx.heap.size wx w') := Lib.hid (fun wx u hs => may_walk wx u ss hs (by omega) (by omega) hok)
  have HSIZE : Hid (∀ (wx : World) (u : Value), SlS wx u ss → Calls Try.prog 17 #[u] wx fun e w' => e = .returned (.int .i64 (n : Int)) ∧ Below wx.heap.size wx w') := Lib.hid (fun wx u hs => by
    have h := size_walk wx u ss hs (by omega) (by omega)
    rw [hsz] at h; exact h)
  have HE0 : Hid (expE ss (n : Int) = 0) := Lib.hid (by unfold expE; rw [hsz, if_neg (by omega), if_neg (by omega)])
  have HE1 : Hid (expE ss ((n : Int) - 1) = 22) := Lib.hid (by unfold expE; rw [hsz, if_neg (by omega), if_pos (by omega)])
  clear htl hok hout hss hsz
  have hnz : ((n : Int) == 0) = false := beq_eq_false_iff_ne.2 (by omega)
  have hnp : (0 : Int) < (n : Int) := by omega
  go_enter Try.func4, Try.ntmps4
  go_wp2_with fail
  refine (HCUT.out _ (Below.refl _ _)).mono ?_
  rintro e w1 ⟨u, rfl, hb1, hs1⟩
  have HB1 := Lib.hid hb1
  have HS1 := Lib.hid hs1
  clear hb1 hs1 HCUT
  go_wp2_with fail
  refine (HEX.out _ _ _ HS1.out).mono ?_
  rintro e w2 ⟨cb, rfl, hb2, ho2, -⟩
  rw [HE0.out]
  have HB2 := Lib.hid (bt HB1.out hb2)
  have HS2 : Hid (SlS w2 u ss) := Lib.hid (SlK.below HS1.out hb2 (Nat.le_refl _))
  have HC2 : Hid (SlV w2 cb (bl b)) := Lib.hid (by have := own_toV (ho2 HE0.out); rw [HOUT.out] at this; exact this)
  clear hb2 ho2 HS1
  go_wp2_with fail
  refine (HEX.out _ _ _ HS2.out).mono ?_
  rintro e w3 ⟨cb2, rfl, hb3, -, hno⟩
  obtain rfl := hno (by rw [HE1.out]; decide)
  rw [HE1.out]
  have HB3 := Lib.hid (bt HB2.out hb3)
  have HS3 : Hid (SlS w3 u ss) := Lib.hid (SlK.below HS2.out hb3 (Nat.le_refl _))
  have HC3 := Lib.hid (HC2.out.below hb3 (Nat.le_refl _))
  clear hb3 hno HS2 HC2
  have heq := equal_walk w3 _ cb b b (HV.out.below HB3.out (Nat.le_refl _)) HC3.out
  rw [show (b == b) = true from beq_self_eq_true b] at heq
  go_wp2_with fail
  refine heq.mono ?_
  rintro e w4 ⟨rfl, rfl⟩
  clear heq
  go_wp2_with fail
  refine (HMAY.out _ _ HS3.out).mono ?_
  rintro e w5 ⟨rfl, hb5⟩
  have HB5 := Lib.hid (bt HB3.out hb5)
  have HS5 : Hid (SlS w5 u ss) := Lib.hid (SlK.below HS3.out hb5 (Nat.le_refl _))
  clear hb5 HS3 HC3
  go_wp2_with fail
  refine (HSIZE.out _ _ HS5.out).mono ?_
  rintro e w6 ⟨rfl, hb6⟩
  have HB6 := Lib.hid (bt HB5.out hb6)
  have HS6 : Hid (SlS w6 u ss) := Lib.hid (SlK.below HS5.out hb6 (Nat.le_refl _))
  clear hb6 HS5
  obtain ⟨N, hN⟩ : ∃ N, N = ss.length := ⟨_, rfl⟩
  obtain ⟨pu, cu, rfl⟩ := SlK.shape HS6.out
  rw [← hN] at HS6 ⊢
  have HNN := Lib.hid hN
  clear hN
  go_wp2_with fail
  go_loopw [11, 88] (fun v11 v88 wr => ∃ i : Nat, i ≤ N ∧ v88 = .int .i64 i ∧ v11 = .int .i64 (Mt.sizeL (ss.take i) : Nat) ∧ Below w6.heap.size w6 wr) (fun _ v88 _ => N - (intOf v88).toNat)
  case atStart => exact ⟨0, Nat.zero_le _, rfl, rfl, Below.refl _ _⟩
  case round =>
    obtain ⟨i, hi, rfl, rfl, hB⟩ := hrel
    have HB := Lib.hid hB
    clear hB
    by_cases hin : i < N
    · have hini : (i : Int) < (N : Int) := by omega
      have hil : i < ss.length := by rw [← HNN.out]; exact hin
      obtain ⟨g, o, rfl, hcu, hcl⟩ := SlS.at (by have := SlK.below HS6.out HB.out (Nat.le_refl _); rw [HNN.out] at this ⊢; exact this) (by omega : 0 < N)
      obtain ⟨c0, c1, c2⟩ := hcl i ss[i] (List.getElem?_eq_getElem hil)
      have hT := tells_at b D ss 0 i hil HTL.out
      have HST := Lib.hid (sizeL_take ss i hil)
      rw [Nat.zero_add] at hT
      obtain ⟨⟨x, y, z⟩, hsi⟩ : ∃ s, s = ss[i] := ⟨_, rfl⟩
      rw [← hsi] at c0 c1 c2 hT HST
      simp only at c0 c1 c2 hT
      obtain ⟨K, hK⟩ : ∃ K, K = Mt.sizeL (ss.take i) := ⟨_, rfl⟩
      rw [← hK] at hT HST ⊢
      clear hcl hsi hK
      obtain ⟨hKn, hT⟩ := hT
      rw [← HN.out] at hKn
      have hKni : (K : Int) < (n : Int) := by omega
      have hB7 : Below w6.heap.size w6 (wr.alloc (.cells #[.int .i64 (x : Int), .int .i64 (y : Int), .int .u8 (bi z)] 32)) := HB.out.alloc HB.out.size _
      have HB7 := Lib.hid hB7
      have hv7 := HV.out.below (bt HB6.out hB7) (Nat.le_refl _)
      obtain ⟨gb, ob, rfl, hrow⟩ := (HV.out.below (bt HB6.out HB.out) (Nat.le_refl _)).some (by omega)
      have hcap := hv7.le
      have HV7 := Lib.hid hv7
      have hcr := hrow.bl K (by rw [← HN.out]; exact hKn)
      have hcb : ∀ o', (wr.alloc o').cell? _ = _ := fun o' => (((Below.refl wr.heap.size wr).alloc (Nat.le_refl _) o').cell (block_lt_of_cell hcr)).trans hcr
      obtain ⟨d0, d1, d2, -⟩ := row3 (heap_alloc_new wr (.cells #[.int .i64 (x : Int), .int .i64 (y : Int), .int .u8 (bi z)] 32))
      clear hrow hv7 hB7
      rcases hT with hlit | ⟨hM, hbest, rfl⟩
      · simp only [Prod.mk.injEq] at hlit
        obtain ⟨rfl, rfl, rfl⟩ := hlit
        have HMK : Hid (Mt.mk (0, 0, Mt.byt b K) = 1) := Lib.hid rfl
        have hk1 : (K : Int) + 0 ≤ (n : Int) := by omega
        go_wp2_with fail
        go_quiet (fail)
        have HBX := Lib.hid (below_drewN HB7.out nq)
        go_wp2_with fail
        refine ⟨⟨i + 1, hin, ?_, ?_, HBX.out⟩, ?_⟩
        · go_num
        · rw [HST.out, HMK.out]; go_num
        · simp only [intOf]; omega
      · have hb00 : bi 0 = 0 := rfl
        rw [hb00] at c2 d0 d1 d2
        clear hb00
        have h3 := hM.least
        have hle := hM.le
        have hfar := hM.far
        simp only at h3 hle hfar
        unfold Mt.lim at hle
        rw [← HN.out] at hle
        have HMK : Hid (Mt.mk (x, y, 0) = x) := Lib.hid (by show max x 1 = x; omega)
        have HBO : Hid (bestOf b (K : Int) (D : Int) = (x, y)) := Lib.hid (by unfold bestOf; rw [← HN.out, if_pos (by omega), Int.toNat_natCast, Int.toNat_natCast]; exact hbest)
        obtain ⟨m, hm⟩ : ∃ m, m = min x y := ⟨_, rfl⟩
        have hmi : min (x : Int) (y : Int) = (m : Int) := by omega
        have hmx : m ≤ x := by omega
        have hmy : m ≤ y := by omega
        clear hm
        obtain ⟨p1, hs1, hv1⟩ := cut22 HV7.out (K - y) (K - y + x) (by omega) (by omega)
        rw [Nat.add_sub_cancel_left] at hs1 hv1
        rw [show ((K - y : Nat) : Int) = (K : Int) - (y : Int) by omega, show ((K - y + x : Nat) : Int) = (K : Int) - (y : Int) + (x : Int) by omega] at hs1
        have hs2 := to22 hv1 m (by omega)
        have hv2 := hv1.take m (by omega)
        obtain ⟨p3, hs3, hv3⟩ := cut22 HV7.out K (K + m) (by omega) (by omega)
        rw [Nat.add_sub_cancel_left] at hs3 hv3
        rw [Int.natCast_add] at hs3
        rw [bl_drop, bl_take, bl_take, List.take_take, Nat.min_eq_left (by omega)] at hv2
        rw [bl_drop, bl_take] at hv3
        have hpe := part_eq b K y x hM m (by omega)
        have HEQ : Hid (∀ j, Calls Try.prog 13 #[.slice p1 m (cap - (K - y)), .slice p3 m (cap - K)] ((wr.alloc (.cells #[.int .i64 (x : Int), .int .i64 (y : Int), .int .u8 0] 32)).drewN j) fun e w' => e = .returned (.bool true) ∧ w' = (wr.alloc (.cells #[.int .i64 (x : Int), .int .i64 (y : Int), .int .u8 0] 32)).drewN j) := Lib.hid (fun j => by
          have h := equal_walk _ _ _ _ _ (hv2.below (below_drewN (Below.refl _ _) j) (Nat.le_refl _)) (hv3.below (below_drewN (Below.refl _ _) j) (Nat.le_refl _))
          rw [hpe, show ((b.drop K).take m == (b.drop K).take m) = true from beq_self_eq_true _] at h
          exact h)
        clear hv1 hv2 hv3 hpe hM hbest
        have hw1 : IntKind.i64.wrap ((K : Int) - (y : Int)) = (K : Int) - (y : Int) := IntWalk.i64_in _ (by omega)
        have hw2 : IntKind.i64.wrap ((K : Int) - (y : Int) + (x : Int)) = (K : Int) - (y : Int) + (x : Int) := IntWalk.i64_in _ (by omega)
        have hw3 : IntKind.i64.wrap ((K : Int) + (m : Int)) = (K : Int) + (m : Int) := IntWalk.i64_in _ (by omega)
        have hy1 : decide ((K : Int) < (y : Int)) = false := decide_eq_false (by omega)
        have hy2 : decide (K < y) = false := decide_eq_false (by omega)
        have hx0 : ((x : Int) == 0) = false := beq_eq_false_iff_ne.2 (by omega)
        have hkx : (K : Int) + (x : Int) ≤ (n : Int) := by omega
        go_wp2_with fail
        go_quiet (first | (go_at_call 13; exact Calls.quiet_of_same (HEQ.out _)))
        by_cases hn3 : n ≤ 300
        · have hn3i : (n : Int) ≤ 300 := by omega
          have hbc := Best_walk _ _ b (K : Int) (D : Int) (HV7.out.below (below_drewN (Below.refl _ _) nq) (Nat.le_refl _)) HBL.out (by omega)
          rw [HBO.out] at hbc
          have hxp : decide (0 < (x, y).1) = true := decide_eq_true (by show 0 < x; omega)
          rw [hxp] at hbc
          go_wp2_with fail
          refine hbc.mono ?_
          rintro e w8 ⟨rfl, hb8⟩
          have HB8 := Lib.hid ((below_drewN HB7.out nq).trans (hb8.mono HB7.out.size))
          have hrs := (hb8.block wr.heap.size (by simp)).trans (heap_alloc_new wr (.cells #[.int .i64 (x : Int), .int .i64 (y : Int), .int .u8 0] 32))
          obtain ⟨e0, e1, e2, -⟩ := row3 hrs
          have f0 : ∀ o', (w8.alloc o').cell? _ = _ := fun o' => (((Below.refl w8.heap.size w8).alloc (Nat.le_refl _) o').cell (block_lt_of_cell e0)).trans e0
          have f1 : ∀ o', (w8.alloc o').cell? _ = _ := fun o' => (((Below.refl w8.heap.size w8).alloc (Nat.le_refl _) o').cell (block_lt_of_cell e1)).trans e1
          have f2 : ∀ o', (w8.alloc o').cell? _ = _ := fun o' => (((Below.refl w8.heap.size w8).alloc (Nat.le_refl _) o').cell (block_lt_of_cell e2)).trans e2
          have HBX := Lib.hid (HB8.out.alloc HB8.out.size (.cells #[.int .i64 (x : Int), .int .i64 (y : Int), .int .u8 0] 32))
          clear hbc hb8 hrs
          unfold stv stc
          go_wp2_with fail
          refine ⟨⟨i + 1, hin, ?_, ?_, HBX.out⟩, ?_⟩
          · go_num
          · rw [HST.out, HMK.out]; go_num
          · simp only [intOf]; omega
        · have hn3i : decide ((n : Int) ≤ 300) = false := decide_eq_false (by omega)
          have hn3j : decide (n ≤ 300) = false := decide_eq_false (by omega)
          have HBX := Lib.hid (below_drewN HB7.out nq)
          go_wp2_with fail
          refine ⟨⟨i + 1, hin, ?_, ?_, HBX.out⟩, ?_⟩
          · go_num
          · rw [HST.out, HMK.out]; go_num
          · simp only [intOf]; omega
    · have hini : (N : Int) ≤ (i : Int) := by omega
      obtain rfl : i = N := by omega
      go_wp2_with fail
      refine (wakes_walk _).mono ?_
      rintro e w9 ⟨rfl, hb9⟩
      have HB9 := Lib.hid (bt (bt HB6.out HB.out) hb9)
      clear hb9
      go_wp2_with fail
      go_ret
      exact ⟨rfl, HB9.out⟩
set_option maxRecDepth 100000 in
set_option maxHeartbeats 4000000 in
theorem back_none (w : World) (v : Value) (c : Int) (hv : SlV w v (bl [])) (hc : 0 ≤ c ∧ c < 256) :
    Calls Try.prog 4 #[v, .int .u8 c] w fun e w' => e = .returned (.bool true) ∧ Below w.heap.size w w' := by
  obtain ⟨p, cap, rfl⟩ := hv.shape
  rw [bl_length] at *
  have hmin : min (0 : Int) 2000 = 0 := by decide
  have hsl := to22 hv 0 (Nat.zero_le _)
  have hsl : ∀ w', Sem.run Try.prog (Instr.sliceAt 22 _ none (some (.int .i64 0)) none) w' = _ := hsl
  have HV := Lib.hid hv
  clear hv
  simp only [List.length_nil] at *
  obtain ⟨D, hD⟩ : ∃ D : Nat, c + 1 = (D : Int) := ⟨(c + 1).toNat, by omega⟩
  have hD1 : 1 ≤ D ∧ D ≤ 256 := by omega
  have hcut : Mt.cutAt [] D 0 = [] := Mt.cutAt_end (Nat.le_refl _)
  have HCUT : Hid (∀ wx, Below w.heap.size w wx → Calls Try.prog 8 #[.slice p 0 cap, .int .i64 (D : Int)] wx fun e w' => ∃ u, e = .returned (.tuple #[u, .int .i64 0]) ∧ Below wx.heap.size wx w' ∧ SlS w' u []) := Lib.hid (fun wx hx => by
    refine (Cut_walk wx _ [] (D : Int) (HV.out.below hx (Nat.le_refl _)) (by decide)).mono ?_
    rintro e w' ⟨u, rfl, hb1, ho, _⟩
    have ho := own_toS (ho (by omega))
    rw [Int.toNat_natCast, hcut] at ho
    exact ⟨u, by rw [if_pos (by omega)], hb1, ho⟩)
  have HEX : Hid (∀ (wx : World) (u : Value) (cp : Int), SlS wx u [] → Calls Try.prog 15 #[u, .int .i64 cp] wx (ExpPost [] cp wx)) := Lib.hid (fun wx u cp hs => expand_walk wx u [] cp hs (by decide) (by decide) trivial)
  have HMAY : Hid (∀ (wx : World) (u : Value), SlS wx u [] → Calls Try.prog 16 #[u] wx fun e w' => e = .returned (.bool true) ∧ Below wx.heap.size wx w') := Lib.hid (fun wx u hs => may_walk wx u [] hs (by decide) (by decide) trivial)
  have HSIZE : Hid (∀ (wx : World) (u : Value), SlS wx u [] → Calls Try.prog 17 #[u] wx fun e w' => e = .returned (.int .i64 0) ∧ Below wx.heap.size wx w') := Lib.hid (fun wx u hs => size_walk wx u [] hs (by decide) (by decide))
  clear hcut
  go_enter Try.func4, Try.ntmps4
  go_wp2_with fail
  refine (HCUT.out _ (Below.refl _ _)).mono ?_
  rintro e w1 ⟨u, rfl, hb1, hs1⟩
  have HB1 := Lib.hid hb1
  have HS1 := Lib.hid hs1
  clear hb1 hs1 HCUT
  go_wp2_with fail
  refine (HEX.out _ _ _ HS1.out).mono ?_
  rintro e w2 ⟨cb, rfl, hb2, ho2, -⟩
  rw [show expE [] 0 = 0 from rfl]
  have HB2 := Lib.hid (bt HB1.out hb2)
  have HS2 : Hid (SlS w2 u []) := Lib.hid (SlK.below HS1.out hb2 (Nat.le_refl _))
  have HC2 : Hid (SlV w2 cb (bl [])) := Lib.hid (own_toV (ho2 rfl))
  clear hb2 ho2 HS1
  go_wp2_with fail
  refine (HEX.out _ _ _ HS2.out).mono ?_
  rintro e w3 ⟨cb2, rfl, hb3, -, hno⟩
  obtain rfl := hno (by decide)
  rw [show expE [] (-1) = 1 from rfl]
  have HB3 := Lib.hid (bt HB2.out hb3)
  have HS3 : Hid (SlS w3 u []) := Lib.hid (SlK.below HS2.out hb3 (Nat.le_refl _))
  have HC3 := Lib.hid (HC2.out.below hb3 (Nat.le_refl _))
  clear hb3 hno HS2 HC2
  have heq := equal_walk w3 _ cb [] [] (HV.out.below HB3.out (Nat.le_refl _)) HC3.out
  rw [show (([] : List UInt8) == []) = true from rfl] at heq
  go_wp2_with fail
  refine heq.mono ?_
  rintro e w4 ⟨rfl, rfl⟩
  clear heq
  go_wp2_with fail
  refine (HMAY.out _ _ HS3.out).mono ?_
  rintro e w5 ⟨rfl, hb5⟩
  have HB5 := Lib.hid (bt HB3.out hb5)
  have HS5 : Hid (SlS w5 u []) := Lib.hid (SlK.below HS3.out hb5 (Nat.le_refl _))
  clear hb5 HS3 HC3
  go_wp2_with fail
  refine (HSIZE.out _ _ HS5.out).mono ?_
  rintro e w6 ⟨rfl, hb6⟩
  have HB6 := Lib.hid (bt HB5.out hb6)
  have HS6 : Hid (SlS w6 u []) := Lib.hid (SlK.below HS5.out hb6 (Nat.le_refl _))
  clear hb6 HS5
  obtain ⟨pu, cu, rfl⟩ := SlK.shape HS6.out
  simp only [List.length_nil]
  go_wp2_with fail
  refine wp_loop_rounds 1 ?_
  rw [rounds_succ]
  go_wp2_with fail
  refine (wakes_walk _).mono ?_
  rintro e w9 ⟨rfl, hb9⟩
  have HB9 := Lib.hid (bt HB6.out hb9)
  clear hb9
  go_wp2_with fail
  go_ret
  exact ⟨rfl, HB9.out⟩
theorem back_walk (w : World) (v : Value) (b0 : List UInt8) (c : Int) (hv : SlV w v (bl b0)) (hc : 0 ≤ c ∧ c < 256) :
    Calls Try.prog 4 #[v, .int .u8 c] w fun e w' => e = .returned (.bool true) ∧ Below w.heap.size w w' := by
  by_cases hz : min b0.length 2000 = 0
  · obtain rfl : b0 = [] := List.eq_nil_of_length_eq_zero (by omega)
    exact back_none w v c hv hc
  · exact back_some w v b0 c hv hc hz
end Go.Proofs.Ytghphgpbgekoiaa
