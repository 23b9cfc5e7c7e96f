/-
  The law of steps of bytes: its walk.
-/
import Derived.Test.YtghphgpbgekoiaaRefCut
import Derived.Test.YtghphgpbgekoiaaSame
namespace Go.Proofs.Ytghphgpbgekoiaa
open Go.RowKit Go.Maps
set_option maxRecDepth 100000 in
set_option maxHeartbeats 1000000 in
theorem rCut_none (w : World) (v : Value) (d : Int) (b : List UInt8) (hv : SlV w v (bl b)) (hd : ¬ (1 ≤ d ∧ d ≤ 32768)) :
    Calls Try.prog 9 #[v, .int .i64 d] w fun e w' => e = .returned (.tuple #[.slice none 0 0, .int .i64 1]) ∧ Below w.heap.size w w' := by
  obtain ⟨p, cap, rfl⟩ := hv.shape
  clear hv
  go_enter Try.func9, Try.ntmps9
  by_cases h1 : 1 ≤ d
  · have h2 : 32768 < d := by omega
    have hd1' : decide (32768 < d) = true := decide_eq_true h2
    have hd0' : decide (d < 1) = false := decide_eq_false (by omega)
    go_wp2_with fail
    go_ret2
    exact ⟨rfl, Below.refl _ _⟩
  · have h2 : d < 1 := by omega
    have hd0' : decide (d < 1) = true := decide_eq_true h2
    go_wp2_with fail
    go_ret2
    exact ⟨rfl, Below.refl _ _⟩
/-- The steps of bytes, and the error. -/
def cuts (b : List UInt8) (d : Int) : List Mt.St := if 1 ≤ d ∧ d ≤ 32768 then Mt.cutAt b d.toNat 0 else []
def cutErr (d : Int) : Int := if 1 ≤ d ∧ d ≤ 32768 then 0 else 1
theorem slS_nil (w : World) : SlS w (.slice none 0 0) [] := ⟨rfl, .inr ⟨none, rfl, rfl⟩⟩
theorem Cut_post (w : World) (v : Value) (b : List UInt8) (d : Int) (hv : SlV w v (bl b)) (hb : b.length ≤ 32768) :
    Calls Try.prog 8 #[v, .int .i64 d] w fun e w' => ∃ u, e = .returned (.tuple #[u, .int .i64 (cutErr d)]) ∧ Below w.heap.size w w' ∧ SlS w' u (cuts b d) := by
  refine (Cut_walk w v b d hv hb).mono ?_
  rintro e w' ⟨u, rfl, h1, h2, h3⟩
  refine ⟨u, rfl, h1, ?_⟩
  by_cases hd : 1 ≤ d ∧ d ≤ 32768
  · unfold cuts; rw [if_pos hd]; exact own_toS (h2 hd)
  · unfold cuts; rw [if_neg hd, h3 hd]; exact slS_nil _
theorem own_toS35 {B : Nat} {w : World} {v : Value} {ss : List Mt.St} (h : w.ownsRow B 35 3 v ss.length (ns ss)) : SlS w v ss := own_toK h (ns_length ss)
theorem rCut_post (w : World) (v : Value) (b : List UInt8) (d : Int) (hv : SlV w v (bl b)) (hb : b.length ≤ 32768) :
    Calls Try.prog 9 #[v, .int .i64 d] w fun e w' => ∃ u, e = .returned (.tuple #[u, .int .i64 (cutErr d)]) ∧ Below w.heap.size w w' ∧ SlS w' u (cuts b d) := by
  by_cases hd : 1 ≤ d ∧ d ≤ 32768
  · refine (rCut_walk w v d b hv hb hd.1 hd.2).mono ?_
    rintro e w' ⟨u, rfl, h2, h1⟩
    unfold cuts cutErr; rw [if_pos hd, if_pos hd]
    exact ⟨u, rfl, h1, own_toS35 h2⟩
  · refine (rCut_none w v d b hv hd).mono ?_
    rintro e w' ⟨rfl, h1⟩
    unfold cuts cutErr; rw [if_neg hd, if_neg hd]
    exact ⟨_, rfl, h1, slS_nil _⟩
theorem cutF_len (b : List UInt8) (d : Nat) : ∀ n k, (Mt.cutF b d n k).length ≤ n := by
  intro n
  induction n with
  | zero => intro k; exact Nat.le_of_eq rfl
  | succ n ih =>
    intro k
    unfold Mt.cutF
    split
    · split
      · exact Nat.succ_le_succ (ih _)
      · exact Nat.succ_le_succ (ih _)
    · exact Nat.zero_le _
theorem cuts_len (b : List UInt8) (d : Int) : (cuts b d).length ≤ b.length := by
  unfold cuts
  split
  · exact cutF_len b _ _ _
  · exact Nat.zero_le _
set_option maxRecDepth 100000 in
set_option maxHeartbeats 4000000 in
theorem cuts_walk (w : World) (v : Value) (b0 : List UInt8) (d k : Int) (hv : SlV w v (bl b0)) (hd1 : d ≤ 9223372036854775807) :
    Calls Try.prog 3 #[v, .int .i64 d, .int .i64 k] w fun e w' => e = .returned (.bool true) ∧ Below w.heap.size w w' := by
  obtain ⟨p, cap, rfl⟩ := hv.shape
  rw [bl_length] at *
  obtain ⟨n, hn⟩ : ∃ n, n = min b0.length 400 := ⟨_, rfl⟩
  have hmin : min (b0.length : Int) 400 = (n : Int) := by omega
  have hsl := to22 hv n (by omega)
  have hv2 := hv.take n (by omega)
  rw [bl_take] at hv2
  obtain ⟨b, hbb⟩ : ∃ b, b = b0.take n := ⟨_, rfl⟩
  have hbn : n = b.length := by rw [hbb, List.length_take]; omega
  rw [← hbb] at hv2
  have hn400 : n ≤ 400 := by omega
  have HL : Hid (b.length ≤ 32768) := Lib.hid (by omega)
  have HN := Lib.hid hbn
  have HV := Lib.hid hv2
  have HD := Lib.hid hd1
  obtain ⟨ce, hce⟩ : ∃ ce, ce = cutErr d := ⟨_, rfl⟩
  obtain ⟨ss, hss⟩ : ∃ ss, ss = cuts b d := ⟨_, rfl⟩
  obtain ⟨m, hm⟩ : ∃ m, m = ss.length := ⟨_, rfl⟩
  have HM := Lib.hid hm
  have HCU : Hid (∀ wx v, SlV wx v (bl b) → Calls Try.prog 8 #[v, .int .i64 d] wx fun e w' => ∃ u, e = .returned (.tuple #[u, .int .i64 ce]) ∧ Below wx.heap.size wx w' ∧ SlS w' u ss) := Lib.hid (fun wx v h => by
    rw [hce, hss]; exact Cut_post wx v b d h (by omega))
  have HRC : Hid (∀ wx v, SlV wx v (bl b) → Calls Try.prog 9 #[v, .int .i64 d] wx fun e w' => ∃ u, e = .returned (.tuple #[u, .int .i64 ce]) ∧ Below wx.heap.size wx w' ∧ SlS w' u ss) := Lib.hid (fun wx v h => by
    rw [hce, hss]; exact rCut_post wx v b d h (by omega))
  have HSL : Hid (ss.length ≤ 32768) := Lib.hid (by have := cuts_len b d; rw [hss]; omega)
  clear hce hss hm
  clear hv hv2 hbb hbn hn hd1
  generalize b0.length = n0 at *
  go_enter Try.func3, Try.ntmps3
  go_wp2_with fail
  refine (clone_walk w _ b HV.out (Nat.le_trans HL.out (by decide))).mono ?_
  rintro e w1 ⟨vo, rfl, ho, hb1⟩
  have hov := own_toV ho
  obtain ⟨po, co, rfl⟩ := hov.shape
  rw [bl_length, ← HN.out] at hov ⊢
  have HB1 := Lib.hid hb1
  have HO := Lib.hid hov
  have HV1 := Lib.hid (HV.out.below hb1 (Nat.le_refl _))
  clear ho hov hb1
  go_wp2_with fail
  refine (HCU.out w1 _ HO.out).mono ?_
  rintro e w2 ⟨u1, rfl, hb2, hs1⟩
  obtain ⟨p1, k1, rfl⟩ := SlK.shape hs1
  rw [← HM.out] at hs1 ⊢
  have HB2 := Lib.hid (bt HB1.out hb2)
  have HO2 := Lib.hid (HO.out.below hb2 (Nat.le_refl _))
  have HV2 := Lib.hid (HV1.out.below hb2 (Nat.le_refl _))
  have HS1 := Lib.hid hs1
  clear hb2 hs1 HO HV1 HV HB1
  go_wp2_with fail
  refine (HRC.out w2 _ HV2.out).mono ?_
  rintro e w3 ⟨u2, rfl, hb3, hs2⟩
  obtain ⟨p2, k2, rfl⟩ := SlK.shape hs2
  rw [← HM.out] at hs2 ⊢
  have HB3 := Lib.hid (bt HB2.out hb3)
  have HO3 := Lib.hid (HO2.out.below hb3 (Nat.le_refl _))
  have HV3 := Lib.hid (HV2.out.below hb3 (Nat.le_refl _))
  have HS1 := Lib.hid (SlK.below HS1.out hb3 (Nat.le_refl _))
  have HS2 := Lib.hid hs2
  clear hb3 hs2 HO2 HV2 HB2
  have hbest := Best_walk w3 _ b k d HO3.out HL.out HD.out
  obtain ⟨f1, f2, hf⟩ : ∃ f1 f2, bestOf b k d = (f1, f2) := ⟨_, _, rfl⟩
  rw [hf] at hbest
  have HF := Lib.hid hf
  clear hf
  go_wp2_with fail
  refine hbest.mono ?_
  rintro e w4 ⟨rfl, hb4⟩
  clear hbest
  unfold stv stc
  have hx : Below w3.heap.size w3 ((w4.alloc (Obj.cells #[.int .i64 (f1 : Int), .int .i64 (f2 : Int), .int .u8 0] 32)).alloc (Obj.cells #[.int .i64 0, .int .i64 0, .int .u8 0] 35)) := bt (hb4.alloc hb4.size _) ((Below.refl _ _).alloc (Nat.le_refl _) _)
  have HX := Lib.hid hx
  have HV5 := Lib.hid (HV3.out.below hx (Nat.le_refl _))
  have hr1 : ((w4.alloc (Obj.cells #[.int .i64 (f1 : Int), .int .i64 (f2 : Int), .int .u8 0] 32)).alloc (Obj.cells #[.int .i64 0, .int .i64 0, .int .u8 0] 35)).heap[w4.heap.size]? = some (.cells #[.int .i64 (f1 : Int), .int .i64 (f2 : Int), .int .u8 0] 32 (0, 0)) := by
    rw [heap_alloc_old _ _ (by simp)]; exact heap_alloc_new w4 _
  have hr2 : ((w4.alloc (Obj.cells #[.int .i64 (f1 : Int), .int .i64 (f2 : Int), .int .u8 0] 32)).alloc (Obj.cells #[.int .i64 0, .int .i64 0, .int .u8 0] 35)).heap[w4.heap.size + 1]? = some (.cells #[.int .i64 0, .int .i64 0, .int .u8 0] 35 (0, 0)) := by
    have h := heap_alloc_new (w4.alloc (Obj.cells #[.int .i64 (f1 : Int), .int .i64 (f2 : Int), .int .u8 0] 32)) (Obj.cells #[.int .i64 0, .int .i64 0, .int .u8 0] 35)
    rw [World.size_alloc] at h; exact h
  have HNW : Hid (w3.heap.size ≤ w4.heap.size) := Lib.hid hb4.size
  have HNW0 : Hid (w.heap.size ≤ w4.heap.size) := Lib.hid (Nat.le_trans HB3.out.size hb4.size)
  have HR1 := Lib.hid hr1
  have HR2 := Lib.hid hr2
  clear hb4 hx hr1 hr2
  have hne : ∀ w, (binOp .eql 35 (.agg #[.int .i64 (f1 : Int), .int .i64 (f2 : Int), .int .u8 0]) (.agg #[.int .i64 (f1 : Int), .int .i64 (f2 : Int), .int .u8 0])).run Try.prog w = .ok (.bool true) w := fun w => by rw [eql35]; simp
  by_cases hin : 0 ≤ k ∧ k < (n : Int)
  · obtain ⟨h0, hkn⟩ := hin
    obtain ⟨kk, rfl⟩ : ∃ kk : Nat, k = (kk : Int) := ⟨k.toNat, by omega⟩
    have HRB : Hid (∀ wx v, SlV wx v (bl b) → Calls Try.prog 11 #[v, .int .i64 (kk : Int), .int .i64 d] wx fun e w' => e = .returned (.tuple #[stv (f1, f2), .bool (decide (0 < f1))]) ∧ Below wx.heap.size wx w') := Lib.hid (fun wx v h => by
      have h1 := rBest_walk wx v b kk d h (by have := HN.out; omega) HL.out
      have h2 : bestOf b (kk : Int) d = Mt.best b kk d.toNat := by
        unfold bestOf; rw [if_pos ⟨Int.natCast_nonneg _, by have := HN.out; omega⟩, Int.toNat_natCast]
      rw [← h2, HF.out] at h1
      exact h1)
    go_wp2_with fail
    refine (HRB.out _ _ HV5.out).mono ?_
    rintro e w5 ⟨rfl, hb5⟩
    unfold stv stc
    have hr1 := (hb5.block _ (Array.getElem?_eq_some_iff.1 HR1.out).1).trans HR1.out
    have hr2 := (hb5.block _ (Array.getElem?_eq_some_iff.1 HR2.out).1).trans HR2.out
    obtain ⟨d0, d1, d2, df0, df1, df2⟩ := row3 hr2
    have HW6 := Lib.hid (below3 (bt HX.out hb5) (show w3.heap.size ≤ w4.heap.size + 1 from Nat.le_succ_of_le HNW.out) (.int .i64 (f1 : Int)) (.int .i64 (f2 : Int)) (.int .u8 0))
    have HT1 := Lib.hid ((other3 (show w4.heap.size ≠ w4.heap.size + 1 by omega) (.int .i64 (f1 : Int)) (.int .i64 (f2 : Int)) (.int .u8 0)).trans hr1)
    have HT2 := Lib.hid (set3 (y0 := .int .i64 (f1 : Int)) (y1 := .int .i64 (f2 : Int)) (y2 := .int .u8 0) hr2)
    have c0 : w5.cell? ⟨w4.heap.size, 0, none⟩ = _ := (row3 hr1).1
    clear hb5 HV5 HR1 HR2 HX
    go_wp2_with fail
    refine (same_walk _ _ _ ss (SlK.below HS1.out HW6.out (Nat.le_refl _)) (SlK.below HS2.out HW6.out (Nat.le_refl _)) HSL.out).mono ?_
    rintro e w7 ⟨rfl, hb7⟩
    have HW7 := Lib.hid (bt HW6.out hb7)
    have hr1 := (hb7.block _ (Array.getElem?_eq_some_iff.1 HT1.out).1).trans HT1.out
    have hr2 := (hb7.block _ (Array.getElem?_eq_some_iff.1 HT2.out).1).trans HT2.out
    clear hb7 HT1 HT2 HW6 c0 d0 d1 d2 df0 df1 df2
    obtain ⟨c0, c1, c2, cf0, cf1, cf2⟩ := row3 hr1
    obtain ⟨d0, d1, d2, df0, df1, df2⟩ := row3 hr2
    have heq := equal_walk w7 _ _ b b (HO3.out.below HW7.out (Nat.le_refl _)) (HV3.out.below HW7.out (Nat.le_refl _))
    rw [beq_self_eq_true] at heq
    go_wp2_with fail
    refine heq.mono ?_
    rintro e w8 ⟨rfl, rfl⟩
    clear heq
    go_wp2_with fail
    refine (wakes_walk _).mono ?_
    rintro e w9 ⟨rfl, hb9⟩
    have HB9 := Lib.hid hb9
    clear hb9
    go_wp2_with fail
    go_ret
    exact ⟨rfl, bt (bt HB3.out HW7.out) HB9.out⟩
  · obtain ⟨rfl, rfl⟩ : f1 = 0 ∧ f2 = 0 := by
      have h := HF.out
      unfold bestOf at h
      rw [if_neg (by rw [← HN.out]; exact hin)] at h
      cases h
      exact ⟨rfl, rfl⟩
    by_cases h0 : 0 ≤ k
    · have hkn : (n : Int) ≤ k := by omega
      go_wp2_with fail
      refine (same_walk _ _ _ ss (SlK.below HS1.out HX.out (Nat.le_refl _)) (SlK.below HS2.out HX.out (Nat.le_refl _)) HSL.out).mono ?_
      rintro e w7 ⟨rfl, hb7⟩
      have HW7 := Lib.hid (bt HX.out hb7)
      have hr1 := (hb7.block _ (Array.getElem?_eq_some_iff.1 HR1.out).1).trans HR1.out
      have hr2 := (hb7.block _ (Array.getElem?_eq_some_iff.1 HR2.out).1).trans HR2.out
      clear hb7 HR1 HR2 HX HV5
      obtain ⟨c0, c1, c2, cf0, cf1, cf2⟩ := row3 hr1
      obtain ⟨d0, d1, d2, df0, df1, df2⟩ := row3 hr2
      have heq := equal_walk w7 _ _ b b (HO3.out.below HW7.out (Nat.le_refl _)) (HV3.out.below HW7.out (Nat.le_refl _))
      rw [beq_self_eq_true] at heq
      go_wp2_with fail
      refine heq.mono ?_
      rintro e w8 ⟨rfl, rfl⟩
      clear heq
      go_wp2_with fail
      refine (wakes_walk _).mono ?_
      rintro e w9 ⟨rfl, hb9⟩
      have HB9 := Lib.hid hb9
      clear hb9
      go_wp2_with fail
      go_ret
      exact ⟨rfl, bt (bt HB3.out HW7.out) HB9.out⟩
    · have hk0 : k < 0 := by omega
      go_wp2_with fail
      refine (same_walk _ _ _ ss (SlK.below HS1.out HX.out (Nat.le_refl _)) (SlK.below HS2.out HX.out (Nat.le_refl _)) HSL.out).mono ?_
      rintro e w7 ⟨rfl, hb7⟩
      have HW7 := Lib.hid (bt HX.out hb7)
      have hr1 := (hb7.block _ (Array.getElem?_eq_some_iff.1 HR1.out).1).trans HR1.out
      have hr2 := (hb7.block _ (Array.getElem?_eq_some_iff.1 HR2.out).1).trans HR2.out
      clear hb7 HR1 HR2 HX HV5
      obtain ⟨c0, c1, c2, cf0, cf1, cf2⟩ := row3 hr1
      obtain ⟨d0, d1, d2, df0, df1, df2⟩ := row3 hr2
      have heq := equal_walk w7 _ _ b b (HO3.out.below HW7.out (Nat.le_refl _)) (HV3.out.below HW7.out (Nat.le_refl _))
      rw [beq_self_eq_true] at heq
      go_wp2_with fail
      refine heq.mono ?_
      rintro e w8 ⟨rfl, rfl⟩
      clear heq
      go_wp2_with fail
      refine (wakes_walk _).mono ?_
      rintro e w9 ⟨rfl, hb9⟩
      have HB9 := Lib.hid hb9
      clear hb9
      go_wp2_with fail
      go_ret
      exact ⟨rfl, bt (bt HB3.out HW7.out) HB9.out⟩
end Go.Proofs.Ytghphgpbgekoiaa
