/-
  The document's own Get: the walk, to behind a text's blank.
-/
import Derived.Test.YtjgphicmkmdeiaaDoorPgba
namespace Go.Proofs.YtjgphicmkmdeiaaDoor
open Go.RowKit Go.Maps

set_option maxRecDepth 100000 in
set_option maxHeartbeats 16000000 in
theorem rget_walk (w : World) (v : Value) (L : List UInt8) (hv : SlV w v (bl L)) (hL : L.length ≤ 2000) :
    Calls Tryd.prog 19 #[v] w (RGetPost w L) := by
  obtain ⟨i0, hi, hz0, hz1, hz2⟩ := info_parts info39
  have HI0 := Lib.hid (And.intro hi (And.intro hz0 (And.intro hz1 hz2)))
  clear hi hz0 hz1 hz2
  obtain ⟨p, cap, rfl⟩ := hv.shape
  have HV := Lib.hid hv
  have hcap := hv.le
  rw [bl_length] at hcap HV ⊢
  obtain ⟨N, hN⟩ : ∃ N, L.length = N := ⟨_, rfl⟩
  rw [hN] at hcap HV hL ⊢
  have HN := Lib.hid hN
  have hNI : (N : Int) ≤ 2000 := by omega
  have hd0 : decide (16777216 < (N : Int)) = false := decide_eq_false (by omega)
  clear hv hN hL
  go_enter Tryd.func19, Tryd.ntmps19
  go_wp2_with fail
  go_loopw [4, 5] (fun v4 v5 wr => ∃ (a : Nat) (acc : List Px.Rec), v5 = .int .i64 (a : Int) ∧ RG w L wr a acc v4) (fun _ v5 _ => N - (intOf v5).toNat)
  case atStart => exact ⟨0, [], rfl, Below.refl _ _, ⟨rfl, .inl ⟨rfl, rfl⟩⟩, Nat.zero_le _, by have := HN.out; simp; omega, by rw [List.drop_zero]; cases Px.get L <;> rfl⟩
  case round =>
    obtain ⟨f, acc, rfl, hS⟩ := hrel
    have HS := Lib.hid hS
    obtain ⟨p4, c4, hv4⟩ := own_shape hS.own
    subst hv4
    have hfN : f ≤ N := by have := hS.le; have := HN.out; omega
    clear hS
    by_cases hfl : f < N
    · have HF := Lib.hid hfl
      have hfI : (f : Int) < (N : Int) := by omega
      have hf2 : (f : Int) ≤ 2000 := by omega
      have HV2 := Lib.hid (HV.out.below HS.out.below (Nat.le_refl _))
      obtain ⟨g, off, rfl, hrow⟩ := HV2.out.some (by omega)
      have HROW : Hid (∀ i, i < N → wr.cell? ⟨g, off + i, none⟩ = some (.int .u8 (bi (L.getD i 0)))) := Lib.hid (fun i hi => hrow.bl i (by have := HN.out; omega))
      have HERR : Hid (∀ x : Nat, Px.one (L.drop f) = .error x → RGetPost w L (.returned (.tuple #[.slice none 0 0, .int .i64 (x : Int)])) wr) := Lib.hid (fun x hx => HS.out.err (by have := HN.out; have := HF.out; omega) x hx HS.out.below)
      clear hrow hfl hfN
      go_wp2_with fail
      go_loopw [5, 6] (fun v5 v6 wx => ∃ a n : Nat, v5 = .int .i64 (a : Int) ∧ v6 = .int .i64 (n : Int) ∧ Dg L f a n ∧ wx = wr) (fun v5 _ _ => N - (intOf v5).toNat)
      case atStart => exact ⟨f, 0, rfl, rfl, Dg.start L f (by have := HN.out; have := HF.out; omega), rfl⟩
      case round =>
        rename_i wx
        obtain ⟨a, n, rfl, rfl, hD, rfl⟩ := hrel
        have HD := Lib.hid hD
        have haN : a ≤ N := by have := hD.le; have := HN.out; omega
        have hfa : f ≤ a := hD.ge
        have hn24 : (n : Int) ≤ 16777216 := by have := hD.small; omega
        have haI : (a : Int) ≤ 2000 := by omega
        by_cases hal : a < N
        · obtain ⟨c, hc⟩ : ∃ c, L.getD a 0 = c := ⟨_, rfl⟩
          have hcell := HROW.out a hal
          rw [hc] at hcell
          have hal2 : a < L.length := by have := HN.out; omega
          have hLa : L[a] = c := by rw [← hc, List.getD_eq_getElem?_getD, List.getElem?_eq_getElem hal2]; rfl
          have HDROP : Hid (L.drop f = (L.drop f).take (a - f) ++ c :: L.drop (a + 1)) := Lib.hid (by have := drop_at L f a hfa hal2; rw [hLa] at this; exact this)
          have HTAKE : Hid ((L.drop f).take (a + 1 - f) = (L.drop f).take (a - f) ++ [c]) := Lib.hid (by have := take_at L f a hfa hal2; rw [hLa] at this; exact this)
          have halI : (a : Int) < (N : Int) := by omega
          have HAL := Lib.hid hal
          have HFA := Lib.hid hfa
          by_cases hcd : isD c
          · have h1 := hcd.1
            have h2 := hcd.2
            have g1 : decide (48 ≤ bi c) = true := decide_eq_true (by unfold bi; omega)
            have g2 : decide (bi c ≤ 57) = true := decide_eq_true (by unfold bi; omega)
            by_cases h48 : c = 48 ∧ a = f
            · obtain ⟨hc48, rfl⟩ := h48
              have e0 : (bi c == 48) = true := by rw [hc48]; decide
              have e1 : ((a : Int) == (a : Int)) = true := beq_self_eq_true _
              have HQ := Lib.hid (HERR.out 5 (by
                have h9 := HDROP.out
                rw [Nat.sub_self, List.take_zero, List.nil_append, hc48] at h9
                rw [h9]; exact Px.r1 _))
              clear hD hc hLa hal2 hal h1 h2 hcd hc48
              go_wp2_with fail
              go_ret2
              exact HQ.out
            · obtain ⟨d, hd⟩ : ∃ d : Nat, bi c - 48 = (d : Int) := ⟨c.toNat - 48, by unfold bi; omega⟩
              have hdc : d = c.toNat - 48 := by unfold bi at hd; omega
              have hd9 : (d : Int) ≤ 9 := by omega
              obtain ⟨n2, hn2⟩ : ∃ k : Nat, 10 * (n : Int) + (d : Int) = (k : Int) := ⟨10 * n + d, by omega⟩
              have hn2b : (n2 : Int) ≤ 167772169 := by omega
              have HN2 : Hid (n2 = vl ((L.drop f).take (a - f) ++ [c])) := Lib.hid (by rw [vl_snoc, ← HD.out.val]; omega)
              have HDIG : Hid (∀ x ∈ (L.drop f).take (a - f) ++ [c], isD x) := Lib.hid (fun x hx => by
                rcases List.mem_append.1 hx with h9 | h9
                · exact HD.out.dig x h9
                · rw [List.mem_singleton] at h9; subst h9; exact hcd)
              have HHEAD : Hid (((L.drop f).take (a - f) ++ [c]).head? ≠ some 48) := Lib.hid (by
                intro h9
                cases hq : (L.drop f).take (a - f) with
                | nil =>
                  rw [hq] at h9
                  have hc48 : c = 48 := by simpa using h9
                  have : a = f := by
                    have h8 := congrArg List.length hq
                    rw [List.length_take, List.length_drop, List.length_nil] at h8
                    omega
                  exact h48 ⟨hc48, this⟩
                | cons x t =>
                  rw [hq] at h9
                  have := HD.out.head
                  rw [hq] at this
                  exact this (by simpa using h9))
              have hdd1 : (bi c == 48) = decide (c = 48) := by
                by_cases h9 : c = 48
                · subst h9; decide
                · rw [decide_eq_false h9, beq_eq_false_iff_ne]; intro h8; exact h9 (bi_inj.1 (h8.trans (by decide)))
              have hdd2 : ((a : Int) == (f : Int)) = decide (a = f) := by
                by_cases h9 : a = f
                · subst h9; simp
                · rw [decide_eq_false h9, beq_eq_false_iff_ne]; omega
              have HCASE : Hid (decide (c = 48) = false ∨ (decide (c = 48) = true ∧ decide (a = f) = false)) := Lib.hid (by
                by_cases h9 : c = 48
                · exact .inr ⟨decide_eq_true h9, decide_eq_false (fun h8 => h48 ⟨h9, h8⟩)⟩
                · exact .inl (decide_eq_false h9))
              clear hD hc hLa hal2 hal h1 h2 hcd hdc h48 haN hfa
              by_cases hbig : 16777216 < n2
              · have b1 : decide (16777216 < (n2 : Int)) = true := decide_eq_true (by omega)
                have HQ := Lib.hid (HERR.out 5 (by rw [HDROP.out]; exact Px.r2 _ HDIG.out (by rw [← HN2.out]; exact hbig)))
                clear hbig
                rcases HCASE.out with k1 | ⟨k1, k2⟩
                · rw [k1] at hdd1
                  clear k1
                  go_wp2_with fail
                  go_ret2
                  exact HQ.out
                · rw [k1] at hdd1
                  rw [k2] at hdd2
                  clear k1 k2
                  go_wp2_with fail
                  go_ret2
                  exact HQ.out
              · have b1 : decide (16777216 < (n2 : Int)) = false := decide_eq_false (by omega)
                have HDN : Hid (Dg L f (a + 1) n2) := Lib.hid ⟨by have := HFA.out; omega, by have := HAL.out; have := HN.out; omega, by rw [HTAKE.out]; exact HN2.out, by rw [HTAKE.out]; exact HDIG.out, by rw [HTAKE.out]; exact HHEAD.out, by omega⟩
                clear hbig
                rcases HCASE.out with k1 | ⟨k1, k2⟩
                · rw [k1] at hdd1
                  clear k1
                  go_wp2_with fail
                  exact ⟨⟨a + 1, n2, by go_num, rfl, HDN.out, by first | rfl | trivial⟩, by have := HAL.out; simp only [intOf]; omega⟩
                · rw [k1] at hdd1
                  rw [k2] at hdd2
                  clear k1 k2
                  go_wp2_with fail
                  exact ⟨⟨a + 1, n2, by go_num, rfl, HDN.out, by first | rfl | trivial⟩, by have := HAL.out; simp only [intOf]; omega⟩
          · have hb := bi_lt c
            have HCD := Lib.hid hcd
            have HG : Hid ((decide (48 ≤ bi c) = false) ∨ (decide (48 ≤ bi c) = true ∧ decide (bi c ≤ 57) = false)) := Lib.hid (by
              by_cases h9 : 48 ≤ c.toNat
              · exact .inr ⟨decide_eq_true (by unfold bi; omega), decide_eq_false (by unfold bi; intro h8; exact hcd ⟨h9, by omega⟩)⟩
              · exact .inl (decide_eq_false (by unfold bi; omega)))
            clear hD hc hLa hal2 hal hcd
            rcases HG.out with k1 | ⟨k1, k2⟩
            · by_cases h32 : c = 32
              · skip
                by_cases haf : a = f
                · obtain rfl := haf
                  have HQ := Lib.hid (HERR.out 5 (by have h9 := HDROP.out; rw [Nat.sub_self, List.take_zero, List.nil_append] at h9; rw [h9]; exact Px.r3 _ HCD.out))
                  have e1 : ((a : Int) == (a : Int)) = true := beq_self_eq_true _
                  go_wp2_with fail
                  go_ret2
                  exact HQ.out
                have hfa2 : f < a := by have := HFA.out; omega
                have e1 : ((a : Int) == (f : Int)) = false := by rw [beq_eq_false_iff_ne]; omega
                have hdd := HD.out.dec hfa2
                have HD1 : Hid (1 ≤ n) := Lib.hid hdd.2
                have HERRB : Hid (∀ x : Nat, Px.one (L.drop f) = .error x → ∀ w', Below wr.heap.size wr w' → RGetPost w L (.returned (.tuple #[.slice none 0 0, .int .i64 (x : Int)])) w') := Lib.hid (fun x hx w' hb => HS.out.err (by have := HN.out; have := HF.out; omega) x hx (HS.out.below.trans (hb.mono HS.out.below.size)))
                have HP2 : Hid (L.drop f = Lib.decDigits n ++ c :: L.drop (a + 1)) := Lib.hid (by rw [hdd.1]; exact HDROP.out)
                have HLEN : Hid (Lib.nDigits n = a - f) := Lib.hid (by rw [← Px.dec_len, hdd.1, List.length_take, List.length_drop]; have := HN.out; have := HAL.out; omega)
                have HCELL : Hid (∀ wz, Below wr.heap.size wr wz → wz.cell? ⟨g, off + a, none⟩ = some (.int .u8 (bi c))) := Lib.hid (fun wz hb => (hb.cell (p := ⟨g, off + a, none⟩) (block_lt_of_cell hcell)).trans hcell)
                have H32 : Hid (L.drop f = Lib.decDigits n ++ 32 :: L.drop (a + 1)) := Lib.hid (by rw [← h32]; exact HP2.out)
                clear hdd hfa2
                have e32 : (bi c == 32) = true := by rw [h32]; decide
                by_cases hn1 : 1 < n
                · have d1 : decide (1 < (n : Int)) = true := decide_eq_true (by omega)
                  have HG1 : Hid (∀ w, Calls Tryd.prog 26 #[.int .u64 ((n : Int) - 1)] w _) := Lib.hid (fun w => by have := rdigits_walk w (n - 1) (by omega); rw [show ((n - 1 : Nat) : Int) = (n : Int) - 1 by omega] at this; exact this)
                  have HG2 := Lib.hid (fun w => rdigits_walk w n (by omega))
                  obtain ⟨t1, ht1⟩ : ∃ x, (⟨(Lib.decDigits (n - 1)).toArray⟩ : ByteArray) = x := ⟨_, rfl⟩
                  obtain ⟨t2, ht2⟩ : ∃ x, (⟨(Lib.decDigits n).toArray⟩ : ByteArray) = x := ⟨_, rfl⟩
                  have s1 : t1.size = Lib.nDigits (n - 1) := by rw [← ht1, ← Px.dec_len]; simp [ByteArray.size]
                  have s2 : t2.size = Lib.nDigits n := by rw [← ht2, ← Px.dec_len]; simp [ByteArray.size]
                  rw [ht1] at HG1
                  rw [ht2] at HG2
                  have HN1 := Lib.hid hn1
                  clear ht1 ht2
                  by_cases hT : Lib.nDigits (n - 1) < Lib.nDigits n
                  · have d2 : decide ((t1.size : Int) < (t2.size : Int)) = true := decide_eq_true (by omega)
                    have d3 : decide (t1.size < t2.size) = true := decide_eq_true (by omega)
                    have HQ := Lib.hid (HERRB.out 5 (by rw [H32.out, Px.r7 n _ HD.out.small, if_neg (fun h9 => by have := ((Px.isSz_iff n).1 h9).2.2; omega)]))
                    by_cases hbig : 16777216 < 10 * n
                    · have d4 : decide (16777216 < 10 * (n : Int)) = true := decide_eq_true (by omega)
                      clear hbig hT s1 s2
                      go_wp2_with (first
                        | ((with_reducible refine (HG1.out _).mono ?_); rintro e w2 ⟨rfl, hb⟩; have HB2 : Hid (Below wr.heap.size wr w2) := Lib.hid hb; clear hb)
                        | ((with_reducible refine (HG2.out _).mono ?_); rintro e w3 ⟨rfl, hb⟩; have HB3 : Hid (Below wr.heap.size wr w3) := Lib.hid (HB2.out.trans (hb.mono HB2.out.size)); have hcell3 := HCELL.out w3 HB3.out; clear hb))
                      go_ret2
                      exact HQ.out _ HB3.out
                    · have d4 : decide (16777216 < 10 * (n : Int)) = false := decide_eq_false (by omega)
                      clear hbig hT s1 s2
                      go_wp2_with (first
                        | ((with_reducible refine (HG1.out _).mono ?_); rintro e w2 ⟨rfl, hb⟩; have HB2 : Hid (Below wr.heap.size wr w2) := Lib.hid hb; clear hb)
                        | ((with_reducible refine (HG2.out _).mono ?_); rintro e w3 ⟨rfl, hb⟩; have HB3 : Hid (Below wr.heap.size wr w3) := Lib.hid (HB2.out.trans (hb.mono HB2.out.size)); have hcell3 := HCELL.out w3 HB3.out; clear hb))
                      go_ret2
                      exact HQ.out _ HB3.out
                  · have d2 : decide ((t1.size : Int) < (t2.size : Int)) = false := decide_eq_false (by omega)
                    have d3 : decide (t1.size < t2.size) = false := decide_eq_false (by omega)
                    clear h32
                    have HISZ0 : Hid (Lib.nDigits (n - 1) = Lib.nDigits n) := Lib.hid (by have h8 := Px.nd_pred n; omega)
                    obtain ⟨a1, ha1⟩ : ∃ k, a + 1 = k := ⟨_, rfl⟩
                    obtain ⟨e, he⟩ : ∃ k, f + n = k := ⟨_, rfl⟩
                    obtain ⟨m, hm⟩ : ∃ k, n - Lib.nDigits n - 1 = k := ⟨_, rfl⟩
                    obtain ⟨b, hbb⟩ : ∃ x, L.drop (a + 1) = x := ⟨_, rfl⟩
                    have HA1 := Lib.hid ha1
                    have HE := Lib.hid he
                    have HM := Lib.hid hm
                    have HBB := Lib.hid hbb
                    have ha1I : (a : Int) + 1 = (a1 : Int) := by omega
                    have heI : (f : Int) + (n : Int) = (e : Int) := by omega
                    have heb : (e : Int) ≤ 16800000 := by have := HD.out.small; omega
                    have ha1b : (a1 : Int) ≤ 2001 := by omega
                    have HBL : Hid (b.length = N - a1) := Lib.hid (by rw [← hbb, List.length_drop, ← ha1]; have := HN.out; omega)
                    have HBG : Hid (∀ i, b.getD i 0 = L.getD (a1 + i) 0) := Lib.hid (fun i => by rw [← hbb, ← ha1]; simp [List.getD_eq_getElem?_getD, List.getElem?_drop])
                    rw [hbb] at H32
                    have HCELLS : Hid (∀ wz, Below wr.heap.size wr wz → ∀ i, i < N → wz.cell? ⟨g, off + i, none⟩ = some (.int .u8 (bi (L.getD i 0)))) := Lib.hid (fun wz hb i hi => (hb.cell (p := ⟨g, off + i, none⟩) (block_lt_of_cell (HROW.out i hi))).trans (HROW.out i hi))
                    clear ha1 he hm hbb
                    by_cases h4 : n < Lib.nDigits n + 4
                    · have HQ := Lib.hid (HERRB.out 5 (by rw [H32.out, Px.r7 n _ HD.out.small, if_neg (fun h9 => by have := ((Px.isSz_iff n).1 h9).1; omega)]))
                      have g4 : decide ((e : Int) < (a1 : Int) + 3) = true := decide_eq_true (by have := HLEN.out; have := HA1.out; have := HE.out; have := HFA.out; omega)
                      clear h4 hT s1 s2
                      go_wp2_with (first
                        | ((with_reducible refine (HG1.out _).mono ?_); rintro e w2 ⟨rfl, hb⟩; have HB2 : Hid (Below wr.heap.size wr w2) := Lib.hid hb; clear hb)
                        | ((with_reducible refine (HG2.out _).mono ?_); rintro e w3 ⟨rfl, hb⟩; have HB3 : Hid (Below wr.heap.size wr w3) := Lib.hid (HB2.out.trans (hb.mono HB2.out.size)); have hcell3 := HCELL.out w3 HB3.out; clear hb))
                      go_ret2
                      exact HQ.out _ HB3.out
                    · have HISZ : Hid (Px.isSz n = true) := Lib.hid ((Px.isSz_iff n).2 ⟨by omega, HD.out.small, HISZ0.out⟩)
                      have HMM : Hid (3 ≤ m) := Lib.hid (by have := HM.out; omega)
                      have HEM : Hid (e = a1 + m) := Lib.hid (by have := HLEN.out; have := HA1.out; have := HE.out; have := HFA.out; have := HM.out; omega)
                      have HONE : Hid (Px.one (L.drop f) = match Px.rdRec b m with | .error x => .error x | .ok r => .ok (r, L.drop e)) := Lib.hid (by rw [← HE.out]; exact one_isz H32.out HISZ.out HD.out.small HM.out)
                      have g4 : decide ((e : Int) < (a1 : Int) + 3) = false := decide_eq_false (by have := HEM.out; have := HMM.out; omega)
                      have HA1N : Hid (a1 ≤ N) := Lib.hid (by have := HAL.out; have := HA1.out; omega)
                      have HFE : Hid (f < e) := Lib.hid (by have := HE.out; have := HD1.out; omega)
                      have HFN := Lib.hid hfI
                      have n0 : ((a : Int) == (N : Int)) = false := by rw [beq_eq_false_iff_ne]; have := HAL.out; omega
                      have e32n : (bi c != 32) = false := by rw [bne, e32]; rfl
                      clear h4 hT s1 s2
                      go_wp2_with (first
                        | ((with_reducible refine (HG1.out _).mono ?_); rintro e w2 ⟨rfl, hb⟩; have HB2 : Hid (Below wr.heap.size wr w2) := Lib.hid hb; clear hb)
                        | ((with_reducible refine (HG2.out _).mono ?_); rintro e w3 ⟨rfl, hb⟩; have HB3 : Hid (Below wr.heap.size wr w3) := Lib.hid (HB2.out.trans (hb.mono HB2.out.size)); have hcell3 := HCELL.out w3 HB3.out; clear hb))
                      clear hcell3 hcell
                      go_loopw [5, 10] (fun v5 v10 wx => ∃ (q i : Nat) (wo : World), v5 = .int .i64 (q : Int) ∧ v10 = .string ⟨(b.take i).toArray⟩ ∧ wo = wr ∧ q = a1 + i ∧ q ≤ N ∧ Px.Kin b m i ∧ Below wr.heap.size wr wx) (fun v5 _ _ => N - (intOf v5).toNat)
                      case atStart => exact ⟨a1, 0, wr, rfl, rfl, rfl, rfl, HA1N.out, Px.Kin.zero b m, HB3.out⟩
                      case round =>
                        obtain ⟨q, i, wx, rfl, rfl, hwx, hq, hqN, hK, hb⟩ := hrel
                        subst hwx
                        have HB := Lib.hid hb
                        have HK := Lib.hid hK
                        have HQE := Lib.hid hq
                        have hqI : (q : Int) ≤ 2000 := by omega
                        obtain ⟨bk, hbk⟩ : ∃ x, (⟨(b.take i).toArray⟩ : ByteArray) = x := ⟨_, rfl⟩
                        have HBK := Lib.hid hbk
                        have hkz : (bk.size : Int) ≤ 300 := by
                          have h3 : bk.size = (b.take i).length := by rw [← hbk]; simp [ByteArray.size]
                          rw [List.length_take] at h3
                          have := hK.le
                          omega
                        rw [hbk]
                        obtain ⟨q2, hq2⟩ : ∃ k, q + 1 = k := ⟨_, rfl⟩
                        have HQ2 := Lib.hid hq2
                        have hq2I : (q : Int) + 1 = (q2 : Int) := by omega
                        have hq2b : (q2 : Int) ≤ 2001 := by omega
                        have HV4 := Lib.hid (HV2.out.below HB.out (Nat.le_refl _))
                        clear hb hK hq hbk hq2
                        by_cases hql : q < N
                        · obtain ⟨c2, hc2⟩ : ∃ x, L.getD q 0 = x := ⟨_, rfl⟩
                          have hcell4 := HCELLS.out wr HB.out q hql
                          rw [hc2] at hcell4
                          have HQL := Lib.hid hql
                          have hqlI : (q : Int) < (N : Int) := by omega
                          have HIB : Hid (i < b.length) := Lib.hid (by rw [HBL.out]; have := HQE.out; omega)
                          have HC2 : Hid (b[i]'HIB.out = c2) := Lib.hid (by rw [← hc2, HQE.out, ← HBG.out i, List.getD_eq_getElem?_getD, List.getElem?_eq_getElem HIB.out]; rfl)
                          have HLC : Hid ((L.drop q).take 1 = [c2]) := Lib.hid (by rw [← hc2]; exact take1 L q (by have := HN.out; omega))
                          clear hc2 hqN hql
                          by_cases h61 : c2 = 61
                          · have e61 : (bi c2 == 61) = true := by rw [h61]; decide
                            have HC61 : Hid (b[i]'HIB.out = 61) := Lib.hid (by rw [HC2.out, h61])
                            clear h61
                            have n1 : ((q : Int) == (N : Int)) = false := by rw [beq_eq_false_iff_ne]; have := HQL.out; omega
                            by_cases hi0 : i = 0
                            · have hbl : (bk.toList == []) = true := by rw [Lib.toList_data, ← HBK.out, hi0]; rfl
                              have HQ := Lib.hid (HERRB.out 5 (by
                                rw [HONE.out]
                                obtain ⟨t, ht⟩ : ∃ t, b = 61 :: t := by
                                  have h8 := HC61.out
                                  cases hbx : b with
                                  | nil => have := HIB.out; rw [hbx] at this; simp at this
                                  | cons x t => subst hi0; simp only [hbx, List.getElem_cons_zero] at h8; exact ⟨t, by rw [h8]⟩
                                rw [ht, Px.keq0 t m HMM.out]))
                              clear hi0
                              go_wp2_with fail
                              go_ret2
                              exact HQ.out _ HB.out
                            · have hbl : (bk.toList == []) = false := by
                                rw [Lib.toList_data, ← HBK.out, beq_eq_false_iff_ne]
                                intro h9
                                have h8 := congrArg List.length h9
                                simp only [List.length_take, List.length_nil] at h8
                                have := HIB.out
                                omega
                              have HEQ := Lib.hid (HK.out.eq' (by omega) HIB.out HC61.out)
                              clear hi0
                              by_cases hlong : N < e
                              · have d9 : decide ((N : Int) < (e : Int)) = true := decide_eq_true (by omega)
                                have d9N : N < e := hlong
                                have d9I : (N : Int) < (e : Int) := by omega
                                have HQ := Lib.hid (HERRB.out 4 (by rw [HONE.out, HEQ.out, if_pos (by rw [HBL.out]; have := HEM.out; have := HA1N.out; omega)]))
                                skip
                                go_wp2_with fail
                                go_ret2
                                exact HQ.out _ HB.out
                              · have d9 : decide ((N : Int) < (e : Int)) = false := decide_eq_false (by omega)
                                have d9N : ¬ N < e := hlong
                                have d9I : ¬ (N : Int) < (e : Int) := by omega
                                have HEN : Hid (e ≤ N) := Lib.hid (by omega)
                                obtain ⟨z, hz⟩ : ∃ z, e - 1 = z := ⟨_, rfl⟩
                                have HZ : Hid (z + 1 = e) := Lib.hid (by have := HFE.out; omega)
                                have hzI : (e : Int) - 1 = (z : Int) := by have := HZ.out; omega
                                have hzN : (z : Int) < (N : Int) := by have := HZ.out; omega
                                obtain ⟨c3, hc3⟩ : ∃ x, L.getD z 0 = x := ⟨_, rfl⟩
                                have hcell5 := HCELLS.out wr HB.out z (by have := HZ.out; omega)
                                rw [hc3] at hcell5
                                have HC3 : Hid (b.getD (m - 1) 0 = c3) := Lib.hid (by rw [HBG.out, ← hc3]; congr 1; have := HEM.out; have := HZ.out; have := HMM.out; omega)
                                have HNS : Hid (¬ b.length < m) := Lib.hid (by rw [HBL.out]; have := HEM.out; omega)
                                have HQZ : Hid (q2 ≤ z) := Lib.hid (by have := HQ2.out; have := HQE.out; have := HZ.out; have := HEM.out; rcases HK.out.room with h9 | h9 <;> have := HMM.out <;> omega)
                                clear hz hc3
                                by_cases h10 : c3 = 10
                                · have e10 : (bi c3 == 10) = true := by rw [h10]; decide
                                  obtain ⟨p6, hsl6, hs6⟩ := cut22 HV4.out q2 z HQZ.out (by have := HZ.out; have := HEN.out; omega)
                                  rw [bl_mid] at hs6
                                  have hcv6 := run_toString hs6
                                  obtain ⟨bv, hbv⟩ : ∃ x, (⟨((L.drop q2).take (z - q2)).toArray⟩ : ByteArray) = x := ⟨_, rfl⟩
                                  rw [hbv] at hcv6
                                  obtain ⟨z6, hz6⟩ : ∃ x, z - q2 = x := ⟨_, rfl⟩
                                  obtain ⟨y6, hy6⟩ : ∃ x, cap - q2 = x := ⟨_, rfl⟩
                                  rw [hz6, hy6] at hsl6
                                  rw [hz6] at hcv6
                                  rw [hy6] at hcv6
                                  have HO : Hid (Px.one (L.drop f) = .ok ((b.take i, (L.drop q2).take (z - q2)), L.drop e)) := Lib.hid (by
                                    rw [HONE.out, HEQ.out, if_neg HNS.out, if_neg (by rw [HC3.out]; exact fun h9 => h9 h10)]
                                    have h7 : b.drop (i + 1) = L.drop q2 := by rw [← HBB.out, List.drop_drop]; congr 1; have := HA1.out; have := HQ2.out; have := HQE.out; omega
                                    have h8 : m - 1 - (i + 1) = z - q2 := by have := HEM.out; have := HQ2.out; have := HQE.out; have := HZ.out; have := HMM.out; rcases HK.out.room with h9 | h9 <;> omega
                                    simp only [h7, h8])
                                  have HN1 : Hid (nr [(b.take i, (L.drop q2).take (z - q2))] = [.string bk, .string bv]) := Lib.hid (by rw [← HBK.out, ← hbv]; rfl)
                                  have HWA : Hid (Below wx.heap.size wx (wr.alloc (.cells #[.string bk, .string bv] 39))) := Lib.hid (HB.out.alloc HB.out.size _)
                                  have HOWN : Hid ((wr.alloc (.cells #[.string bk, .string bv] 39)).ownsRow w.heap.size 39 2 (.slice p4 acc.length c4) acc.length (nr acc)) := Lib.hid (own_staysK HS.out.own (fun j hj => HWA.out.block j (HS.out.own.lt j hj).2))
                                  have HSK : Hid (SlK 2 (wr.alloc (.cells #[.string bk, .string bv] 39)) (.slice (some ⟨wr.heap.size, 0, none⟩) 1 1) 1 [.string bk, .string bv]) := Lib.hid (SlK_rec wr _ _ _)
                                  have HSZ : Hid (w.heap.size ≤ (wr.alloc (.cells #[.string bk, .string bv] 39)).heap.size) := Lib.hid (by have := HWA.out.size; have := HS.out.below.size; omega)
                                  have HCT : Hid (acc.length + 1 ≤ 1099511627776) := Lib.hid (by have := HS.out.cnt; omega)
                                  clear h10 hs6 hbv hz6 hy6
                                  go_wp2_with (refine wpList_appK 23 39 i0 (.agg #[.string ⟨#[]⟩, .string ⟨#[]⟩]) 2 32 Tryd.underlying23 HI0.out.1 HI0.out.2.1 HI0.out.2.2.1 HI0.out.2.2.2 rfl (by decide) (by decide) rfl _ _ rfl w.heap.size (.slice p4 acc.length c4) (.slice (some ⟨wr.heap.size, 0, none⟩) 1 1) acc.length 1 (nr acc) [.string bk, .string bv] rfl rfl (by intro y hy; simp at hy; rcases hy with rfl | rfl <;> rfl) HOWN.out HSK.out HSZ.out HCT.out ?_; intro v' w5 hown hgrow _; have HS5 := Lib.hid (HS.out.step HO.out (by have := HN.out; have := HEN.out; omega) HWA.out (by rw [HN1.out]; exact hown) hgrow); clear hown hgrow)
                                  exact ⟨⟨e, _, rfl, HS5.out⟩, by have := HFE.out; have := HEN.out; simp only [intOf]; omega⟩
                                · have e10 : (bi c3 == 10) = false := by rw [beq_eq_false_iff_ne]; intro h8; exact h10 (bi_inj.1 (h8.trans (by decide)))
                                  have HQ := Lib.hid (HERRB.out 5 (by rw [HONE.out, HEQ.out, if_neg HNS.out, if_pos (by rw [HC3.out]; exact h10)]))
                                  clear h10
                                  go_wp2_with fail
                                  go_ret2
                                  exact HQ.out _ HB.out
                          · have e61 : (bi c2 == 61) = false := by rw [beq_eq_false_iff_ne]; intro h8; exact h61 (bi_inj.1 (h8.trans (by decide)))
                            have HC61 : Hid (b[i]'HIB.out ≠ 61) := Lib.hid (by rw [HC2.out]; exact h61)
                            obtain ⟨p5, hsl5, hs5⟩ := cut22 HV4.out q q2 (by have := HQ2.out; omega) (by have := HQ2.out; have := HQL.out; omega)
                            have hq1 : q2 - q = 1 := by have := HQ2.out; omega
                            rw [bl_mid, hq1, HLC.out] at hs5
                            have hcv5 := run_toString hs5
                            obtain ⟨y5, hy5⟩ : ∃ x, cap - q = x := ⟨_, rfl⟩
                            rw [hq1, hy5] at hsl5
                            rw [hy5] at hcv5
                            obtain ⟨bc, hbc⟩ : ∃ x, (⟨([c2] : List UInt8).toArray⟩ : ByteArray) = x := ⟨_, rfl⟩
                            rw [hbc] at hcv5
                            have hcz : (bc.size : Int) ≤ 1 := by rw [← hbc]; exact Int.le_refl _
                            obtain ⟨bk2, hbk2⟩ : ∃ x, bk ++ bc = x := ⟨_, rfl⟩
                            have HBK2 : Hid (bk2 = ⟨(b.take (i + 1)).toArray⟩) := Lib.hid (by
                              rw [← hbk2, ← hbc, ← HBK.out, take_snoc b i HIB.out, HC2.out]
                              apply ByteArray.ext
                              rw [ByteArray.data_append]
                              simp)
                            have hK2 : bk2.size ≤ 300 := by
                              rw [HBK2.out]
                              have := HK.out.le
                              simp only [ByteArray.size, List.size_toArray, List.length_take]
                              omega
                            have hlw := letters_walk wr (b.take (i + 1)) bk2 (by rw [HBK2.out]) (by rw [List.length_take]; have := HK.out.le; omega)
                            have hlen7 : (b.take (i + 1)).length = i + 1 := by rw [List.length_take]; have := HIB.out; omega
                            rw [hlen7, take_snoc b i HIB.out, List.all_append] at hlw
                            have hall : (b.take i).all Px.okB = true := List.all_eq_true.2 HK.out.ok
                            rw [hall, HC2.out] at hlw
                            simp only [List.all_cons, List.all_nil, Bool.and_true, Bool.true_and] at hlw
                            obtain ⟨r, hr⟩ : ∃ x, (Px.okB c2 && decide (i + 1 ≤ 255)) = x := ⟨_, rfl⟩
                            rw [hr] at hlw
                            have HLET := Lib.hid hlw
                            have HNB : Hid (¬ (Px.okB c2 = true ∧ i + 1 ≤ 255 ∧ i + 2 < m) → ∀ w', Below wx.heap.size wx w' → RGetPost w L (.returned (.tuple #[.slice none 0 0, .int .i64 ((5 : Nat) : Int)])) w') := Lib.hid (fun hn w' hb => HERRB.out 5 (by rw [HONE.out, HK.out.bad HMM.out HIB.out HC61.out (by rw [HC2.out]; exact hn)]) w' hb)
                            clear h61 hs5 hy5 hbc hall hlw hlen7 hK2 hq1
                            cases r with
                            | false =>
                              have HQ := Lib.hid (HNB.out (fun h9 => by rw [h9.1, decide_eq_true h9.2.1] at hr; exact absurd hr (by decide)))
                              clear hr
                              go_wp2_with ((with_reducible refine HLET.out.mono ?_); rintro _ _ ⟨rfl, rfl⟩)
                              go_ret2
                              exact HQ.out _ HB.out
                            | true =>
                              have HR : Hid (Px.okB c2 = true ∧ i + 1 ≤ 255) := Lib.hid (by
                                rw [Bool.and_eq_true, decide_eq_true_eq] at hr; exact hr)
                              clear hr
                              by_cases hro : i + 2 < m
                              · have k9 : decide ((e : Int) ≤ (q : Int) + 2) = false := decide_eq_false (by have := HEM.out; have := HQE.out; omega)
                                have HK2 := Lib.hid (HK.out.succ HIB.out (by rw [HC2.out]; exact HR.out.1) HR.out.2 hro)
                                clear hro
                                go_wp2_with ((with_reducible refine HLET.out.mono ?_); rintro _ _ ⟨rfl, rfl⟩)
                                refine ⟨?rel, ?measure⟩
                                case rel => exact ⟨q2, i + 1, wx, by first | rfl | go_num, by rw [HBK2.out], rfl, by have := HQ2.out; have := HQE.out; omega, by have := HQ2.out; have := HQL.out; omega, HK2.out, HB.out⟩
                                case measure =>
                                  show N - (intOf (.int .i64 (q2 : Int))).toNat < N - (intOf (.int .i64 (q : Int))).toNat
                                  have := HQ2.out; have := HQL.out; simp only [intOf]; omega
                              · have k9 : decide ((e : Int) ≤ (q : Int) + 2) = true := decide_eq_true (by have := HEM.out; have := HQE.out; omega)
                                have HQ := Lib.hid (HNB.out (fun h9 => hro h9.2.2))
                                clear hro
                                go_wp2_with ((with_reducible refine HLET.out.mono ?_); rintro _ _ ⟨rfl, rfl⟩)
                                go_ret2
                                exact HQ.out _ HB.out
                        · obtain rfl : q = N := by omega
                          have n1 : decide ((q : Int) < (q : Int)) = false := decide_eq_false (by omega)
                          have n2 : ((q : Int) == (q : Int)) = true := beq_self_eq_true _
                          have HQ := Lib.hid (HERRB.out 4 (by
                            rw [HONE.out, Px.Kin.end' (b := b) (by have h9 := HK.out; rwa [show i = b.length by rw [HBL.out]; have := HQE.out; omega] at h9) HMM.out]))
                          clear hql hqN
                          go_wp2_with fail
                          go_ret2
                          exact HQ.out _ HB.out
                · obtain rfl : n = 1 := by have := HD1.out; omega
                  have d1 : decide (1 < ((1 : Nat) : Int)) = false := by decide
                  have hT : ¬ Lib.nDigits (1 - 1) < Lib.nDigits 1 := by rw [Px.nDigits_small' (by omega), Px.nDigits_small' (by omega)]; omega
                  have HQ := Lib.hid (HERRB.out 5 (by rw [H32.out, Px.r7 1 _ HD.out.small, if_neg (fun h9 => by have := ((Px.isSz_iff 1).1 h9).1; omega)]))
                  obtain ⟨a1, ha1⟩ : ∃ k, a + 1 = k := ⟨_, rfl⟩
                  obtain ⟨e, he⟩ : ∃ k, f + 1 = k := ⟨_, rfl⟩
                  have ha1I : (a : Int) + 1 = (a1 : Int) := by omega
                  have heI : (f : Int) + ((1 : Nat) : Int) = (e : Int) := by omega
                  have heI2 : (f : Int) + 1 = (e : Int) := by omega
                  have heb : (e : Int) ≤ 2001 := by omega
                  have ha1b : (a1 : Int) ≤ 2001 := by omega
                  have g4 : decide ((e : Int) < (a1 : Int) + 3) = true := decide_eq_true (by have := HFA.out; omega)
                  clear hT ha1 he
                  go_wp2_with fail
                  go_ret2
                  exact HQ.out _ (Below.refl _ _)
              · skip
                by_cases haf : a = f
                · obtain rfl := haf
                  have HQ := Lib.hid (HERR.out 5 (by have h9 := HDROP.out; rw [Nat.sub_self, List.take_zero, List.nil_append] at h9; rw [h9]; exact Px.r3 _ HCD.out))
                  have e1 : ((a : Int) == (a : Int)) = true := beq_self_eq_true _
                  go_wp2_with fail
                  go_ret2
                  exact HQ.out
                have hfa2 : f < a := by have := HFA.out; omega
                have e1 : ((a : Int) == (f : Int)) = false := by rw [beq_eq_false_iff_ne]; omega
                have hdd := HD.out.dec hfa2
                have HD1 : Hid (1 ≤ n) := Lib.hid hdd.2
                have HERRB : Hid (∀ x : Nat, Px.one (L.drop f) = .error x → ∀ w', Below wr.heap.size wr w' → RGetPost w L (.returned (.tuple #[.slice none 0 0, .int .i64 (x : Int)])) w') := Lib.hid (fun x hx w' hb => HS.out.err (by have := HN.out; have := HF.out; omega) x hx (HS.out.below.trans (hb.mono HS.out.below.size)))
                have HP2 : Hid (L.drop f = Lib.decDigits n ++ c :: L.drop (a + 1)) := Lib.hid (by rw [hdd.1]; exact HDROP.out)
                have HLEN : Hid (Lib.nDigits n = a - f) := Lib.hid (by rw [← Px.dec_len, hdd.1, List.length_take, List.length_drop]; have := HN.out; have := HAL.out; omega)
                have HCELL : Hid (∀ wz, Below wr.heap.size wr wz → wz.cell? ⟨g, off + a, none⟩ = some (.int .u8 (bi c))) := Lib.hid (fun wz hb => (hb.cell (p := ⟨g, off + a, none⟩) (block_lt_of_cell hcell)).trans hcell)
                have HNO32 : Hid (Px.one (L.drop f) = .error 5) := Lib.hid (by rw [HP2.out]; exact Px.r6 _ (by intro h9; have := congrArg List.length h9; rw [Px.dec_len] at this; have := Lib.nDigits_pos n; simp at *; omega) (fun x hx => Px.dec_digits n x hx) HCD.out h32)
                clear hdd hfa2
                have e32 : (bi c == 32) = false := by rw [beq_eq_false_iff_ne]; intro h8; exact h32 (bi_inj.1 (h8.trans (by decide)))
                by_cases hn1 : 1 < n
                · have d1 : decide (1 < (n : Int)) = true := decide_eq_true (by omega)
                  have HG1 : Hid (∀ w, Calls Tryd.prog 26 #[.int .u64 ((n : Int) - 1)] w _) := Lib.hid (fun w => by have := rdigits_walk w (n - 1) (by omega); rw [show ((n - 1 : Nat) : Int) = (n : Int) - 1 by omega] at this; exact this)
                  have HG2 := Lib.hid (fun w => rdigits_walk w n (by omega))
                  obtain ⟨t1, ht1⟩ : ∃ x, (⟨(Lib.decDigits (n - 1)).toArray⟩ : ByteArray) = x := ⟨_, rfl⟩
                  obtain ⟨t2, ht2⟩ : ∃ x, (⟨(Lib.decDigits n).toArray⟩ : ByteArray) = x := ⟨_, rfl⟩
                  have s1 : t1.size = Lib.nDigits (n - 1) := by rw [← ht1, ← Px.dec_len]; simp [ByteArray.size]
                  have s2 : t2.size = Lib.nDigits n := by rw [← ht2, ← Px.dec_len]; simp [ByteArray.size]
                  rw [ht1] at HG1
                  rw [ht2] at HG2
                  have HN1 := Lib.hid hn1
                  clear ht1 ht2
                  by_cases hT : Lib.nDigits (n - 1) < Lib.nDigits n
                  · have d2 : decide ((t1.size : Int) < (t2.size : Int)) = true := decide_eq_true (by omega)
                    have d3 : decide (t1.size < t2.size) = true := decide_eq_true (by omega)
                    have HQ := Lib.hid (HERRB.out 5 HNO32.out)
                    by_cases hbig : 16777216 < 10 * n
                    · have d4 : decide (16777216 < 10 * (n : Int)) = true := decide_eq_true (by omega)
                      clear hbig hT s1 s2
                      go_wp2_with (first
                        | ((with_reducible refine (HG1.out _).mono ?_); rintro e w2 ⟨rfl, hb⟩; have HB2 : Hid (Below wr.heap.size wr w2) := Lib.hid hb; clear hb)
                        | ((with_reducible refine (HG2.out _).mono ?_); rintro e w3 ⟨rfl, hb⟩; have HB3 : Hid (Below wr.heap.size wr w3) := Lib.hid (HB2.out.trans (hb.mono HB2.out.size)); have hcell3 := HCELL.out w3 HB3.out; clear hb))
                      go_ret2
                      exact HQ.out _ HB3.out
                    · have d4 : decide (16777216 < 10 * (n : Int)) = false := decide_eq_false (by omega)
                      clear hbig hT s1 s2
                      go_wp2_with (first
                        | ((with_reducible refine (HG1.out _).mono ?_); rintro e w2 ⟨rfl, hb⟩; have HB2 : Hid (Below wr.heap.size wr w2) := Lib.hid hb; clear hb)
                        | ((with_reducible refine (HG2.out _).mono ?_); rintro e w3 ⟨rfl, hb⟩; have HB3 : Hid (Below wr.heap.size wr w3) := Lib.hid (HB2.out.trans (hb.mono HB2.out.size)); have hcell3 := HCELL.out w3 HB3.out; clear hb))
                      go_ret2
                      exact HQ.out _ HB3.out
                  · have d2 : decide ((t1.size : Int) < (t2.size : Int)) = false := decide_eq_false (by omega)
                    have d3 : decide (t1.size < t2.size) = false := decide_eq_false (by omega)
                    have HQ := Lib.hid (HERRB.out 5 HNO32.out)
                    by_cases hbig : 16777216 < 10 * n
                    · have d4 : decide (16777216 < 10 * (n : Int)) = true := decide_eq_true (by omega)
                      clear hbig hT s1 s2
                      go_wp2_with (first
                        | ((with_reducible refine (HG1.out _).mono ?_); rintro e w2 ⟨rfl, hb⟩; have HB2 : Hid (Below wr.heap.size wr w2) := Lib.hid hb; clear hb)
                        | ((with_reducible refine (HG2.out _).mono ?_); rintro e w3 ⟨rfl, hb⟩; have HB3 : Hid (Below wr.heap.size wr w3) := Lib.hid (HB2.out.trans (hb.mono HB2.out.size)); have hcell3 := HCELL.out w3 HB3.out; clear hb))
                      go_ret2
                      exact HQ.out _ HB3.out
                    · have d4 : decide (16777216 < 10 * (n : Int)) = false := decide_eq_false (by omega)
                      clear hbig hT s1 s2
                      go_wp2_with (first
                        | ((with_reducible refine (HG1.out _).mono ?_); rintro e w2 ⟨rfl, hb⟩; have HB2 : Hid (Below wr.heap.size wr w2) := Lib.hid hb; clear hb)
                        | ((with_reducible refine (HG2.out _).mono ?_); rintro e w3 ⟨rfl, hb⟩; have HB3 : Hid (Below wr.heap.size wr w3) := Lib.hid (HB2.out.trans (hb.mono HB2.out.size)); have hcell3 := HCELL.out w3 HB3.out; clear hb))
                      go_ret2
                      exact HQ.out _ HB3.out
                · obtain rfl : n = 1 := by have := HD1.out; omega
                  have d1 : decide (1 < ((1 : Nat) : Int)) = false := by decide
                  have hT : ¬ Lib.nDigits (1 - 1) < Lib.nDigits 1 := by rw [Px.nDigits_small' (by omega), Px.nDigits_small' (by omega)]; omega
                  have HQ := Lib.hid (HERRB.out 5 HNO32.out)
                  clear hT
                  go_wp2_with fail
                  go_ret2
                  exact HQ.out _ (Below.refl _ _)
            · have h32 : c ≠ 32 := fun h9 => by rw [h9] at k1; exact absurd k1 (by decide)
              by_cases haf : a = f
              · obtain rfl := haf
                have HQ := Lib.hid (HERR.out 5 (by have h9 := HDROP.out; rw [Nat.sub_self, List.take_zero, List.nil_append] at h9; rw [h9]; exact Px.r3 _ HCD.out))
                have e1 : ((a : Int) == (a : Int)) = true := beq_self_eq_true _
                go_wp2_with fail
                go_ret2
                exact HQ.out
              have hfa2 : f < a := by have := HFA.out; omega
              have e1 : ((a : Int) == (f : Int)) = false := by rw [beq_eq_false_iff_ne]; omega
              have hdd := HD.out.dec hfa2
              have HD1 : Hid (1 ≤ n) := Lib.hid hdd.2
              have HERRB : Hid (∀ x : Nat, Px.one (L.drop f) = .error x → ∀ w', Below wr.heap.size wr w' → RGetPost w L (.returned (.tuple #[.slice none 0 0, .int .i64 (x : Int)])) w') := Lib.hid (fun x hx w' hb => HS.out.err (by have := HN.out; have := HF.out; omega) x hx (HS.out.below.trans (hb.mono HS.out.below.size)))
              have HP2 : Hid (L.drop f = Lib.decDigits n ++ c :: L.drop (a + 1)) := Lib.hid (by rw [hdd.1]; exact HDROP.out)
              have HLEN : Hid (Lib.nDigits n = a - f) := Lib.hid (by rw [← Px.dec_len, hdd.1, List.length_take, List.length_drop]; have := HN.out; have := HAL.out; omega)
              have HCELL : Hid (∀ wz, Below wr.heap.size wr wz → wz.cell? ⟨g, off + a, none⟩ = some (.int .u8 (bi c))) := Lib.hid (fun wz hb => (hb.cell (p := ⟨g, off + a, none⟩) (block_lt_of_cell hcell)).trans hcell)
              have HNO32 : Hid (Px.one (L.drop f) = .error 5) := Lib.hid (by rw [HP2.out]; exact Px.r6 _ (by intro h9; have := congrArg List.length h9; rw [Px.dec_len] at this; have := Lib.nDigits_pos n; simp at *; omega) (fun x hx => Px.dec_digits n x hx) HCD.out h32)
              clear hdd hfa2
              have e32 : (bi c == 32) = false := by rw [beq_eq_false_iff_ne]; intro h8; exact h32 (bi_inj.1 (h8.trans (by decide)))
              by_cases hn1 : 1 < n
              · have d1 : decide (1 < (n : Int)) = true := decide_eq_true (by omega)
                have HG1 : Hid (∀ w, Calls Tryd.prog 26 #[.int .u64 ((n : Int) - 1)] w _) := Lib.hid (fun w => by have := rdigits_walk w (n - 1) (by omega); rw [show ((n - 1 : Nat) : Int) = (n : Int) - 1 by omega] at this; exact this)
                have HG2 := Lib.hid (fun w => rdigits_walk w n (by omega))
                obtain ⟨t1, ht1⟩ : ∃ x, (⟨(Lib.decDigits (n - 1)).toArray⟩ : ByteArray) = x := ⟨_, rfl⟩
                obtain ⟨t2, ht2⟩ : ∃ x, (⟨(Lib.decDigits n).toArray⟩ : ByteArray) = x := ⟨_, rfl⟩
                have s1 : t1.size = Lib.nDigits (n - 1) := by rw [← ht1, ← Px.dec_len]; simp [ByteArray.size]
                have s2 : t2.size = Lib.nDigits n := by rw [← ht2, ← Px.dec_len]; simp [ByteArray.size]
                rw [ht1] at HG1
                rw [ht2] at HG2
                have HN1 := Lib.hid hn1
                clear ht1 ht2
                by_cases hT : Lib.nDigits (n - 1) < Lib.nDigits n
                · have d2 : decide ((t1.size : Int) < (t2.size : Int)) = true := decide_eq_true (by omega)
                  have d3 : decide (t1.size < t2.size) = true := decide_eq_true (by omega)
                  have HQ := Lib.hid (HERRB.out 5 HNO32.out)
                  by_cases hbig : 16777216 < 10 * n
                  · have d4 : decide (16777216 < 10 * (n : Int)) = true := decide_eq_true (by omega)
                    clear hbig hT s1 s2
                    go_wp2_with (first
                      | ((with_reducible refine (HG1.out _).mono ?_); rintro e w2 ⟨rfl, hb⟩; have HB2 : Hid (Below wr.heap.size wr w2) := Lib.hid hb; clear hb)
                      | ((with_reducible refine (HG2.out _).mono ?_); rintro e w3 ⟨rfl, hb⟩; have HB3 : Hid (Below wr.heap.size wr w3) := Lib.hid (HB2.out.trans (hb.mono HB2.out.size)); have hcell3 := HCELL.out w3 HB3.out; clear hb))
                    go_ret2
                    exact HQ.out _ HB3.out
                  · have d4 : decide (16777216 < 10 * (n : Int)) = false := decide_eq_false (by omega)
                    clear hbig hT s1 s2
                    go_wp2_with (first
                      | ((with_reducible refine (HG1.out _).mono ?_); rintro e w2 ⟨rfl, hb⟩; have HB2 : Hid (Below wr.heap.size wr w2) := Lib.hid hb; clear hb)
                      | ((with_reducible refine (HG2.out _).mono ?_); rintro e w3 ⟨rfl, hb⟩; have HB3 : Hid (Below wr.heap.size wr w3) := Lib.hid (HB2.out.trans (hb.mono HB2.out.size)); have hcell3 := HCELL.out w3 HB3.out; clear hb))
                    go_ret2
                    exact HQ.out _ HB3.out
                · have d2 : decide ((t1.size : Int) < (t2.size : Int)) = false := decide_eq_false (by omega)
                  have d3 : decide (t1.size < t2.size) = false := decide_eq_false (by omega)
                  have HQ := Lib.hid (HERRB.out 5 HNO32.out)
                  by_cases hbig : 16777216 < 10 * n
                  · have d4 : decide (16777216 < 10 * (n : Int)) = true := decide_eq_true (by omega)
                    clear hbig hT s1 s2
                    go_wp2_with (first
                      | ((with_reducible refine (HG1.out _).mono ?_); rintro e w2 ⟨rfl, hb⟩; have HB2 : Hid (Below wr.heap.size wr w2) := Lib.hid hb; clear hb)
                      | ((with_reducible refine (HG2.out _).mono ?_); rintro e w3 ⟨rfl, hb⟩; have HB3 : Hid (Below wr.heap.size wr w3) := Lib.hid (HB2.out.trans (hb.mono HB2.out.size)); have hcell3 := HCELL.out w3 HB3.out; clear hb))
                    go_ret2
                    exact HQ.out _ HB3.out
                  · have d4 : decide (16777216 < 10 * (n : Int)) = false := decide_eq_false (by omega)
                    clear hbig hT s1 s2
                    go_wp2_with (first
                      | ((with_reducible refine (HG1.out _).mono ?_); rintro e w2 ⟨rfl, hb⟩; have HB2 : Hid (Below wr.heap.size wr w2) := Lib.hid hb; clear hb)
                      | ((with_reducible refine (HG2.out _).mono ?_); rintro e w3 ⟨rfl, hb⟩; have HB3 : Hid (Below wr.heap.size wr w3) := Lib.hid (HB2.out.trans (hb.mono HB2.out.size)); have hcell3 := HCELL.out w3 HB3.out; clear hb))
                    go_ret2
                    exact HQ.out _ HB3.out
              · obtain rfl : n = 1 := by have := HD1.out; omega
                have d1 : decide (1 < ((1 : Nat) : Int)) = false := by decide
                have hT : ¬ Lib.nDigits (1 - 1) < Lib.nDigits 1 := by rw [Px.nDigits_small' (by omega), Px.nDigits_small' (by omega)]; omega
                have HQ := Lib.hid (HERRB.out 5 HNO32.out)
                clear hT
                go_wp2_with fail
                go_ret2
                exact HQ.out _ (Below.refl _ _)
        · obtain rfl : a = N := by omega
          have j1 : decide ((a : Int) < (a : Int)) = false := decide_eq_false (by omega)
          have HCELL : Hid (∀ wz : World, Below wr.heap.size wr wz → True) := Lib.hid (fun _ _ => trivial)
          clear hD hal
          have hfa2 : f < a := by have := HF.out; omega
          have e1 : ((a : Int) == (f : Int)) = false := by rw [beq_eq_false_iff_ne]; omega
          have hdd := HD.out.dec hfa2
          have HD1 : Hid (1 ≤ n) := Lib.hid hdd.2
          have HERRB : Hid (∀ x : Nat, Px.one (L.drop f) = .error x → ∀ w', Below wr.heap.size wr w' → RGetPost w L (.returned (.tuple #[.slice none 0 0, .int .i64 (x : Int)])) w') := Lib.hid (fun x hx w' hb => HS.out.err (by have := HN.out; have := HF.out; omega) x hx (HS.out.below.trans (hb.mono HS.out.below.size)))
          have HEND : Hid (L.drop f = Lib.decDigits n) := Lib.hid (by rw [hdd.1, List.take_of_length_le (by rw [List.length_drop]; have := HN.out; omega)])
          clear hdd hfa2
          by_cases hn1 : 1 < n
          · have d1 : decide (1 < (n : Int)) = true := decide_eq_true (by omega)
            have HG1 : Hid (∀ w, Calls Tryd.prog 26 #[.int .u64 ((n : Int) - 1)] w _) := Lib.hid (fun w => by have := rdigits_walk w (n - 1) (by omega); rw [show ((n - 1 : Nat) : Int) = (n : Int) - 1 by omega] at this; exact this)
            have HG2 := Lib.hid (fun w => rdigits_walk w n (by omega))
            obtain ⟨t1, ht1⟩ : ∃ x, (⟨(Lib.decDigits (n - 1)).toArray⟩ : ByteArray) = x := ⟨_, rfl⟩
            obtain ⟨t2, ht2⟩ : ∃ x, (⟨(Lib.decDigits n).toArray⟩ : ByteArray) = x := ⟨_, rfl⟩
            have s1 : t1.size = Lib.nDigits (n - 1) := by rw [← ht1, ← Px.dec_len]; simp [ByteArray.size]
            have s2 : t2.size = Lib.nDigits n := by rw [← ht2, ← Px.dec_len]; simp [ByteArray.size]
            rw [ht1] at HG1
            rw [ht2] at HG2
            have HN1 := Lib.hid hn1
            clear ht1 ht2
            by_cases hT : Lib.nDigits (n - 1) < Lib.nDigits n
            · have d2 : decide ((t1.size : Int) < (t2.size : Int)) = true := decide_eq_true (by omega)
              have d3 : decide (t1.size < t2.size) = true := decide_eq_true (by omega)
              by_cases hbig : 16777216 < 10 * n
              · have d4 : decide (16777216 < 10 * (n : Int)) = true := decide_eq_true (by omega)
                have HQ := Lib.hid (HERRB.out 5 (by rw [HEND.out, Px.r5 n HD.out.small, if_neg (fun h9 => ((Px.begSz_iff n HD1.out HD.out.small).1 h9) ⟨HN1.out, hT, hbig⟩)]))
                clear hbig hT
                clear s1 s2
                go_wp2_with (first
                  | ((with_reducible refine (HG1.out _).mono ?_); rintro e w2 ⟨rfl, hb⟩; have HB2 : Hid (Below wr.heap.size wr w2) := Lib.hid hb; clear hb)
                  | ((with_reducible refine (HG2.out _).mono ?_); rintro e w3 ⟨rfl, hb⟩; have HB3 : Hid (Below wr.heap.size wr w3) := Lib.hid (HB2.out.trans (hb.mono HB2.out.size)); have hcell3 := HCELL.out w3 HB3.out; clear hb))
                go_ret2
                exact HQ.out _ HB3.out
              · have d4 : decide (16777216 < 10 * (n : Int)) = false := decide_eq_false (by omega)
                have HQ := Lib.hid (HERRB.out 4 (by rw [HEND.out, Px.r5 n HD.out.small, if_pos ((Px.begSz_iff n HD1.out HD.out.small).2 (fun h9 => hbig h9.2.2))]))
                clear hbig hT
                clear s1 s2
                go_wp2_with (first
                  | ((with_reducible refine (HG1.out _).mono ?_); rintro e w2 ⟨rfl, hb⟩; have HB2 : Hid (Below wr.heap.size wr w2) := Lib.hid hb; clear hb)
                  | ((with_reducible refine (HG2.out _).mono ?_); rintro e w3 ⟨rfl, hb⟩; have HB3 : Hid (Below wr.heap.size wr w3) := Lib.hid (HB2.out.trans (hb.mono HB2.out.size)); have hcell3 := HCELL.out w3 HB3.out; clear hb))
                go_ret2
                exact HQ.out _ HB3.out
            · have d2 : decide ((t1.size : Int) < (t2.size : Int)) = false := decide_eq_false (by omega)
              have d3 : decide (t1.size < t2.size) = false := decide_eq_false (by omega)
              by_cases hbig : 16777216 < 10 * n
              · have d4 : decide (16777216 < 10 * (n : Int)) = true := decide_eq_true (by omega)
                have HQ := Lib.hid (HERRB.out 4 (by rw [HEND.out, Px.r5 n HD.out.small, if_pos ((Px.begSz_iff n HD1.out HD.out.small).2 (fun h9 => hT h9.2.1))]))
                clear hbig hT
                clear s1 s2
                go_wp2_with (first
                  | ((with_reducible refine (HG1.out _).mono ?_); rintro e w2 ⟨rfl, hb⟩; have HB2 : Hid (Below wr.heap.size wr w2) := Lib.hid hb; clear hb)
                  | ((with_reducible refine (HG2.out _).mono ?_); rintro e w3 ⟨rfl, hb⟩; have HB3 : Hid (Below wr.heap.size wr w3) := Lib.hid (HB2.out.trans (hb.mono HB2.out.size)); have hcell3 := HCELL.out w3 HB3.out; clear hb))
                go_ret2
                exact HQ.out _ HB3.out
              · have d4 : decide (16777216 < 10 * (n : Int)) = false := decide_eq_false (by omega)
                have HQ := Lib.hid (HERRB.out 4 (by rw [HEND.out, Px.r5 n HD.out.small, if_pos ((Px.begSz_iff n HD1.out HD.out.small).2 (fun h9 => hT h9.2.1))]))
                clear hbig hT
                clear s1 s2
                go_wp2_with (first
                  | ((with_reducible refine (HG1.out _).mono ?_); rintro e w2 ⟨rfl, hb⟩; have HB2 : Hid (Below wr.heap.size wr w2) := Lib.hid hb; clear hb)
                  | ((with_reducible refine (HG2.out _).mono ?_); rintro e w3 ⟨rfl, hb⟩; have HB3 : Hid (Below wr.heap.size wr w3) := Lib.hid (HB2.out.trans (hb.mono HB2.out.size)); have hcell3 := HCELL.out w3 HB3.out; clear hb))
                go_ret2
                exact HQ.out _ HB3.out
          · obtain rfl : n = 1 := by have := HD1.out; omega
            have d1 : decide (1 < ((1 : Nat) : Int)) = false := by decide
            have hT : ¬ Lib.nDigits (1 - 1) < Lib.nDigits 1 := by rw [Px.nDigits_small' (by omega), Px.nDigits_small' (by omega)]; omega
            have HQ := Lib.hid (HERRB.out 4 (by rw [HEND.out, Px.r5 1 HD.out.small, if_pos ((Px.begSz_iff 1 HD1.out HD.out.small).2 (fun h9 => hT h9.2.1))]))
            clear hT
            go_wp2_with fail
            go_ret2
            exact HQ.out _ (Below.refl _ _)
    · obtain rfl : f = N := by omega
      have hfI : decide ((f : Int) < (f : Int)) = false := decide_eq_false (by omega)
      have HQ : Hid (RGetPost w L (.returned (.tuple #[.slice p4 acc.length c4, .int .i64 0])) wr) := Lib.hid ⟨HS.out.below, .inr ⟨acc, _, by rw [HS.out.eq, show L.drop f = [] from List.drop_of_length_le (by have := HN.out; omega), Px.get_nil]; simp, rfl, HS.out.own⟩⟩
      clear hfl hfN
      go_wp2_with fail
      go_ret2
      exact HQ.out
end Go.Proofs.YtjgphicmkmdeiaaDoor
