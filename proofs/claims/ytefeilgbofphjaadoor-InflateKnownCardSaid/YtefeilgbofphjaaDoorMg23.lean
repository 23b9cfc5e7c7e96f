/-
  Merged, in the order in which they build: Hdb.
-/
import Derived.Deep.QuietTactic
import Derived.Test.YtefeilgbofphjaaDoorMg20
import Derived.Test.YtefeilgbofphjaaDoorMg22
/-
  heads: the head of a dynamic block is written.
-/
namespace Go.Proofs.YtefeilgbofphjaaDoor
open Go.RowKit Hf
theorem ints_at {w : World} {g n cap : Nat} {l : List Int} (h : SlV w (.slice (some ⟨g, 0, none⟩) n cap) (ni l)) (i : Nat) (hi : i < l.length) : w.cell? ⟨g, i, none⟩ = some (.int .i64 (l.getD i 0)) := by
  obtain ⟨g', o', hp, hc⟩ := ni_at h i hi
  cases hp
  rw [Nat.zero_add] at hc
  exact hc
theorem own_SlK {w : World} {B k : Nat} {t : TypeId} {v : Value} {n : Nat} {l : List Value} (h : w.ownsRow B t k v n l) : SlK k w v n l := by
  obtain ⟨h0, ⟨h1, h2⟩ | ⟨g, cap, cur, h1, h2, h3, h4, h5, h6, h7⟩⟩ := h
  · exact ⟨h0, .inr ⟨none, h1, h2⟩⟩
  · refine ⟨h0, .inl ⟨g, 0, cap, h1, h4, fun i u hi => ?_⟩⟩
    rw [Nat.zero_add, cell_of_row _ _ _ _ _ _ h3]
    have hi' := (List.getElem?_eq_some_iff.1 hi).1
    have e : cur.toList[i]? = l[i]? := by rw [← h7, List.getElem?_take, if_pos (by omega)]
    rw [← Array.getElem?_toList, e, hi]
theorem own_blk {w : World} {B k : Nat} {t : TypeId} {v : Value} {n : Nat} {l : List Value} (h : w.ownsRow B t k v n l) : ∀ p m c, v = .slice (some p) m c → 0 < m → p.block < w.heap.size := by
  intro p m c e _
  obtain ⟨h0, ⟨h1, h2⟩ | ⟨g, cap, cur, h1, h2, h3, _⟩⟩ := h
  · rw [h1] at e; cases e
  · rw [h1] at e; cases e; exact (Array.getElem?_eq_some_iff.1 h3).1
theorem one_made (w : World) (n : Nat) (c : Array Value) (hc : c.size = n) (hcl : c.toList = ni (List.replicate n 0)) (hn : n ≤ 1000000) : TwoAt w (w.alloc (.cells c 3)) (.slice (some ⟨w.heap.size, 0, none⟩) n n) (.slice none 0 0) (List.replicate n 0) [] := by
  refine ⟨⟨by simp, .inr ⟨w.heap.size, n, c, by simp, Nat.le_refl _, heap_alloc_new w _, by simp, by unfold maxLen; omega, by omega, ?_⟩⟩, World.ownsRow_nil _ _ _ _, fun j _ h => by simp [Value.ownBlock] at h, (Below.refl _ _).alloc (Nat.le_refl _) _⟩
  rw [← hcl, List.take_of_length_le (by simp [hc])]
theorem TwoAt.alloc {w wr : World} {a b : Value} {la lb : List Int} (h : TwoAt w wr a b la lb) (o : Obj) : TwoAt w (wr.alloc o) a b la lb :=
  ⟨World.ownsRow.alloc h.ra _, World.ownsRow.alloc h.rb _, h.ne, h.below.alloc h.below.size _⟩
def HdsPost (B g : Nat) (L : List Bool) (a b : List Int) (X : Nat → Prop) (w : World) (e : Ending) (w' : World) : Prop :=
  ∃ first rows, HeadOk a b first 19 rows ∧ (headBits a b first 19 rows).length ≤ 10000 ∧ PenPost B g (L ++ headBits a b first 19 rows) X w e w'
set_option maxRecDepth 100000 in
set_option maxHeartbeats 8000000 in
theorem heads_walk (w : World) (B gp : Nat) (sv av bv : Value) (L : List Bool) (a b : List Int) (hp : PenAt w B gp sv L) (ha : SlV w av (ni a)) (hb : SlV w bv (ni b)) (hla : a.length = 286) (hlb : b.length = 30) (hlow : low (a ++ b)) (hae : a.getD 256 0 ≠ 0) (ham : may a = 0) (hbm : may b = 0) (hL : L.length ≤ 1000000) (hB : B ≤ w.heap.size) :
    Calls Tryd.prog 17 #[.pointer (some ⟨gp, 0, none⟩), av, bv] w (HdsPost B gp L a b (penX gp sv) w) := by
  obtain ⟨i3, hi, hz0, hz1, hz2⟩ := info_parts info3
  have HI3 := Lib.hid (And.intro hi (And.intro hz0 (And.intro hz1 hz2)))
  clear hi hz0 hz1 hz2
  obtain ⟨i72, hi, hz0, hz1, hz2⟩ := info_parts info72
  have HI72 := Lib.hid (And.intro hi (And.intro hz0 (And.intro hz1 hz2)))
  clear hi hz0 hz1 hz2
  obtain ⟨pa, ca, hsa⟩ := ha.shape
  obtain ⟨pb, cb, hsb⟩ := hb.shape
  rw [ni_length, hla] at hsa
  rw [ni_length, hlb] at hsb
  subst hsa hsb
  have HA := Lib.hid ha
  have HBv := Lib.hid hb
  have HP := Lib.hid hp
  have HLA := Lib.hid hla
  have HLB := Lib.hid hlb
  have HLOW := Lib.hid hlow
  have HAE := Lib.hid (And.intro hae (And.intro ham hbm))
  have HLL := Lib.hid hL
  have HB := Lib.hid hB
  have HN0 : Hid (w.ownsRow w.heap.size 3 1 (.slice none 0 0) 0 []) := Lib.hid (World.ownsRow_nil _ _ _ _)
  have HK0 : Hid (SlK 1 w (.slice pa 286 ca) 286 (ni a)) := Lib.hid (by have := ha.toK; rw [ni_length, hla] at this; exact this)
  clear hp ha hb hla hlb hlow hae ham hbm hL hB
  go_enter Tryd.func17, Tryd.ntmps17
  go_wp2_with (first
    | (refine wpList_appK 53 3 i3 (.int .i64 0) 1 8 Tryd.underlying53 HI3.out.1 HI3.out.2.1 HI3.out.2.2.1 HI3.out.2.2.2 rfl (by decide) (by decide) rfl (.const (.slice none 0 0)) (.tmp 20) rfl w.heap.size (.slice none 0 0) (.slice pa 286 ca) 0 286 [] (ni a) rfl rfl (ni_one _) HN0.out HK0.out (Nat.le_refl _) (by omega) ?_; intro v1 w1 hown hgrow hat; have HG1 : Hid (OnlyS (fun _ => False) w w1) := Lib.hid (OnlyS.grown hgrow (fun k hk => by simp [Value.ownBlock] at hk)); have HO1 : Hid (w1.ownsRow w.heap.size 3 1 v1 286 (ni a)) := Lib.hid (by simpa using hown); clear hown hgrow hat; have HK1 : Hid (SlK 1 w1 (.slice pb 30 cb) 30 (ni b)) := Lib.hid (by have := (slv_heap HBv.out HG1.out).toK; rw [ni_length, HLB.out] at this; exact this); obtain ⟨p1, c1, hs1⟩ := (own_toV HO1.out).shape; rw [ni_length, HLA.out] at hs1; subst hs1)
    | (refine wpList_appK 53 3 i3 (.int .i64 0) 1 8 Tryd.underlying53 HI3.out.1 HI3.out.2.1 HI3.out.2.2.1 HI3.out.2.2.2 rfl (by decide) (by decide) rfl (.tmp 21) (.tmp 22) rfl w.heap.size (.slice p1 286 c1) (.slice pb 30 cb) 286 30 (ni a) (ni b) rfl rfl (ni_one _) HO1.out HK1.out HG1.out.size (by omega) ?_; intro v2 w2 hown hgrow hat; have HG2 : Hid (OnlyS (fun _ => False) w w2) := Lib.hid (HG1.out.trans' (OnlyS.grown (S := fun i => (Value.slice p1 286 c1).ownBlock = some i) hgrow (fun k hk => hk)) (fun i hi => .inr (own_lt HO1.out i hi).1)); have HO2 : Hid (w2.ownsRow w.heap.size 3 1 v2 316 (ni (a ++ b))) := Lib.hid (by rw [ni_append]; exact hown); clear hown hgrow hat))
  obtain ⟨all, hall⟩ : ∃ all, all = a ++ b := ⟨_, rfl⟩
  have HALL := Lib.hid hall
  have hal : all.length = 316 := by rw [hall, List.length_append, HLA.out, HLB.out]
  have hlow2 : low all := by rw [hall]; exact HLOW.out
  rw [← hall] at HO2
  obtain ⟨ga, cap, hv2, -, hgal, -, -, -, -, -⟩ := own_spot HO2.out (by omega)
  subst hv2
  have HSL : Hid (SlV w2 (.slice (some ⟨ga, 0, none⟩) 316 cap) (ni all)) := Lib.hid (own_toV HO2.out)
  have HAL := Lib.hid hal
  have HLW := Lib.hid hlow2
  have HS0 : Hid (SgAt w2 w2 0 (.slice none 0 0) (.slice none 0 0) (.slice none 0 0) [] []) := Lib.hid ⟨World.ownsRow_nil _ _ _ _, World.ownsRow_nil _ _ _ _, fun j hj => by simp [Value.ownBlock] at hj, OnlyS.refl _ _, Grew.refl _ _, fun j hj => by simp [Value.ownBlock] at hj⟩
  clear hall hal hlow2 HG1 HO1 HK1 HN0 HK0 HO2 hgal
  go_loopw [7, 8] (fun v7 v8 wr => ∃ (i : Nat) (rows : List Sg), i ≤ 316 ∧ v8 = .int .i64 (i : Int) ∧ SgAt w2 wr 0 (.slice none 0 0) v7 (.slice none 0 0) rows [] ∧ RwOk all rows i) (fun _ v8 _ => 316 - (intOf v8).toNat)
  case atStart => exact ⟨0, [], by decide, rfl, HS0.out, rw_zero _⟩
  case round =>
    clear HS0
    obtain ⟨i, rows, hi, rfl, hS, hrw⟩ := hrel
    obtain ⟨pl, cl, hsl⟩ := own_shape hS.row
    obtain ⟨m, hm⟩ : ∃ m, m = rows.length := ⟨_, rfl⟩
    rw [← hm] at hsl
    subst hsl
    have hm3 : m ≤ 316 := by have := hrw.le; omega
    have HS := Lib.hid hS
    have HRW := Lib.hid hrw
    have HM := Lib.hid hm
    clear hS hrw hm
    by_cases hlt : i < 316
    · have hlti : (i : Int) < 316 := by omega
      obtain ⟨s, hs⟩ : ∃ s : Nat, all.getD i 0 = (s : Int) ∧ s ≤ 15 := by
        have := low_getD HLW.out i
        exact ⟨(all.getD i 0).toNat, by omega, by omega⟩
      obtain ⟨hs1, hs2⟩ := hs
      have HS1 := Lib.hid hs1
      clear hs1
      obtain ⟨wz, rfl⟩ : ∃ wz, wz = wr := ⟨_, rfl⟩
      go_wp2_with fail
      go_loopw [9] (fun v9 wx => ∃ k : Nat, i ≤ k ∧ k ≤ 316 ∧ v9 = .int .i64 (k : Int) ∧ (∀ j, i ≤ j → j < k → all.getD j 0 = (s : Int)) ∧ OnlyS (fun _ => False) wz wx) (fun v9 _ => 316 - (intOf v9).toNat)
      case atStart => exact ⟨i, Nat.le_refl _, hi, rfl, fun j h1 h2 => by omega, OnlyS.refl _ _⟩
      case round =>
        obtain ⟨k, hik, hk, rfl, heq, hox⟩ := hrel
        have hS2 := HS.out.same hox
        have hsl2 : SlV wr (.slice (some ⟨ga, 0, none⟩) 316 cap) (ni all) := HSL.out.only hS2.only (fun _ _ _ _ _ h => by simp [Value.ownBlock] at h)
        have ei := ints_at hsl2 i (by rw [HAL.out]; exact hlt)
        rw [HS1.out] at ei
        have hii : (0 : Int) ≤ (i : Int) := by omega
        have HOX := Lib.hid hox
        have HSL2 := Lib.hid hsl2
        have HEQ := Lib.hid heq
        clear hox hS2 hsl2 heq
        by_cases hk3 : k < 316
        · have hki : (k : Int) < 316 := by omega
          have hkd : decide ((k : Int) < 316) = true := decide_eq_true hki
          have ek := ints_at HSL2.out k (by rw [HAL.out]; exact hk3)
          have hkk : (0 : Int) ≤ (k : Int) := by omega
          by_cases he : all.getD k 0 = (s : Int)
          · rw [he] at ek
            have HE := Lib.hid he
            clear he
            go_wp2_with fail
            go_quiet (fail)
            go_wp2_with fail
            refine ⟨⟨k + 1, by omega, by omega, by go_num, fun j h1 h2 => ?_, HOX.out.trans (OnlyS.drewN _ _)⟩, by simp [intOf]; omega⟩
            rcases Nat.lt_or_ge j k with h | h
            · exact HEQ.out j h1 h
            · obtain rfl : j = k := by omega
              exact HE.out
          · obtain ⟨z, hz⟩ : ∃ z, z = all.getD k 0 := ⟨_, rfl⟩
            rw [← hz] at ek he
            have hzs : (z == (s : Int)) = false := beq_eq_false_iff_ne.2 he
            have HK2 : Hid (i + 1 ≤ k) := Lib.hid (by
              rcases Nat.lt_or_ge i k with h | h
              · omega
              · exfalso
                obtain rfl : k = i := by omega
                exact he (by rw [hz, HS1.out]))
            clear hz he
            go_wp2_with fail
            go_quiet (fail)
            obtain ⟨wq, hwq⟩ : ∃ wq, wq = wr.drewN nq := ⟨_, rfl⟩
            rw [← hwq]
            have hoq : OnlyS (fun _ => False) wz wq := by rw [hwq]; exact HOX.out.trans (OnlyS.drewN _ _)
            have HSQ := Lib.hid (HS.out.same hoq)
            have hslq : SlV wq (.slice (some ⟨ga, 0, none⟩) 316 cap) (ni all) := HSL.out.only HSQ.out.only (fun _ _ _ _ _ h => by simp [Value.ownBlock] at h)
            have ei2 := ints_at hslq i (by rw [HAL.out]; exact hlt)
            rw [HS1.out] at ei2
            obtain ⟨r, hr⟩ : ∃ r, r = k - i := ⟨_, rfl⟩
            have hk1 := HK2.out
            have hri : (k : Int) - (i : Int) = (r : Int) := by omega
            have hr1 : 1 ≤ r := by omega
            have hirk : i + r = k := by omega
            have HEQR : Hid (∀ q, q ≤ r → ∀ j, i ≤ j → j < i + q → all.getD j 0 = (s : Int)) := Lib.hid (fun q hq j h1 h2 => HEQ.out j h1 (by omega))
            have HLEN : Hid (∀ q, q ≤ r → i + q ≤ all.length) := Lib.hid (fun q hq => by rw [HAL.out]; omega)
            have hir : i + r ≤ 316 := by omega
            clear hwq hslq hr hoq hirk hk1 ei
            simp only [Exit.then]
            by_cases hs0 : s = 0
            · subst hs0
              by_cases h11 : 11 ≤ r
              · obtain ⟨q, hq⟩ : ∃ q, q = min r 138 := ⟨_, rfl⟩
                have hrc : (11 : Int) ≤ (r : Int) := by omega
                have hmn : min (r : Int) 138 = (q : Int) := by omega
                have hq2 : (q : Int) - 11 = ((q - 11 : Nat) : Int) := by omega
                have hqr : 11 ≤ q ∧ q ≤ 138 ∧ q ≤ r := by omega
                clear hq
                have HPS := Lib.hid (sig_pre HSQ.out HM.out [⟨18, q - 11, 7⟩] 1 rfl _ rfl)
                have HRW2 := Lib.hid (rw_zeros HRW.out ⟨18, q - 11, 7⟩ q (HLEN.out q hqr.2.2) (HEQR.out q hqr.2.2) (.inl ⟨rfl, hqr.1, hqr.2.1⟩))
                go_wp2_with (refine wpList_appK 50 72 i72 (.agg #[.int .i64 0, .int .i64 0, .int .i64 0]) 3 24 Tryd.underlying50 HI72.out.1 HI72.out.2.1 HI72.out.2.2.1 HI72.out.2.2.2 rfl (by decide) (by decide) rfl (.tmp 71) (.tmp 75) rfl w2.heap.size (.slice pl m cl) (.slice (some ⟨wq.heap.size, 0, none⟩) 1 1) m 1 (sgc rows) (sgc [⟨18, q - 11, 7⟩]) rfl rfl (sgc_one _) HPS.out.1 HPS.out.2.1 HPS.out.2.2 (by omega) ?_; intro v1' w3 hown hgrow hat; have HS4 := Lib.hid (sig_post (ys := [⟨18, q - 11, 7⟩]) HSQ.out HM.out rfl hown hgrow hat); clear hown hgrow hat)
                exact ⟨⟨i + q, _, by omega, by go_num, HS4.out, HRW2.out⟩, by simp [intOf]; omega⟩
              · have hrc : (r : Int) < 11 := by omega
                by_cases h3 : 3 ≤ r
                · have hrc3 : (3 : Int) ≤ (r : Int) := by omega
                  have hq2 : (r : Int) - 3 = ((r - 3 : Nat) : Int) := by omega
                  have HPS := Lib.hid (sig_pre HSQ.out HM.out [⟨17, r - 3, 3⟩] 1 rfl _ rfl)
                  have HRW2 := Lib.hid (rw_zeros HRW.out ⟨17, r - 3, 3⟩ r (HLEN.out r (Nat.le_refl _)) (HEQR.out r (Nat.le_refl _)) (.inr ⟨rfl, h3, by omega⟩))
                  go_wp2_with (refine wpList_appK 50 72 i72 (.agg #[.int .i64 0, .int .i64 0, .int .i64 0]) 3 24 Tryd.underlying50 HI72.out.1 HI72.out.2.1 HI72.out.2.2.1 HI72.out.2.2.2 rfl (by decide) (by decide) rfl (.tmp 90) (.tmp 94) rfl w2.heap.size (.slice pl m cl) (.slice (some ⟨wq.heap.size, 0, none⟩) 1 1) m 1 (sgc rows) (sgc [⟨17, r - 3, 3⟩]) rfl rfl (sgc_one _) HPS.out.1 HPS.out.2.1 HPS.out.2.2 (by omega) ?_; intro v1' w3 hown hgrow hat; have HS4 := Lib.hid (sig_post (ys := [⟨17, r - 3, 3⟩]) HSQ.out HM.out rfl hown hgrow hat); clear hown hgrow hat)
                  exact ⟨⟨i + r, _, by omega, by go_num, HS4.out, HRW2.out⟩, by simp [intOf]; omega⟩
                · have hrc3 : (r : Int) < 3 := by omega
                  have hrc4 : (r : Int) < 4 := by omega
                  have HPS := Lib.hid (sig_pre HSQ.out HM.out [⟨0, 0, 0⟩] 1 rfl _ rfl)
                  have HRW2 := Lib.hid (rw_one HRW.out 0 hs2 (HLEN.out 1 hr1) (HEQR.out 1 hr1 i (Nat.le_refl _) (by omega)))
                  go_wp2_with (refine wpList_appK 50 72 i72 (.agg #[.int .i64 0, .int .i64 0, .int .i64 0]) 3 24 Tryd.underlying50 HI72.out.1 HI72.out.2.1 HI72.out.2.2.1 HI72.out.2.2.2 rfl (by decide) (by decide) rfl (.tmp 49) (.tmp 55) rfl w2.heap.size (.slice pl m cl) (.slice (some ⟨wq.heap.size, 0, none⟩) 1 1) m 1 (sgc rows) (sgc [⟨0, 0, 0⟩]) rfl rfl (sgc_one _) HPS.out.1 HPS.out.2.1 HPS.out.2.2 (by omega) ?_; intro v1' w3 hown hgrow hat; have HS4 := Lib.hid (sig_post (ys := [⟨0, 0, 0⟩]) HSQ.out HM.out rfl hown hgrow hat); clear hown hgrow hat)
                  exact ⟨⟨i + 1, _, by omega, by go_num, HS4.out, HRW2.out⟩, by simp [intOf]; omega⟩
            · have hs00 : ((s : Int) == 0) = false := beq_eq_false_iff_ne.2 (by omega)
              by_cases h4 : 4 ≤ r
              · obtain ⟨q, hq⟩ : ∃ q, q = min r 7 := ⟨_, rfl⟩
                have hrc : (4 : Int) ≤ (r : Int) := by omega
                have hmn : min (r : Int) 7 = (q : Int) := by omega
                have hq2 : (q : Int) - 4 = ((q - 4 : Nat) : Int) := by omega
                have hqr : 4 ≤ q ∧ q ≤ 7 ∧ q ≤ r := by omega
                clear hq
                have HPS := Lib.hid (sig_pre HSQ.out HM.out [⟨s, 0, 0⟩, ⟨16, q - 4, 2⟩] 2 rfl _ rfl)
                have HRW2 := Lib.hid (rw_again HRW.out s q hs2 hqr.1 hqr.2.1 (HLEN.out q hqr.2.2) (HEQR.out q hqr.2.2))
                go_wp2_with (refine wpList_appK 50 72 i72 (.agg #[.int .i64 0, .int .i64 0, .int .i64 0]) 3 24 Tryd.underlying50 HI72.out.1 HI72.out.2.1 HI72.out.2.2.1 HI72.out.2.2.2 rfl (by decide) (by decide) rfl (.tmp 104) (.tmp 113) rfl w2.heap.size (.slice pl m cl) (.slice (some ⟨wq.heap.size, 0, none⟩) 2 2) m 2 (sgc rows) (sgc [⟨s, 0, 0⟩, ⟨16, q - 4, 2⟩]) rfl rfl (sgc_one _) HPS.out.1 HPS.out.2.1 HPS.out.2.2 (by omega) ?_; intro v1' w3 hown hgrow hat; have HS4 := Lib.hid (sig_post (ys := [⟨s, 0, 0⟩, ⟨16, q - 4, 2⟩]) HSQ.out HM.out rfl hown hgrow hat); clear hown hgrow hat)
                exact ⟨⟨i + q, _, by omega, by go_num, HS4.out, HRW2.out⟩, by simp [intOf]; omega⟩
              · have hrc4 : (r : Int) < 4 := by omega
                have HPS := Lib.hid (sig_pre HSQ.out HM.out [⟨s, 0, 0⟩] 1 rfl _ rfl)
                have HRW2 := Lib.hid (rw_one HRW.out s hs2 (HLEN.out 1 hr1) (HEQR.out 1 hr1 i (Nat.le_refl _) (by omega)))
                go_wp2_with (refine wpList_appK 50 72 i72 (.agg #[.int .i64 0, .int .i64 0, .int .i64 0]) 3 24 Tryd.underlying50 HI72.out.1 HI72.out.2.1 HI72.out.2.2.1 HI72.out.2.2.2 rfl (by decide) (by decide) rfl (.tmp 49) (.tmp 55) rfl w2.heap.size (.slice pl m cl) (.slice (some ⟨wq.heap.size, 0, none⟩) 1 1) m 1 (sgc rows) (sgc [⟨s, 0, 0⟩]) rfl rfl (sgc_one _) HPS.out.1 HPS.out.2.1 HPS.out.2.2 (by omega) ?_; intro v1' w3 hown hgrow hat; have HS4 := Lib.hid (sig_post (ys := [⟨s, 0, 0⟩]) HSQ.out HM.out rfl hown hgrow hat); clear hown hgrow hat)
                exact ⟨⟨i + 1, _, by omega, by go_num, HS4.out, HRW2.out⟩, by simp [intOf]; omega⟩
        · obtain rfl : k = 316 := by omega
          have hkd : decide ((316 : Int) < 316) = false := by decide
          have hki : (316 : Int) ≤ 316 := by decide
          have HK2 : Hid (i + 1 ≤ 316) := Lib.hid hlt
          go_wp2_with fail
          go_quiet (fail)
          obtain ⟨wq, hwq⟩ : ∃ wq, wq = wr.drewN nq := ⟨_, rfl⟩
          rw [← hwq]
          have hoq : OnlyS (fun _ => False) wz wq := by rw [hwq]; exact HOX.out.trans (OnlyS.drewN _ _)
          have HSQ := Lib.hid (HS.out.same hoq)
          have hslq : SlV wq (.slice (some ⟨ga, 0, none⟩) 316 cap) (ni all) := HSL.out.only HSQ.out.only (fun _ _ _ _ _ h => by simp [Value.ownBlock] at h)
          have ei2 := ints_at hslq i (by rw [HAL.out]; exact hlt)
          rw [HS1.out] at ei2
          obtain ⟨r, hr⟩ : ∃ r, r = 316 - i := ⟨_, rfl⟩
          have hk1 := HK2.out
          have hri : (316 : Int) - (i : Int) = (r : Int) := by omega
          have hr1 : 1 ≤ r := by omega
          have hirk : i + r = 316 := by omega
          have HEQR : Hid (∀ q, q ≤ r → ∀ j, i ≤ j → j < i + q → all.getD j 0 = (s : Int)) := Lib.hid (fun q hq j h1 h2 => HEQ.out j h1 (by omega))
          have HLEN : Hid (∀ q, q ≤ r → i + q ≤ all.length) := Lib.hid (fun q hq => by rw [HAL.out]; omega)
          have hir : i + r ≤ 316 := by omega
          clear hwq hslq hr hoq hirk hk1 ei
          simp only [Exit.then]
          by_cases hs0 : s = 0
          · subst hs0
            by_cases h11 : 11 ≤ r
            · obtain ⟨q, hq⟩ : ∃ q, q = min r 138 := ⟨_, rfl⟩
              have hrc : (11 : Int) ≤ (r : Int) := by omega
              have hmn : min (r : Int) 138 = (q : Int) := by omega
              have hq2 : (q : Int) - 11 = ((q - 11 : Nat) : Int) := by omega
              have hqr : 11 ≤ q ∧ q ≤ 138 ∧ q ≤ r := by omega
              clear hq
              have HPS := Lib.hid (sig_pre HSQ.out HM.out [⟨18, q - 11, 7⟩] 1 rfl _ rfl)
              have HRW2 := Lib.hid (rw_zeros HRW.out ⟨18, q - 11, 7⟩ q (HLEN.out q hqr.2.2) (HEQR.out q hqr.2.2) (.inl ⟨rfl, hqr.1, hqr.2.1⟩))
              go_wp2_with (refine wpList_appK 50 72 i72 (.agg #[.int .i64 0, .int .i64 0, .int .i64 0]) 3 24 Tryd.underlying50 HI72.out.1 HI72.out.2.1 HI72.out.2.2.1 HI72.out.2.2.2 rfl (by decide) (by decide) rfl (.tmp 71) (.tmp 75) rfl w2.heap.size (.slice pl m cl) (.slice (some ⟨wq.heap.size, 0, none⟩) 1 1) m 1 (sgc rows) (sgc [⟨18, q - 11, 7⟩]) rfl rfl (sgc_one _) HPS.out.1 HPS.out.2.1 HPS.out.2.2 (by omega) ?_; intro v1' w3 hown hgrow hat; have HS4 := Lib.hid (sig_post (ys := [⟨18, q - 11, 7⟩]) HSQ.out HM.out rfl hown hgrow hat); clear hown hgrow hat)
              exact ⟨⟨i + q, _, by omega, by go_num, HS4.out, HRW2.out⟩, by simp [intOf]; omega⟩
            · have hrc : (r : Int) < 11 := by omega
              by_cases h3 : 3 ≤ r
              · have hrc3 : (3 : Int) ≤ (r : Int) := by omega
                have hq2 : (r : Int) - 3 = ((r - 3 : Nat) : Int) := by omega
                have HPS := Lib.hid (sig_pre HSQ.out HM.out [⟨17, r - 3, 3⟩] 1 rfl _ rfl)
                have HRW2 := Lib.hid (rw_zeros HRW.out ⟨17, r - 3, 3⟩ r (HLEN.out r (Nat.le_refl _)) (HEQR.out r (Nat.le_refl _)) (.inr ⟨rfl, h3, by omega⟩))
                go_wp2_with (refine wpList_appK 50 72 i72 (.agg #[.int .i64 0, .int .i64 0, .int .i64 0]) 3 24 Tryd.underlying50 HI72.out.1 HI72.out.2.1 HI72.out.2.2.1 HI72.out.2.2.2 rfl (by decide) (by decide) rfl (.tmp 90) (.tmp 94) rfl w2.heap.size (.slice pl m cl) (.slice (some ⟨wq.heap.size, 0, none⟩) 1 1) m 1 (sgc rows) (sgc [⟨17, r - 3, 3⟩]) rfl rfl (sgc_one _) HPS.out.1 HPS.out.2.1 HPS.out.2.2 (by omega) ?_; intro v1' w3 hown hgrow hat; have HS4 := Lib.hid (sig_post (ys := [⟨17, r - 3, 3⟩]) HSQ.out HM.out rfl hown hgrow hat); clear hown hgrow hat)
                exact ⟨⟨i + r, _, by omega, by go_num, HS4.out, HRW2.out⟩, by simp [intOf]; omega⟩
              · have hrc3 : (r : Int) < 3 := by omega
                have hrc4 : (r : Int) < 4 := by omega
                have HPS := Lib.hid (sig_pre HSQ.out HM.out [⟨0, 0, 0⟩] 1 rfl _ rfl)
                have HRW2 := Lib.hid (rw_one HRW.out 0 hs2 (HLEN.out 1 hr1) (HEQR.out 1 hr1 i (Nat.le_refl _) (by omega)))
                go_wp2_with (refine wpList_appK 50 72 i72 (.agg #[.int .i64 0, .int .i64 0, .int .i64 0]) 3 24 Tryd.underlying50 HI72.out.1 HI72.out.2.1 HI72.out.2.2.1 HI72.out.2.2.2 rfl (by decide) (by decide) rfl (.tmp 49) (.tmp 55) rfl w2.heap.size (.slice pl m cl) (.slice (some ⟨wq.heap.size, 0, none⟩) 1 1) m 1 (sgc rows) (sgc [⟨0, 0, 0⟩]) rfl rfl (sgc_one _) HPS.out.1 HPS.out.2.1 HPS.out.2.2 (by omega) ?_; intro v1' w3 hown hgrow hat; have HS4 := Lib.hid (sig_post (ys := [⟨0, 0, 0⟩]) HSQ.out HM.out rfl hown hgrow hat); clear hown hgrow hat)
                exact ⟨⟨i + 1, _, by omega, by go_num, HS4.out, HRW2.out⟩, by simp [intOf]; omega⟩
          · have hs00 : ((s : Int) == 0) = false := beq_eq_false_iff_ne.2 (by omega)
            by_cases h4 : 4 ≤ r
            · obtain ⟨q, hq⟩ : ∃ q, q = min r 7 := ⟨_, rfl⟩
              have hrc : (4 : Int) ≤ (r : Int) := by omega
              have hmn : min (r : Int) 7 = (q : Int) := by omega
              have hq2 : (q : Int) - 4 = ((q - 4 : Nat) : Int) := by omega
              have hqr : 4 ≤ q ∧ q ≤ 7 ∧ q ≤ r := by omega
              clear hq
              have HPS := Lib.hid (sig_pre HSQ.out HM.out [⟨s, 0, 0⟩, ⟨16, q - 4, 2⟩] 2 rfl _ rfl)
              have HRW2 := Lib.hid (rw_again HRW.out s q hs2 hqr.1 hqr.2.1 (HLEN.out q hqr.2.2) (HEQR.out q hqr.2.2))
              go_wp2_with (refine wpList_appK 50 72 i72 (.agg #[.int .i64 0, .int .i64 0, .int .i64 0]) 3 24 Tryd.underlying50 HI72.out.1 HI72.out.2.1 HI72.out.2.2.1 HI72.out.2.2.2 rfl (by decide) (by decide) rfl (.tmp 104) (.tmp 113) rfl w2.heap.size (.slice pl m cl) (.slice (some ⟨wq.heap.size, 0, none⟩) 2 2) m 2 (sgc rows) (sgc [⟨s, 0, 0⟩, ⟨16, q - 4, 2⟩]) rfl rfl (sgc_one _) HPS.out.1 HPS.out.2.1 HPS.out.2.2 (by omega) ?_; intro v1' w3 hown hgrow hat; have HS4 := Lib.hid (sig_post (ys := [⟨s, 0, 0⟩, ⟨16, q - 4, 2⟩]) HSQ.out HM.out rfl hown hgrow hat); clear hown hgrow hat)
              exact ⟨⟨i + q, _, by omega, by go_num, HS4.out, HRW2.out⟩, by simp [intOf]; omega⟩
            · have hrc4 : (r : Int) < 4 := by omega
              have HPS := Lib.hid (sig_pre HSQ.out HM.out [⟨s, 0, 0⟩] 1 rfl _ rfl)
              have HRW2 := Lib.hid (rw_one HRW.out s hs2 (HLEN.out 1 hr1) (HEQR.out 1 hr1 i (Nat.le_refl _) (by omega)))
              go_wp2_with (refine wpList_appK 50 72 i72 (.agg #[.int .i64 0, .int .i64 0, .int .i64 0]) 3 24 Tryd.underlying50 HI72.out.1 HI72.out.2.1 HI72.out.2.2.1 HI72.out.2.2.2 rfl (by decide) (by decide) rfl (.tmp 49) (.tmp 55) rfl w2.heap.size (.slice pl m cl) (.slice (some ⟨wq.heap.size, 0, none⟩) 1 1) m 1 (sgc rows) (sgc [⟨s, 0, 0⟩]) rfl rfl (sgc_one _) HPS.out.1 HPS.out.2.1 HPS.out.2.2 (by omega) ?_; intro v1' w3 hown hgrow hat; have HS4 := Lib.hid (sig_post (ys := [⟨s, 0, 0⟩]) HSQ.out HM.out rfl hown hgrow hat); clear hown hgrow hat)
              exact ⟨⟨i + 1, _, by omega, by go_num, HS4.out, HRW2.out⟩, by simp [intOf]; omega⟩
    · have HROWS : Hid (dec rows [] = all ∧ okGs rows [] ∧ 3 ≤ m) := Lib.hid (by
        have h := HRW.out
        obtain rfl : i = 316 := by omega
        have h2 := h.dec
        rw [List.take_of_length_le (by rw [HAL.out]; exact Nat.le_refl _)] at h2
        have h3 := h.ge
        have h4 := HM.out
        exact ⟨h2, h.ok, by omega⟩)
      have hlti : (316 : Int) ≤ (i : Int) := by omega
      obtain ⟨c, hc, hcl, hcm⟩ := made_zeros 19
      have hm1 : ∀ w : World, (Instr.makeSlice 53 (.int .i64 19) (.int .i64 19)).run Tryd.prog w = .ok (.slice (some ⟨w.heap.size, 0, none⟩) 19 19) (w.alloc (.cells c 3)) := hcm i3 HI3.out.1 HI3.out.2.1 HI3.out.2.2.1 HI3.out.2.2.2 (by decide)
      have H0 : Hid (TwoAt wr (wr.alloc (.cells c 3)) (.slice (some ⟨wr.heap.size, 0, none⟩) 19 19) (.slice none 0 0) (cnt ((rows.take 0).map (·.s)) 19) []) := Lib.hid (by
        rw [List.take_zero, List.map_nil, cnt_nil]
        exact one_made wr 19 c hc hcl (by decide))
      have HRR : Hid (SlK 3 wr (.slice pl m cl) m (sgc rows)) := Lib.hid (by have := own_SlK HS.out.row; rw [← HM.out] at this; exact this)
      have HRO : Hid (∀ p n c', Value.slice pl m cl = .slice (some p) n c' → 0 < n → p.block < wr.heap.size) := Lib.hid (own_blk HS.out.row)
      clear hcm hc hcl
      obtain ⟨wz, rfl⟩ : ∃ wz, wz = wr := ⟨_, rfl⟩
      go_wp2_with fail
      obtain ⟨gc, hgc⟩ : ∃ gc, gc = wz.heap.size := ⟨_, rfl⟩
      rw [← hgc] at H0 ⊢
      have HGC := Lib.hid hgc
      clear hgc
      go_loopw [121] (fun v121 wr => ∃ k : Nat, k ≤ m ∧ v121 = .int .i64 (k : Int) ∧ TwoAt wz wr (.slice (some ⟨gc, 0, none⟩) 19 19) (.slice none 0 0) (cnt ((rows.take k).map (·.s)) 19) []) (fun v121 _ => m - (intOf v121).toNat)
      case atStart => exact ⟨0, Nat.zero_le _, rfl, H0.out⟩
      case round =>
        clear H0
        obtain ⟨k, hkm, rfl, hT⟩ := hrel
        have HT := Lib.hid hT
        have hRk : SlK 3 wr (.slice pl m cl) m (sgc rows) := HRR.out.only (S := fun _ => False) (OnlyS.of_below hT.below) (fun _ _ _ _ _ h => h)
        by_cases hk3 : k < m
        · have hki : (k : Int) < (m : Int) := by omega
          obtain ⟨gr, orr, hpr, e0, e1, e2⟩ := sg_at hRk HM.out k (by rw [← HM.out]; exact hk3)
          subst hpr
          obtain ⟨q, hq⟩ : ∃ q, q = rows.getD k nog := ⟨_, rfl⟩
          rw [← hq] at e0 e1 e2
          have hqs : q.s ≤ 18 := by
            have hmem : q ∈ rows := by rw [hq, List.getD_eq_getElem?_getD, List.getElem?_eq_getElem (by rw [← HM.out]; exact hk3)]; exact List.getElem_mem _
            exact (okGs_all rows [] HROWS.out.2.1 q hmem).1
          have htk : (rows.take (k + 1)).map (·.s) = (rows.take k).map (·.s) ++ [q.s] := by
            have hkl : k < rows.length := by rw [← HM.out]; exact hk3
            rw [List.take_add_one, List.getElem?_eq_getElem hkl, List.map_append]
            congr 1
            rw [hq]; simp [hkl]
          obtain ⟨s, x, mm⟩ := q
          simp only at e0 e1 e2 hqs htk
          have hT2 := hT.alloc (.cells #[.int .i64 (s : Int), .int .i64 (x : Int), .int .i64 (mm : Int)] 72)
          obtain ⟨c1, f1, hset⟩ := hT2.set s (by rw [cnt_length]; omega)
          have hset2 := hset ((cnt ((rows.take k).map (·.s)) 19).getD s 0 + 1)
          rw [cnt_more _ _ _ (by omega), ← htk] at hset2
          have hcb : 0 ≤ (cnt ((rows.take k).map (·.s)) 19).getD s 0 ∧ (cnt ((rows.take k).map (·.s)) 19).getD s 0 ≤ 1000 := by
            rw [cnt_getD _ _ _ (by omega)]
            have h1 := List.count_le_length (a := s) (l := (rows.take k).map (·.s))
            rw [List.length_map, List.length_take] at h1
            omega
          obtain ⟨u, hu⟩ : ∃ u, u = (cnt ((rows.take k).map (·.s)) 19).getD s 0 := ⟨_, rfl⟩
          rw [← hu] at c1 hset2 hcb
          have HSET := Lib.hid hset2
          have hsi : (s : Int) < 19 := by omega
          clear hset hset2 hT hT2 hu hq htk hRk
          go_wp2_with fail
          exact ⟨⟨k + 1, by omega, by go_num, HSET.out⟩, by simp [intOf]; omega⟩
        · have hki : (m : Int) ≤ (k : Int) := by omega
          obtain rfl : k = m := by omega
          obtain ⟨cts, hcts⟩ : ∃ cts, cts = cnt (rows.map (·.s)) 19 := ⟨_, rfl⟩
          have hctl : cts.length = 19 := by rw [hcts, cnt_length]
          have htake : rows.take k = rows := List.take_of_length_le (by rw [← HM.out]; exact Nat.le_refl _)
          rw [htake, ← hcts] at hT
          have hok : okC cts = true := by rw [hcts]; exact cnt_ok _ _ (by decide) (by rw [List.length_map, ← HM.out]; omega)
          have hsy : (syms cts).length ≤ 2 ^ 7 := Nat.le_trans (syms_le cts) (by rw [hctl]; decide)
          have HLN := Lib.hid (plens_walk wr (.slice (some ⟨gc, 0, none⟩) 19 19) cts 7 (own_toV hT.ra) hok (by decide) (by decide) hsy)
          have hLens := lens_are cts 7 (by decide) (by decide) hsy
          have hps : ∀ g ∈ rows, 0 < cts.getD g.s 0 := fun g hg => by
            rw [hcts]
            exact cnt_pos _ _ _ (by have := (okGs_all rows [] HROWS.out.2.1 g hg).1; omega) (List.mem_map_of_mem hg)
          rw [hctl] at HLN
          obtain ⟨first, hfirst⟩ : ∃ first, first = lensF cts 7 := ⟨_, rfl⟩
          rw [← hfirst] at HLN hLens
          have hfgood := hLens.good (by decide) (by rw [hctl]; decide)
          have HF : Hid (first.length = 19 ∧ (∀ i, 0 ≤ first.getD i 0 ∧ first.getD i 0 < 8) ∧ may first = 0 ∧ Coded first ∧ ∀ g ∈ rows, 0 < first.getD g.s 0) := Lib.hid ⟨by rw [hLens.len, hctl], fun i => by have := hLens.bound i; omega, hLens.may (by decide) (by rw [hctl]; decide), ⟨hfgood, hLens.kr⟩, fun g hg => (hLens.pos g.s).2 (hps g hg)⟩
          have HWX : Hid (OnlyS (fun _ => False) w wr) := Lib.hid ((HG2.out.trans (HS.out.only.mono fun _ _ h => by simp [Value.ownBlock] at h)).trans (OnlyS.of_below hT.below))
          have HRWX : Hid (OnlyS (fun _ => False) wz wr) := Lib.hid (OnlyS.of_below hT.below)
          have hm3' := HROWS.out.2.2
          clear hok hsy hLens hps hfirst hfgood hctl htake hT hcts HT hRk hkm
          obtain ⟨wy, rfl⟩ : ∃ wy, wy = wr := ⟨_, rfl⟩
          go_wp2_with fail
          refine HLN.out.mono ?_
          rintro e w5 ⟨u, rfl, hb5, ho5⟩
          have h25 := HRWX.out.trans (OnlyS.of_below (S := fun _ => False) hb5)
          have HR5 : Hid (SlK 3 w5 (.slice pl k cl) k (sgc rows)) := Lib.hid (HRR.out.only h25 (fun _ _ _ _ _ h => h))
          have HW5 : Hid (OnlyS (fun _ => False) w w5) := Lib.hid (HWX.out.trans (OnlyS.of_below hb5))
          obtain ⟨gf, cf, hu, hgf, hgfl, -, -, -, -, -⟩ := own_spot ho5 (by omega)
          subst hu
          have HF5 : Hid (SlV w5 (.slice (some ⟨gf, 0, none⟩) 19 cf) (ni first)) := Lib.hid (own_toV ho5)
          have HGF : Hid (w.heap.size ≤ gf ∧ gf < w5.heap.size) := Lib.hid ⟨Nat.le_trans HWX.out.size hgf, hgfl⟩
          have HWS : Hid (w.heap.size ≤ w5.heap.size) := Lib.hid HW5.out.size
          have HRO5 : Hid (∀ p n c', Value.slice pl k cl = .slice (some p) n c' → 0 < n → w.heap.size ≤ p.block ∧ p.block < w5.heap.size) := Lib.hid (fun p n c' e h0 => by
            have h1 := HRO.out p n c' e h0
            have h2 : w2.heap.size ≤ p.block := by
              obtain ⟨_, ⟨h1, _⟩ | ⟨g, cap, cur, h1, h2, _⟩⟩ := HS.out.row
              · rw [h1] at e; cases e
              · rw [h1] at e; cases e; exact h2
            exact ⟨Nat.le_trans HG2.out.size h2, Nat.lt_of_lt_of_le h1 h25.size⟩)
          obtain ⟨gr, orr, hpr, e0, -, -⟩ := sg_at HR5.out HM.out 0 (by rw [← HM.out]; omega)
          subst hpr
          have el := (sg_at HR5.out HM.out (k - 1) (by rw [← HM.out]; omega))
          obtain ⟨gr', orr', hpr', el, -, -⟩ := el
          cases hpr'
          rw [Nat.zero_mul, Nat.add_zero] at e0
          obtain ⟨mz, hmz⟩ : ∃ mz, mz = k - 1 := ⟨_, rfl⟩
          rw [← hmz] at el
          have hmzi : (k : Int) - 1 = (mz : Int) := by omega
          have hwmz : IntKind.i64.wrap ((k : Int) - 1) = (mz : Int) := by rw [hmzi]; exact IntWalk.i64_in _ (by omega)
          have hmz0 : (0 : Int) ≤ (mz : Int) := by omega
          have hmzk : (mz : Int) < (k : Int) := by omega
          have hk0 : (0 : Int) < (k : Int) := by omega
          have hk1 : ((k : Int) == 1) = false := beq_eq_false_iff_ne.2 (by omega)
          obtain ⟨s0, hs0⟩ : ∃ s0, s0 = (rows.getD 0 nog).s := ⟨_, rfl⟩
          obtain ⟨sl, hsl⟩ : ∃ sl, sl = (rows.getD mz nog).s := ⟨_, rfl⟩
          rw [← hs0] at e0
          rw [← hsl] at el
          have HP5 := Lib.hid (HP.out.stay HW5.out (fun _ h => h.elim))
          clear hb5 h25 ho5 hgf hgfl hmz hs0 hsl HLN
          have hbb : ((s0 : Int) == (sl : Int)) = true ∨ ((s0 : Int) == (sl : Int)) = false := by cases ((s0 : Int) == (sl : Int)) <;> simp
          go_wp2_with fail
          rcases hbb with hbb | hbb
          all_goals
            go_quiet (fail)
            simp only [Exit.then]
            obtain ⟨w6, hw6⟩ : ∃ w6, w6 = w5.drewN nq := ⟨_, rfl⟩
            rw [← hw6]
            have h56 : OnlyS (fun _ => False) w5 w6 := by rw [hw6]; exact OnlyS.drewN _ _
            have HW6 : Hid (OnlyS (fun _ => False) w w6) := Lib.hid (HW5.out.trans h56)
            have HR6 : Hid (SlK 3 w6 (.slice (some ⟨gr, orr, none⟩) k cl) k (sgc rows)) := Lib.hid (HR5.out.only h56 (fun _ _ _ _ _ h => h))
            have HF6 : Hid (SlV w6 (.slice (some ⟨gf, 0, none⟩) 19 cf) (ni first)) := Lib.hid (slv_heap HF5.out h56)
            have HGF6 : Hid (w.heap.size ≤ gf ∧ gf < w6.heap.size) := Lib.hid ⟨HGF.out.1, Nat.lt_of_lt_of_le HGF.out.2 h56.size⟩
            have HRO6 : Hid (k ≠ 0 → w.heap.size ≤ gr ∧ gr < w6.heap.size) := Lib.hid (fun h0 => by
              have := HRO5.out ⟨gr, orr, none⟩ k cl rfl (by omega)
              exact ⟨this.1, Nat.lt_of_lt_of_le this.2 h56.size⟩)
            have HP6 : Hid (PenAt w6 B gp sv L) := Lib.hid (HP5.out.stay h56 (fun _ h => h.elim))
            have HXL : Hid (∀ i, penX gp sv i → i < w.heap.size) := Lib.hid (fun i hi => (HP.out.x_lt i hi).2)
            have HB6 : Hid (B ≤ w6.heap.size) := Lib.hid (Nat.le_trans HB.out HW6.out.size)
            have HC1 : Hid (Calls Tryd.prog 10 #[.pointer (some ⟨gp, 0, none⟩), .int .i64 29, .int .i64 5] w6 (PenPost B gp (L ++ num 29 5) (penX gp sv) w6)) := Lib.hid (pnum_walk w6 B gp 29 5 sv L HP6.out (by have := HLL.out; omega) (by decide) (by decide) HB6.out)
            clear hw6 h56 e0 el hbb hmzi hwmz hmz0 hmzk hk1 HP5 HR5 HF5 HRO5 HGF HWS HS HRR HRO HRWX HWX
            go_wp2_with fail
            refine HC1.out.mono ?_
            rintro e w7 ⟨rfl, ho7, sv7, hp7, hg7⟩
            have HC2 : Hid (Calls Tryd.prog 10 #[.pointer (some ⟨gp, 0, none⟩), .int .i64 29, .int .i64 5] w7 (PenPost B gp (L ++ num 29 5 ++ num 29 5) (penX gp sv) w6)) := Lib.hid ((pnum_walk w7 B gp 29 5 sv7 _ hp7 (by have := HLL.out; simp; omega) (by decide) (by decide) (Nat.le_trans HB6.out ho7.size)).mono (fun e w' h => h.before ho7 hg7))
            clear ho7 hp7 hg7 HC1
            go_wp2_with fail
            refine HC2.out.mono ?_
            rintro e w8 ⟨rfl, ho8, sv8, hp8, hg8⟩
            have HC3 : Hid (Calls Tryd.prog 10 #[.pointer (some ⟨gp, 0, none⟩), .int .i64 15, .int .i64 4] w8 (PenPost B gp (L ++ num 29 5 ++ num 29 5 ++ num 15 4) (penX gp sv) w6)) := Lib.hid ((pnum_walk w8 B gp 15 4 sv8 _ hp8 (by have := HLL.out; simp; omega) (by decide) (by decide) (Nat.le_trans HB6.out ho8.size)).mono (fun e w' h => h.before ho8 hg8))
            clear ho8 hp8 hg8 HC2
            go_wp2_with fail
            refine HC3.out.mono ?_
            rintro e w9 ⟨rfl, ho9, sv9, hp9, hg9⟩
            obtain ⟨v, hv⟩ : ∃ v : Nat → Nat, v = fun k => (first.getD (Inf.order.getD k 0) 0).toNat := ⟨_, rfl⟩
            have H0 : Hid (∃ sv', PenAt w9 B gp sv' (L ++ num 29 5 ++ num 29 5 ++ num 15 4 ++ telBits v 0 0) ∧ OnlyS (penX gp sv) w6 w9 ∧ Grew w6 (penX gp sv) (penX gp sv')) := Lib.hid ⟨sv9, by rw [telBits, List.append_nil]; exact hp9, ho9, hg9⟩
            clear ho9 hp9 hg9 HC3
            obtain ⟨L3, hL3⟩ : ∃ L3, L3 = L ++ num 29 5 ++ num 29 5 ++ num 15 4 := ⟨_, rfl⟩
            rw [← hL3] at H0
            have HL3 := Lib.hid hL3
            have HL3l : Hid (L3.length ≤ 1000020) := Lib.hid (by rw [hL3]; have := HLL.out; simp; omega)
            have HV := Lib.hid hv
            clear hL3 hv
            go_wp2_with fail
            go_loopw [160] (fun v160 wr => ∃ q : Nat, q ≤ 19 ∧ v160 = .int .i64 (q : Int) ∧ ∃ sv', PenAt wr B gp sv' (L3 ++ telBits v q 0) ∧ OnlyS (penX gp sv) w6 wr ∧ Grew w6 (penX gp sv) (penX gp sv')) (fun v160 _ => 19 - (intOf v160).toNat)
            case atStart => exact ⟨0, by decide, rfl, H0.out⟩
            case round =>
              clear H0
              obtain ⟨q, hq19, rfl, sv', hp, ho, hg⟩ := hrel
              have HPq := Lib.hid hp
              have HOq := Lib.hid ho
              have HGq := Lib.hid hg
              by_cases hq : q < 19
              · have hqi : (q : Int) < 19 := by omega
                have hor := order_place q hq
                obtain ⟨o, hod⟩ : ∃ o, o = Inf.order.getD q 0 := ⟨_, rfl⟩
                rw [← hod] at hor
                have hix : ∀ w : World, (Instr.index 76 (.agg #[.int .i64 16, .int .i64 17, .int .i64 18, .int .i64 0, .int .i64 8, .int .i64 7, .int .i64 9, .int .i64 6, .int .i64 10, .int .i64 5, .int .i64 11, .int .i64 4, .int .i64 12, .int .i64 3, .int .i64 13, .int .i64 2, .int .i64 14, .int .i64 1, .int .i64 15]) (.int .i64 (q : Int))).run Tryd.prog w = .ok (.int .i64 (o : Int)) w := by
                  rw [hod]
                  rcases (by omega : q = 0 ∨ q = 1 ∨ q = 2 ∨ q = 3 ∨ q = 4 ∨ q = 5 ∨ q = 6 ∨ q = 7 ∨ q = 8 ∨ q = 9 ∨ q = 10 ∨ q = 11 ∨ q = 12 ∨ q = 13 ∨ q = 14 ∨ q = 15 ∨ q = 16 ∨ q = 17 ∨ q = 18) with rfl | rfl | rfl | rfl | rfl | rfl | rfl | rfl | rfl | rfl | rfl | rfl | rfl | rfl | rfl | rfl | rfl | rfl | rfl <;> (intro w; kernel_rfl)
                have hslf : SlV wr (.slice (some ⟨gf, 0, none⟩) 19 cf) (ni first) := HF6.out.only HOq.out (fun p n c e h0 hx => by cases e; have := HXL.out _ hx; have := HGF6.out.1; simp at *; omega)
                have ef := ints_at hslf o (by rw [HF.out.1]; exact hor.1)
                have hf8 := HF.out.2.1 o
                obtain ⟨z, hz⟩ : ∃ z, z = (first.getD o 0).toNat := ⟨_, rfl⟩
                have hzf : first.getD o 0 = (z : Int) := by omega
                rw [hzf] at ef
                have hzv : v q = z := by rw [HV.out, hz, hod]
                have hz8 : z < 8 := by omega
                have hoi : (o : Int) < 19 := by omega
                have HC4 : Hid (Calls Tryd.prog 10 #[.pointer (some ⟨gp, 0, none⟩), .int .i64 (z : Int), .int .i64 3] wr (PenPost B gp (L3 ++ telBits v (q + 1) 0) (penX gp sv) w6)) := Lib.hid (by
                  have h := (pnum_walk wr B gp z 3 sv' _ HPq.out (by rw [List.length_append, telBits_length]; have := HL3l.out; omega) (by omega) (by decide) (Nat.le_trans HB6.out HOq.out.size)).mono (fun e w' h => h.before HOq.out HGq.out)
                  have e1 : telBits v (q + 1) 0 = telBits v q 0 ++ num z 3 := by
                    rw [telBits_add v q 1 0]
                    congr 1
                    show num (v (0 + q)) 3 ++ [] = _
                    rw [List.append_nil, Nat.zero_add, hzv]
                  rw [e1, ← List.append_assoc]
                  exact h)
                clear hslf hf8 hz hzf hzv hod hp ho hg hor
                go_wp2_with fail
                refine HC4.out.mono ?_
                rintro e wa ⟨rfl, hoa, sva, hpa, hga⟩
                have HE4 : Hid (∃ sv', PenAt wa B gp sv' (L3 ++ telBits v (q + 1) 0) ∧ OnlyS (penX gp sv) w6 wa ∧ Grew w6 (penX gp sv) (penX gp sv')) := Lib.hid ⟨sva, hpa, hoa, hga⟩
                clear hoa hpa hga HC4
                go_wp2_with fail
                exact ⟨⟨q + 1, by omega, by go_num, HE4.out⟩, by simp [intOf]; omega⟩
              · have hqi : (19 : Int) ≤ (q : Int) := by omega
                obtain rfl : q = 19 := by omega
                have hslf : SlV wr (.slice (some ⟨gf, 0, none⟩) 19 cf) (ni first) := HF6.out.only HOq.out (fun p n c e h0 hx => by cases e; have := HXL.out _ hx; have := HGF6.out.1; simp at *; omega)
                have HSLF := Lib.hid hslf
                have HCD := Lib.hid (pcodes_walk wr (.slice (some ⟨gf, 0, none⟩) 19 cf) first hslf HF.out.2.2.2.1.good HF.out.2.2.2.1.kr)
                rw [HF.out.1] at HCD
                obtain ⟨wb, rfl⟩ : ∃ wb, wb = wr := ⟨_, rfl⟩
                clear hp ho hg hslf hqi hq19 hq
                go_wp2_with fail
                refine HCD.out.mono ?_
                rintro e wc ⟨u, rfl, huo, hub⟩
                obtain ⟨gd, cd, hu, hgd, hgdl, -, -, -, -, -⟩ := own_spot huo (by omega)
                subst hu
                have hbc : OnlyS (fun _ => False) wb wc := OnlyS.of_below hub
                have HB6c : Hid (B ≤ wc.heap.size) := Lib.hid (Nat.le_trans HB6.out (Nat.le_trans HOq.out.size hbc.size))
                have HPC := Lib.hid (HPq.out.stay hbc (fun _ h => h.elim))
                have HCc : Hid (SlV wc (.slice (some ⟨gd, 0, none⟩) 19 cd) (nu (codes first)) ∧ w.heap.size ≤ gd ∧ gd < wc.heap.size) := Lib.hid ⟨own_toV huo, Nat.le_trans HW6.out.size (Nat.le_trans HOq.out.size hgd), hgdl⟩
                have HFc : Hid (SlV wc (.slice (some ⟨gf, 0, none⟩) 19 cf) (ni first)) := Lib.hid (slv_heap HSLF.out hbc)
                have h6c : OnlyS (penX gp sv) w6 wc := HOq.out.trans (hbc.mono fun _ _ h => h.elim)
                have HRc : Hid (SlK 3 wc (.slice (some ⟨gr, orr, none⟩) k cl) k (sgc rows)) := Lib.hid (HR6.out.only h6c (fun p n c e h0 hx => by cases e; have := HXL.out _ hx; have := HRO6.out (by omega); simp at *; omega))
                have HXc : Hid (∀ i, penX gp sv' i → i < w.heap.size ∨ w6.heap.size ≤ i ∧ i < wb.heap.size) := Lib.hid (fun i hi => by
                  have h2 := (HPq.out.x_lt i hi).2
                  rcases HGq.out i hi with h | h
                  · exact .inl (HXL.out i h)
                  · exact .inr ⟨h, h2⟩)
                have H0 : Hid (∃ svx, PenAt wc B gp svx (L3 ++ telBits v 19 0 ++ runs first (rows.take 0)) ∧ OnlyS (penX gp sv') wc wc ∧ Grew wc (penX gp sv') (penX gp svx)) := Lib.hid ⟨sv', by rw [List.take_zero, runs, List.append_nil]; exact HPC.out, OnlyS.refl _ _, Grew.refl _ _⟩
                have HLAST : Hid (OnlyS (penX gp sv) w wc ∧ Grew w (penX gp sv) (penX gp sv')) := Lib.hid ⟨(HW6.out.mono fun _ _ h => h.elim).trans h6c, fun i hi => by
                  rcases HGq.out i hi with h | h
                  · exact .inl h
                  · exact .inr (Nat.le_trans HW6.out.size h)⟩
                have HGD : Hid (¬ penX gp sv' gf ∧ ¬ penX gp sv' gr ∧ ¬ penX gp sv' gd) := Lib.hid (by
                  have hgf := HGF6.out
                  have hgr := HRO6.out (by omega)
                  refine ⟨fun h => ?_, fun h => ?_, fun h => ?_⟩
                  · rcases HXc.out _ h with h1 | h1 <;> omega
                  · rcases HXc.out _ h with h1 | h1 <;> omega
                  · rcases HXc.out _ h with h1 | h1 <;> (have := HCc.out.2.1; omega))
                clear huo hub hgd hgdl hbc h6c HSLF HPq HPC
                go_wp2_with fail
                go_loopw [174] (fun v174 wr => ∃ q : Nat, q ≤ k ∧ v174 = .int .i64 (q : Int) ∧ ∃ svx, PenAt wr B gp svx (L3 ++ telBits v 19 0 ++ runs first (rows.take q)) ∧ OnlyS (penX gp sv') wc wr ∧ Grew wc (penX gp sv') (penX gp svx)) (fun v174 _ => k - (intOf v174).toNat)
                case atStart => exact ⟨0, Nat.zero_le _, rfl, H0.out⟩
                case round =>
                  clear H0
                  obtain ⟨q, hqk, rfl, svx, hp, ho, hg⟩ := hrel
                  have HPq := Lib.hid hp
                  have HOq := Lib.hid ho
                  have HGq := Lib.hid hg
                  by_cases hq : q < k
                  · have hqi : (q : Int) < (k : Int) := by omega
                    have hRr : SlK 3 wr (.slice (some ⟨gr, orr, none⟩) k cl) k (sgc rows) := HRc.out.only HOq.out (fun p n c e _ hx => by cases e; exact HGD.out.2.1 hx)
                    obtain ⟨g', o', hpp, e0, e1, e2⟩ := sg_at hRr HM.out q (by rw [← HM.out]; exact hq)
                    cases hpp
                    obtain ⟨g, hgq⟩ : ∃ g, g = rows.getD q nog := ⟨_, rfl⟩
                    rw [← hgq] at e0 e1 e2
                    have hql : q < rows.length := by rw [← HM.out]; exact hq
                    have hmem : g ∈ rows := by rw [hgq, List.getD_eq_getElem?_getD, List.getElem?_eq_getElem hql]; exact List.getElem_mem _
                    have hgok := okGs_all rows [] HROWS.out.2.1 g hmem
                    have hgpos := HF.out.2.2.2.2 g hmem
                    have hrt := runs_take first rows q hql
                    rw [← hgq] at hrt
                    obtain ⟨s, x, mm⟩ := g
                    simp only at e0 e1 e2 hgok hgpos hrt
                    have hsm := code_small HF.out.2.2.2.1 hgpos
                    obtain ⟨w10, hw10⟩ : ∃ w10, w10 = wr.alloc (.cells #[.int .i64 (s : Int), .int .i64 (x : Int), .int .i64 (mm : Int)] 72) := ⟨_, rfl⟩
                    have hal : OnlyS (fun _ => False) wr w10 := by rw [hw10]; exact OnlyS.alloc _ _
                    have hr10 : w10.heap[wr.heap.size]? = some (.cells #[.int .i64 (s : Int), .int .i64 (x : Int), .int .i64 (mm : Int)] 72 (0, 0)) := by rw [hw10]; exact heap_alloc_new wr _
                    have hof10 : OnlyS (penX gp sv') wc w10 := HOq.out.trans (hal.mono fun _ _ h => h.elim)
                    have hfx := ints_at (HFc.out.only hof10 (fun p n c e _ hx => by cases e; exact HGD.out.1 hx)) s (by rw [HF.out.1]; omega)
                    rw [hsm.2.2] at hfx
                    obtain ⟨ge, oe, hpe, hcx⟩ := nu_at (HCc.out.1.only hof10 (fun p n c e _ hx => by cases e; exact HGD.out.2.2 hx)) s (by rw [codes_length, HF.out.1]; omega)
                    cases hpe
                    rw [Nat.zero_add, codes_getD _ _ (by rw [HF.out.1]; omega)] at hcx
                    obtain ⟨cc, hcc⟩ : ∃ cc, cc = code first s := ⟨_, rfl⟩
                    obtain ⟨zz, hzz⟩ : ∃ zz, zz = (first.getD s 0).toNat := ⟨_, rfl⟩
                    rw [← hcc] at hcx
                    rw [← hzz] at hfx
                    rw [← hcc, ← hzz] at hsm
                    have hLq : (L3 ++ telBits v 19 0 ++ runs first (rows.take q)).length ≤ 1010000 := by
                      rw [List.length_append, List.length_append, telBits_length]
                      have h1 := HL3l.out
                      have h2 := runs_length HF.out.2.2.2.1.good (rows.take q) (fun g hg => (okGs_all rows [] HROWS.out.2.1 g (List.mem_of_mem_take hg)).2.1)
                      have h3 : (rows.take q).length ≤ 316 := by rw [List.length_take]; omega
                      omega
                    have hBw : B ≤ w10.heap.size := Nat.le_trans HB6c.out hof10.size
                    have HC5 := Lib.hid ((pcode_walk w10.drew B gp cc zz svx _ (HPq.out.stay (hal.trans (OnlyS.drew _)) (fun _ h => h.elim)) (by omega) hsm.1 (by omega) hBw))
                    have HKM := Lib.hid (And.intro hgok.2.1 hgok.2.2)
                    have HRT : Hid (L3 ++ telBits v 19 0 ++ runs first (rows.take (q + 1)) = L3 ++ telBits v 19 0 ++ runs first (rows.take q) ++ bitsN cc zz ++ num x mm) := Lib.hid (by
                      rw [hrt, hcc, hzz]
                      unfold cod
                      simp only [List.append_assoc])
                    have HLQ : Hid ((L3 ++ telBits v 19 0 ++ runs first (rows.take q) ++ bitsN cc zz).length + mm ≤ 1099511627776) := Lib.hid (by rw [List.length_append, bitsN_length]; have := hgok.2.1; omega)
                    have hsi : (s : Int) < 19 := by omega
                    have HW10 := Lib.hid hw10
                    have HAL10 := Lib.hid hal
                    have HR10 := Lib.hid hr10
                    have HBW := Lib.hid hBw
                    have HNX : Hid (¬ penX gp svx wr.heap.size) := Lib.hid (fun h => by have := (HPq.out.x_lt _ h).2; omega)
                    obtain ⟨k0, k1, k2, -, -, -⟩ := row3 hr10
                    rw [hw10] at k0
                    clear hp ho hg hRr hgq hmem hgok hgpos hrt hw10 hal hr10 hof10 hcc hzz hsm hLq hBw hql
                    go_wp2_with fail
                    rw [← HW10.out]
                    rw [← HW10.out] at k0
                    go_still_tail 11, (by kernel_rfl)
                    change wpList _ _ _ _ _ w10.drew
                    go_wp2_with fail
                    refine HC5.out.mono ?_
                    rintro e w11 ⟨rfl, ho11, sv11, hp11, hg11⟩
                    obtain ⟨-, y1, y2, -, -, -⟩ := row3 ((ho11.block wr.heap.size (Array.getElem?_eq_some_iff.1 HR10.out).1 HNX.out).trans HR10.out)
                    have ho11' : OnlyS (penX gp svx) wr w11 := ((HAL10.out.trans (OnlyS.drew _)).mono fun _ _ h => h.elim).trans ho11
                    have hg11' : Grew wr (penX gp svx) (penX gp sv11) := fun i hi => by
                      rcases hg11 i hi with h | h
                      · exact .inl h
                      · exact .inr (Nat.le_trans HAL10.out.size h)
                    have HC6 := Lib.hid ((pnum_walk w11 B gp x mm sv11 _ hp11 HLQ.out (by have := HKM.out.2; omega) (by have := HKM.out.1; omega) (Nat.le_trans HBW.out ho11.size)).mono (fun e w' h => (h.before ho11' hg11').before HOq.out HGq.out))
                    rw [← HRT.out] at HC6
                    clear ho11 hp11 hg11 ho11' hg11' HC5 hfx hcx k0
                    go_wp2_with fail
                    refine HC6.out.mono ?_
                    rintro e w12 ⟨rfl, ho12, sv12, hp12, hg12⟩
                    have HE6 : Hid (∃ svx, PenAt w12 B gp svx (L3 ++ telBits v 19 0 ++ runs first (rows.take (q + 1))) ∧ OnlyS (penX gp sv') wc w12 ∧ Grew wc (penX gp sv') (penX gp svx)) := Lib.hid ⟨sv12, hp12, ho12, hg12⟩
                    clear ho12 hp12 hg12 HC6
                    go_wp2_with fail
                    exact ⟨⟨q + 1, by omega, by go_num, HE6.out⟩, by simp [intOf]; omega⟩
                  · have hqi : (k : Int) ≤ (q : Int) := by omega
                    obtain rfl : q = k := by omega
                    clear hp ho hg
                    have HEND : Hid (HdsPost B gp L a b (penX gp sv) w (.returned (.tuple #[])) wr) := Lib.hid (by
                      have hab : dec rows [] = a ++ b := by rw [← HALL.out]; exact HROWS.out.1
                      have hho : HeadOk a b first 19 rows := ⟨HF.out.1, HF.out.2.1, by decide, by decide, fun j h1 h2 => by omega, HF.out.2.2.1, HF.out.2.2.2.1.kr, HROWS.out.2.1, HF.out.2.2.2.2, hab, by rw [HLA.out]; decide, by rw [HLB.out]; decide, HAE.out.1, HAE.out.2.1, HAE.out.2.2⟩
                      have hbits : L ++ headBits a b first 19 rows = L3 ++ telBits v 19 0 ++ runs first rows := by
                        rw [HL3.out, HV.out]
                        unfold headBits
                        rw [HLA.out, HLB.out]
                        simp only [List.append_assoc]
                      have hrl : (runs first rows).length ≤ 22 * 316 := by
                        have h2 := runs_length HF.out.2.2.2.1.good rows (fun g hg => (okGs_all rows [] HROWS.out.2.1 g hg).2.1)
                        have h3 := HM.out
                        omega
                      refine ⟨first, rows, hho, ?_, rfl, ?_, svx, ?_, ?_⟩
                      · unfold headBits
                        simp only [List.length_append, num_length, telBits_length]
                        omega
                      · exact HLAST.out.1.trans' HOq.out (fun i hi => HLAST.out.2 i hi)
                      · have h := HPq.out
                        rw [List.take_of_length_le (by rw [← HM.out]; exact Nat.le_refl _)] at h
                        rw [hbits]; exact h
                      · intro i hi
                        rcases HGq.out i hi with h | h
                        · exact HLAST.out.2 i h
                        · exact .inr (Nat.le_trans HLAST.out.1.size h))
                    clear HPq HOq HGq
                    go_wp2_with fail
                    go_end0
                    exact HEND.out
end Go.Proofs.YtefeilgbofphjaaDoor
