/-
  Merged, in the order in which they build: Cst Hbt Fxd Wdb.
-/
import Derived.Test.YtphdcgioeokfbaaDoorMg38
import Derived.Test.YtphdcgioeokfbaaDoorMg39
/-
  Cost: how many bits words take.
-/
namespace Go.Proofs.YtphdcgioeokfbaaDoor
open Go.RowKit Hf
/-- What words cost, up to a sign. -/
def costT (counts zs : List Int) (n : Nat) : Int := ((List.range n).map fun i => counts.getD i 0 * zs.getD i 0).sum
theorem cost_succ (counts zs : List Int) (j : Nat) : costT counts zs (j + 1) = costT counts zs j + counts.getD j 0 * zs.getD j 0 := by
  unfold costT
  rw [List.range_succ, List.map_append, List.sum_append, List.map_cons, List.map_nil, List.sum_cons, List.sum_nil, Int.add_zero]
theorem cost_is (counts zs : List Int) : costT counts zs (min counts.length zs.length) = Df.cost counts zs := rfl
theorem cost_bound (counts zs : List Int) (hc : ∀ i, 0 ≤ counts.getD i 0 ∧ counts.getD i 0 ≤ 4294967296) (hz : ∀ i, 0 ≤ zs.getD i 0 ∧ zs.getD i 0 ≤ 15) (j : Nat) : 0 ≤ costT counts zs j ∧ costT counts zs j ≤ j * 64424509440 := by
  induction j with
  | zero => exact ⟨Int.le_refl _, Int.le_refl _⟩
  | succ j ih =>
    have h1 := hc j
    have h2 := hz j
    have h3 : 0 ≤ counts.getD j 0 * zs.getD j 0 := Int.mul_nonneg h1.1 h2.1
    have h4 : counts.getD j 0 * zs.getD j 0 ≤ 4294967296 * 15 := Int.mul_le_mul h1.2 h2.2 h2.1 (by decide)
    rw [cost_succ]
    omega
set_option maxRecDepth 100000 in
set_option maxHeartbeats 1000000 in
theorem Cost_walk (w : World) (v u : Value) (counts zs : List Int) (hv : SlV w v (ni counts)) (hu : SlV w u (ni zs)) (hc : ∀ i, 0 ≤ counts.getD i 0 ∧ counts.getD i 0 ≤ 4294967296) (hz : ∀ i, 0 ≤ zs.getD i 0 ∧ zs.getD i 0 ≤ 15) (hl : counts.length ≤ 1024) (hl2 : zs.length ≤ 1024) :
    Calls Tryd.prog 73 #[v, u] w fun e w' => e = .returned (.int .i64 (costT counts zs (min counts.length zs.length))) ∧ Below w.heap.size w w' := by
  obtain ⟨p, cap, rfl⟩ := hv.shape
  obtain ⟨q, cap2, rfl⟩ := hu.shape
  rw [ni_length] at hv hu ⊢
  rw [ni_length]
  obtain ⟨n, hn⟩ : ∃ n, n = counts.length := ⟨_, rfl⟩
  obtain ⟨m, hm⟩ : ∃ m, m = zs.length := ⟨_, rfl⟩
  rw [← hn] at hv hl ⊢
  rw [← hm] at hu hl2 ⊢
  have HV := Lib.hid hv
  have HU := Lib.hid hu
  have HN := Lib.hid (And.intro hn hm)
  have HC := Lib.hid hc
  have HZ := Lib.hid hz
  have HB := Lib.hid (cost_bound counts zs hc hz)
  obtain ⟨M, hM⟩ : ∃ M, M = min n m := ⟨_, rfl⟩
  have hmin : min (n : Int) (m : Int) = (M : Int) := by omega
  have hMn : M ≤ n := by omega
  have hMm : M ≤ m := by omega
  rw [← hM]
  clear hv hu hn hm hc hz hM
  go_enter Tryd.func73, Tryd.ntmps73
  go_wp2_with fail
  go_loopw [5, 12] (fun v5 v12 wr => ∃ j : Nat, j ≤ M ∧ v12 = .int .i64 j ∧ v5 = .int .i64 (costT counts zs j) ∧ Below w.heap.size w wr) (fun _ v12 _ => M - (intOf v12).toNat)
  case atStart => exact ⟨0, Nat.zero_le _, rfl, rfl, Below.refl _ _⟩
  case round =>
    obtain ⟨j, hj, rfl, rfl, hB⟩ := hrel
    have HBL := Lib.hid hB
    clear hB
    by_cases hlt : j < M
    · have hlti : (j : Int) < (M : Int) := by omega
      obtain ⟨g1, o1, rfl, hrow1⟩ := (HV.out.below HBL.out (Nat.le_refl _)).some (by omega)
      obtain ⟨g2, o2, rfl, hrow2⟩ := (HU.out.below HBL.out (Nat.le_refl _)).some (by omega)
      have hcap1 := HV.out.le
      have hcap2 := HU.out.le
      have hc1 := hrow1.ni j (by have := HN.out; omega)
      have hc2 := hrow2.ni j (by have := HN.out; omega)
      clear hrow1 hrow2
      have h1 := HC.out j
      have h2 := HZ.out j
      have h3 : 0 ≤ counts.getD j 0 * zs.getD j 0 := Int.mul_nonneg h1.1 h2.1
      have h4 : counts.getD j 0 * zs.getD j 0 ≤ 4294967296 * 15 := Int.mul_le_mul h1.2 h2.2 h2.1 (by decide)
      have h5 := HB.out j
      have HS := Lib.hid (cost_succ counts zs j)
      generalize costT counts zs j = S at h5 HS ⊢
      generalize counts.getD j 0 = c at hc1 h1 h3 h4 HS
      generalize zs.getD j 0 = z at hc2 h2 h3 h4 HS
      have h6 : S + c * z ≤ 9223372036854775807 := by omega
      have h7 : -9223372036854775808 ≤ S + c * z := by omega
      go_wp2_with fail
      go_quiet (fail)
      have HBL := Lib.hid (below_drewN HBL.out nq)
      clear hc1 hc2
      generalize wr.drewN nq = wx at *
      go_wp2_with fail
      refine ⟨⟨j + 1, by omega, by go_num, ?_, HBL.out⟩, by simp only [intOf]; omega⟩
      rw [HS.out]
    · have hlti : (M : Int) ≤ (j : Int) := by omega
      obtain rfl : j = M := by omega
      go_wp2_with fail
      go_ret
      exact ⟨rfl, HBL.out⟩
end Go.Proofs.YtphdcgioeokfbaaDoor
/-
  heading.bits: how many bits a heading takes.
-/
namespace Go.Proofs.YtphdcgioeokfbaaDoor
open Go.RowKit Hf
def hsum (zf : List Int) (gs : List Sg) (k : Nat) : Int := ((gs.take k).map fun g => zf.getD g.s 0 + (g.m : Int)).sum
theorem hsum_succ (zf : List Int) (gs : List Sg) (k : Nat) (h : k < gs.length) : hsum zf gs (k + 1) = hsum zf gs k + (zf.getD (gs.getD k ⟨0, 0, 0⟩).s 0 + ((gs.getD k ⟨0, 0, 0⟩).m : Int)) := by
  unfold hsum
  rw [show gs.getD k ⟨0, 0, 0⟩ = gs[k] by simp [List.getD_eq_getElem?_getD, List.getElem?_eq_getElem h], List.take_succ_eq_append_getElem h, List.map_append, List.map_cons, List.map_nil, List.sum_append, List.sum_cons, List.sum_nil, Int.add_zero]
theorem mem_getD (gs : List Sg) (k : Nat) (h : k < gs.length) : gs.getD k ⟨0, 0, 0⟩ ∈ gs := by
  rw [List.getD_eq_getElem?_getD, List.getElem?_eq_getElem h]; exact List.getElem_mem _
theorem hsum_bound (zf : List Int) (gs : List Sg) (hz : ∀ i, 0 ≤ zf.getD i 0 ∧ zf.getD i 0 ≤ 15) (hm : ∀ g ∈ gs, g.m ≤ 7) : ∀ k, k ≤ gs.length → 0 ≤ hsum zf gs k ∧ hsum zf gs k ≤ 22 * (k : Int)
  | 0, _ => by simp [hsum]
  | k + 1, h => by
    have ih := hsum_bound zf gs hz hm k (by omega)
    have h1 := hz (gs.getD k ⟨0, 0, 0⟩).s
    have h2 := hm _ (mem_getD gs k (by omega))
    rw [hsum_succ zf gs k (by omega)]
    omega
set_option maxRecDepth 100000 in
set_option maxHeartbeats 1000000 in
theorem hbits_walk (w : World) (G : Nat) (va vb vr vt : Value) (told : Nat) (zf : List Int) (gs : List Sg) (hrow : w.heap[G]? = some (.cells #[va, vb, vr, vt, .int .i64 (told : Int)] 95 (0, 0))) (hr : SlK 3 w vr gs.length (rs gs)) (ht : SlV w vt (ni zf))
    (htold : told ≤ 19) (hz : ∀ i, 0 ≤ zf.getD i 0 ∧ zf.getD i 0 ≤ 15) (hm : ∀ g ∈ gs, g.m ≤ 7) (hs : ∀ g ∈ gs, g.s < zf.length) (hn : gs.length ≤ 1000) :
    Calls Tryd.prog 64 #[.pointer (some ⟨G, 0, none⟩)] w fun e w' => e = .returned (.int .i64 (Df.headN zf told gs)) ∧ OnlyS (fun _ => False) w w' := by
  have hfin : Df.headN zf told gs = 14 + 3 * (told : Int) + hsum zf gs gs.length := by
    unfold Df.headN hsum
    rw [List.take_length]
    omega
  rw [hfin]
  have HB := Lib.hid (hsum_bound zf gs hz hm)
  have HSS := Lib.hid (hsum_succ zf gs)
  obtain ⟨n, hnn⟩ : ∃ n, n = gs.length := ⟨_, rfl⟩
  obtain ⟨ln, hln⟩ : ∃ ln, ln = zf.length := ⟨_, rfl⟩
  obtain ⟨p3, c3, rfl⟩ := hr.shape
  obtain ⟨p4, c4, rfl⟩ := ht.shape
  rw [ni_length] at hrow ht
  rw [← hnn] at hrow hr hn HB ⊢
  rw [← hln] at hrow ht
  have HN := Lib.hid hnn
  have HLN := Lib.hid hln
  obtain ⟨_, _, x2, x3, x4, _⟩ := row5 hrow
  have HR := Lib.hid hr
  have HT := Lib.hid ht
  have HZ := Lib.hid hz
  have HM := Lib.hid hm
  have HS := Lib.hid hs
  have hw3 : IntKind.i64.wrap (3 * (told : Int)) = 3 * (told : Int) := IntWalk.i64_in _ (by omega)
  have hw4 : IntKind.i64.wrap (14 + 3 * (told : Int)) = 14 + 3 * (told : Int) := IntWalk.i64_in _ (by omega)
  have HX2 := Lib.hid x2
  have HX3 := Lib.hid x3
  clear hfin hnn hln hrow hr ht hz hm hs x3
  go_enter Tryd.func64, Tryd.ntmps64
  go_wp2_with fail
  clear x2 x4 hw3 hw4
  obtain ⟨T, hT⟩ : ∃ T, T = 14 + 3 * (told : Int) := ⟨_, rfl⟩
  have hT2 : 0 ≤ T ∧ T ≤ 100 := by omega
  have HTT := Lib.hid hT
  clear hT htold
  go_loopw [3, 17] (fun v3 v17 wr => ∃ k : Nat, k ≤ n ∧ v17 = .int .i64 (k : Int) ∧ v3 = .int .i64 (T + hsum zf gs k) ∧ OnlyS (fun _ => False) w wr) (fun _ v17 _ => n - (intOf v17).toNat)
  case atStart => exact ⟨0, Nat.zero_le _, rfl, by rw [HTT.out]; simp [hsum], OnlyS.refl _ _⟩
  case round =>
    obtain ⟨k, hk, rfl, rfl, ho⟩ := hrel
    by_cases hlt : k < n
    · have hlti : (k : Int) < (n : Int) := by omega
      have hk0 : (0 : Int) ≤ (k : Int) := by omega
      obtain ⟨_, ⟨gr, or, cap, he, hcap, hrow3⟩ | ⟨_, _, hm⟩⟩ := HR.out
      case inr => omega
      simp only [Value.slice.injEq] at he
      obtain ⟨rfl, _, rfl⟩ := he
      have hlg : k < gs.length := by rw [← HN.out]; exact hlt
      obtain ⟨r1, r2, r3⟩ := rs_at gs k hlg
      have hsl := HS.out _ (mem_getD gs k hlg)
      have hml := HM.out _ (mem_getD gs k hlg)
      have hst := HSS.out k hlg
      have hb1 := HB.out k hk
      obtain ⟨⟨s, x, m⟩, hg⟩ : ∃ g, g = gs.getD k ⟨0, 0, 0⟩ := ⟨_, rfl⟩
      rw [← hg] at r1 r2 r3 hsl hml hst
      simp only at r1 r2 r3 hsl hml hst
      have c0 := ho.cell (hrow3 _ _ r1) (fun h => h)
      have c1' := ho.cell (hrow3 _ _ r2) (fun h => h)
      have c2' := ho.cell (hrow3 _ _ r3) (fun h => h)
      rw [← Nat.add_assoc] at c1' c2'
      obtain ⟨g4, o4, rfl, hrow4⟩ := HT.out.some (by rw [HLN.out]; omega)
      have hle4 := HT.out.le
      have HC4 := Lib.hid (ho.cell (hrow4.ni s hsl) (fun h => h))
      have HX := Lib.hid (ho.cell HX3.out (fun h => h))
      have HO := Lib.hid ho
      have hzb := HZ.out s
      obtain ⟨z, hzz⟩ : ∃ z, z = zf.getD s 0 := ⟨_, rfl⟩
      rw [← hzz] at HC4 hst hzb
      obtain ⟨q, hq⟩ : ∃ q, q = hsum zf gs k := ⟨_, rfl⟩
      rw [← hq] at hst hb1 ⊢
      have HST := Lib.hid hst
      have hsi : (s : Int) < (ln : Int) := by rw [HLN.out]; omega
      have hs0 : (0 : Int) ≤ (s : Int) := by omega
      clear hg hst ho r1 r2 r3 hrow3 hrow4 hlg hlt hsl hzz hq
      go_upto_region 5 with fail
      obtain ⟨w2, hw2⟩ : ∃ w2, w2 = wr.alloc (.cells #[.int .i64 (s : Int), .int .i64 (x : Int), .int .i64 (m : Int)] 101 (0, 0)) := ⟨_, rfl⟩
      rw [← hw2]
      have hw3 : OnlyS (fun _ => False) wr w2 := by rw [hw2]; exact OnlyS.alloc _ _
      have hr3 : w2.heap[wr.heap.size]? = some (.cells #[.int .i64 (s : Int), .int .i64 (x : Int), .int .i64 (m : Int)] 101 (0, 0)) := by rw [hw2]; exact heap_alloc_new _ _
      obtain ⟨z0, z1, z2, _, _, _⟩ := row3 hr3
      have c4 := hw3.cell HC4.out (fun h => h)
      have c5 := hw3.cell HX.out (fun h => h)
      have HW3 := Lib.hid hw3
      have hwa : IntKind.i64.wrap (z + (m : Int)) = z + (m : Int) := IntWalk.i64_in _ (by omega)
      have hwb : IntKind.i64.wrap (T + q + (z + (m : Int))) = T + q + (z + (m : Int)) := IntWalk.i64_in _ (by omega)
      clear hw2 hw3 hr3 c0 c1' c2' HX HC4
      go_quiet (fail)
      go_wp2_with fail
      refine ⟨⟨k + 1, by omega, by go_num, ?_, (HO.out.trans HW3.out).trans ⟨rfl, rfl, rfl, Nat.le_refl _, fun _ _ _ => rfl⟩⟩, by simp only [intOf]; omega⟩
      rw [HST.out]
      congr 1
      omega
    · obtain rfl : k = n := by omega
      go_wp2_with fail
      go_ret
      refine ⟨?_, ho⟩
      rw [HTT.out]
      rfl
end Go.Proofs.YtphdcgioeokfbaaDoor
/-
  The lengths of the fixed codes.
-/
namespace Go.Proofs.YtphdcgioeokfbaaDoor
open Go.RowKit Hf
theorem rep1 (z : Int) (m : Nat) (hm1 : 1 ≤ m) (hm : m ≤ 8192) (wx : World) : Calls Tryd.prog 61 #[.slice (some ⟨wx.heap.size, 0, none⟩) 1 1, .int .i64 (m : Int)] (wx.alloc (.cells #[.int .i64 z] 3)) fun e w' => ∃ p c, e = .returned (.slice p m c) ∧ SlV w' (.slice p m c) (ni (List.replicate m z)) ∧ OnlyS (fun _ => False) wx w' ∧ ∀ a, p = some a → wx.heap.size ≤ a.block := by
  have h := repeat_walkF (wx.alloc (.cells #[.int .i64 z] 3)) _ z m (slv_lit wx (ni [z]) 3) hm1 hm
  refine h.mono ?_
  rintro e w' ⟨v, rfl, hs, hb, hfr⟩
  obtain ⟨p, c, rfl⟩ := hs.shape
  rw [ni_length, List.length_replicate] at hs hfr ⊢
  exact ⟨p, c, rfl, hs, (OnlyS.alloc wx (.cells #[.int .i64 z] 3 (0, 0))).trans (OnlyS.of_below hb), fun a e => by have := hfr a _ _ (by rw [e]); rw [World.size_alloc] at this; omega⟩
theorem fixD_is : Inf.fixD = List.replicate 32 5 := rfl
theorem cat4 (a b c d : List Int) : catL (fun i => if i = 0 then a else if i = 1 then b else if i = 2 then c else d) 4 = ((a ++ b) ++ c) ++ d := by simp [catL]
theorem fixS_is : Inf.fixS = ((List.replicate 144 8 ++ List.replicate 112 9) ++ List.replicate 24 7) ++ List.replicate 8 8 := rfl
set_option maxHeartbeats 400000 in
theorem fixedDistances_walk (w : World) : Calls Tryd.prog 46 #[] w fun e w' => ∃ p c, e = .returned (.slice p 32 c) ∧ SlV w' (.slice p 32 c) (ni Inf.fixD) ∧ OnlyS (fun _ => False) w w' ∧ ∀ a, p = some a → w.heap.size ≤ a.block := by
  have HR := Lib.hid (rep1 5 32 (by decide) (by decide))
  go_enter Tryd.func46, Tryd.ntmps46
  go_wp2_with (go_at_call 61; refine (HR.out _).mono ?_; rintro e w2 ⟨p, c, rfl, hs, ho, hf⟩)
  go_ret
  exact ⟨p, c, rfl, by rw [fixD_is]; exact hs, ho, hf⟩
set_option maxHeartbeats 1000000 in
theorem fixedSigns_walk (w : World) : Calls Tryd.prog 45 #[] w fun e w' => ∃ p c, e = .returned (.slice p 288 c) ∧ SlV w' (.slice p 288 c) (ni Inf.fixS) ∧ OnlyS (fun _ => False) w w' ∧ ∀ a, p = some a → w.heap.size ≤ a.block := by
  have HR1 : Hid (∀ wx, Calls Tryd.prog 61 #[.slice (some ⟨wx.heap.size, 0, none⟩) 1 1, .int .i64 144] (wx.alloc (.cells #[.int .i64 8] 3)) fun e w' => ∃ p c, e = .returned (.slice p 144 c) ∧ SlV w' (.slice p 144 c) (ni (List.replicate 144 8)) ∧ OnlyS (fun _ => False) wx w' ∧ ∀ a, p = some a → wx.heap.size ≤ a.block) := Lib.hid (rep1 8 144 (by decide) (by decide))
  have HR2 : Hid (∀ wx, Calls Tryd.prog 61 #[.slice (some ⟨wx.heap.size, 0, none⟩) 1 1, .int .i64 112] (wx.alloc (.cells #[.int .i64 9] 3)) fun e w' => ∃ p c, e = .returned (.slice p 112 c) ∧ SlV w' (.slice p 112 c) (ni (List.replicate 112 9)) ∧ OnlyS (fun _ => False) wx w' ∧ ∀ a, p = some a → wx.heap.size ≤ a.block) := Lib.hid (rep1 9 112 (by decide) (by decide))
  have HR3 : Hid (∀ wx, Calls Tryd.prog 61 #[.slice (some ⟨wx.heap.size, 0, none⟩) 1 1, .int .i64 24] (wx.alloc (.cells #[.int .i64 7] 3)) fun e w' => ∃ p c, e = .returned (.slice p 24 c) ∧ SlV w' (.slice p 24 c) (ni (List.replicate 24 7)) ∧ OnlyS (fun _ => False) wx w' ∧ ∀ a, p = some a → wx.heap.size ≤ a.block) := Lib.hid (rep1 7 24 (by decide) (by decide))
  have HR4 : Hid (∀ wx, Calls Tryd.prog 61 #[.slice (some ⟨wx.heap.size, 0, none⟩) 1 1, .int .i64 8] (wx.alloc (.cells #[.int .i64 8] 3)) fun e w' => ∃ p c, e = .returned (.slice p 8 c) ∧ SlV w' (.slice p 8 c) (ni (List.replicate 8 8)) ∧ OnlyS (fun _ => False) wx w' ∧ ∀ a, p = some a → wx.heap.size ≤ a.block) := Lib.hid (rep1 8 8 (by decide) (by decide))
  have HC : Hid (∀ (wx : World) (p1 p2 p3 p4 : Option Addr) (c1 c2 c3 c4 : Nat), SlV wx (.slice p1 144 c1) (ni (List.replicate 144 8)) → SlV wx (.slice p2 112 c2) (ni (List.replicate 112 9)) → SlV wx (.slice p3 24 c3) (ni (List.replicate 24 7)) → SlV wx (.slice p4 8 c4) (ni (List.replicate 8 8)) →
      Calls Tryd.prog 41 #[.slice (some ⟨wx.heap.size, 0, none⟩) 4 4] (wx.alloc (.cells #[.slice p1 144 c1, .slice p2 112 c2, .slice p3 24 c3, .slice p4 8 c4] 91)) fun e w' => ∃ p c, e = .returned (.slice p 288 c) ∧ SlV w' (.slice p 288 c) (ni Inf.fixS) ∧ OnlyS (fun _ => False) wx w' ∧ ∀ a, p = some a → wx.heap.size ≤ a.block) := Lib.hid (fun wx p1 p2 p3 p4 c1 c2 c3 c4 h1 h2 h3 h4 => by
    have ho : OnlyS (fun _ => False) wx (wx.alloc (.cells #[.slice p1 144 c1, .slice p2 112 c2, .slice p3 24 c3, .slice p4 8 c4] 91)) := OnlyS.alloc _ _
    have hr := heap_alloc_new wx (.cells #[.slice p1 144 c1, .slice p2 112 c2, .slice p3 24 c3, .slice p4 8 c4] 91 (0, 0))
    have hc : catL (fun i => if i = 0 then List.replicate 144 8 else if i = 1 then List.replicate 112 9 else if i = 2 then List.replicate 24 7 else List.replicate 8 8) 4 = Inf.fixS := (cat4 _ _ _ _).trans fixS_is.symm
    have h := concat_walkF (wx.alloc (.cells #[.slice p1 144 c1, .slice p2 112 c2, .slice p3 24 c3, .slice p4 8 c4] 91)) wx.heap.size 0 4 4 (fun i => if i = 0 then .slice p1 144 c1 else if i = 1 then .slice p2 112 c2 else if i = 2 then .slice p3 24 c3 else .slice p4 8 c4) (fun i => if i = 0 then List.replicate 144 8 else if i = 1 then List.replicate 112 9 else if i = 2 then List.replicate 24 7 else List.replicate 8 8) ⟨fun i hi => by
      obtain rfl | rfl | rfl | rfl : i = 0 ∨ i = 1 ∨ i = 2 ∨ i = 3 := by omega
      · exact cell_of_row _ _ _ _ _ _ hr
      · exact cell_of_row _ _ _ _ _ _ hr
      · exact cell_of_row _ _ _ _ _ _ hr
      · exact cell_of_row _ _ _ _ _ _ hr, fun i hi => by
      obtain rfl | rfl | rfl | rfl : i = 0 ∨ i = 1 ∨ i = 2 ∨ i = 3 := by omega
      · exact h1.only ho (fun _ _ _ _ _ h => h)
      · exact h2.only ho (fun _ _ _ _ _ h => h)
      · exact h3.only ho (fun _ _ _ _ _ h => h)
      · exact h4.only ho (fun _ _ _ _ _ h => h)⟩ (Nat.le_refl _) (by decide) (by rw [hc]; decide +kernel) (by rw [hc]; decide +kernel)
    rw [hc] at h
    refine h.mono ?_
    rintro e w' ⟨v, rfl, hs, hb, hfr⟩
    obtain ⟨p, c, rfl⟩ := hs.shape
    rw [ni_length, show Inf.fixS.length = 288 by decide +kernel] at hs hfr ⊢
    exact ⟨p, c, rfl, hs, ho.trans (OnlyS.of_below hb), fun a e => by have := hfr a _ _ (by rw [e]); rw [World.size_alloc] at this; omega⟩)
  go_enter Tryd.func45, Tryd.ntmps45
  go_wp2_with (first
    | (go_at_call 61; with_reducible refine (HR1.out _).mono ?_; rintro e w1 ⟨p1, c1, rfl, hs1, ho1, -⟩)
    | (go_at_call 61; with_reducible refine (HR2.out _).mono ?_; rintro e w2 ⟨p2, c2, rfl, hs2, ho2, -⟩)
    | (go_at_call 61; with_reducible refine (HR3.out _).mono ?_; rintro e w3 ⟨p3, c3, rfl, hs3, ho3, -⟩)
    | (go_at_call 61; with_reducible refine (HR4.out _).mono ?_; rintro e w4 ⟨p4, c4, rfl, hs4, ho4, -⟩)
    | (go_at_call 41; with_reducible refine (HC.out _ _ _ _ _ _ _ _ _ (hs1.only ((ho2.trans ho3).trans ho4) (fun _ _ _ _ _ h => h)) (hs2.only (ho3.trans ho4) (fun _ _ _ _ _ h => h)) (hs3.only ho4 (fun _ _ _ _ _ h => h)) hs4).mono ?_; rintro e w5 ⟨p5, c5, rfl, hs5, ho5, hf5⟩))
  go_ret
  have hoo := ((ho1.trans ho2).trans ho3).trans ho4
  exact ⟨p5, c5, rfl, hs5, hoo.trans ho5, fun a e => Nat.le_trans hoo.size (hf5 a e)⟩
end Go.Proofs.YtphdcgioeokfbaaDoor
/-
  wordBits: how many bits a block's words take.
-/
namespace Go.Proofs.YtphdcgioeokfbaaDoor
open Go.RowKit Hf
theorem ni_row (w : World) (g o : Nat) (l : List Int) (h : ∀ i, i < l.length → w.cell? ⟨g, o + i, none⟩ = some (.int .i64 (l.getD i 0))) (n : Nat) (hn : l.length = n) : SlV w (.slice (some ⟨g, o, none⟩) n n) (ni l) :=
  .inl ⟨g, o, n, by rw [ni_length, hn], by rw [ni_length, hn]; exact Nat.le_refl _, fun i v hi => by
    have hl : i < l.length := by
      have := (List.getElem?_eq_some_iff.1 hi).1
      rwa [ni_length] at this
    rw [h i hl, ← ni_get l i hl]
    exact hi⟩
set_option maxRecDepth 100000 in
set_option maxHeartbeats 1000000 in
theorem wordBits_walk (w : World) (g : Nat) (h0 h1 h2 ov v1 v2 : Value) (S D zs zd : List Int) (b : Nat) (h : CtAt w g 59 h0 h1 h2 ov S D b) (hv1 : SlV w v1 (ni zs)) (hv2 : SlV w v2 (ni zd))
    (hS : ∀ i, 0 ≤ S.getD i 0 ∧ S.getD i 0 ≤ 4294967296) (hD : ∀ i, 0 ≤ D.getD i 0 ∧ D.getD i 0 ≤ 4294967296) (hz : ∀ i, 0 ≤ zs.getD i 0 ∧ zs.getD i 0 ≤ 15) (hd : ∀ i, 0 ≤ zd.getD i 0 ∧ zd.getD i 0 ≤ 15) (hzl : zs.length ≤ 1024) (hdl : zd.length ≤ 1024) (hb : b ≤ 1000000000) :
    Calls Tryd.prog 63 #[.pointer (some ⟨g, 0, none⟩), v1, v2] w fun e w' => e = .returned (.int .i64 (Df.cost S zs + Df.cost D zd + (b : Int))) ∧ OnlyS (fun _ => False) w w' := by
  have hs1 := ni_row w g 3 S (fun i hi => h.s_cell i (by rw [← h.sl]; exact hi)) 286 h.sl
  have hs2 := ni_row w g 289 D (fun i hi => h.d_cell i (by rw [← h.dl]; exact hi)) 30 h.dl
  have hb1 := cost_bound S zs hS hz (min S.length zs.length)
  have hb2 := cost_bound D zd hD hd (min D.length zd.length)
  rw [cost_is] at hb1 hb2
  have HC1 : Hid (∀ wx, OnlyS (fun _ => False) w wx → Calls Tryd.prog 73 #[.slice (some ⟨g, 3, none⟩) 286 286, v1] wx fun e w' => e = .returned (.int .i64 (Df.cost S zs)) ∧ OnlyS (fun _ => False) wx w') := Lib.hid (fun wx ho => by
    refine (Cost_walk wx _ v1 S zs (hs1.only ho (fun _ _ _ _ _ h => h)) (hv1.only ho (fun _ _ _ _ _ h => h)) hS hz (by rw [h.sl]; decide) hzl).mono ?_
    rintro e w' ⟨rfl, hb⟩
    exact ⟨rfl, OnlyS.of_below hb⟩)
  have HC2 : Hid (∀ wx, OnlyS (fun _ => False) w wx → Calls Tryd.prog 73 #[.slice (some ⟨g, 289, none⟩) 30 30, v2] wx fun e w' => e = .returned (.int .i64 (Df.cost D zd)) ∧ OnlyS (fun _ => False) wx w') := Lib.hid (fun wx ho => by
    refine (Cost_walk wx _ v2 D zd (hs2.only ho (fun _ _ _ _ _ h => h)) (hv2.only ho (fun _ _ _ _ _ h => h)) hD hd (by rw [h.dl]; decide) hdl).mono ?_
    rintro e w' ⟨rfl, hb⟩
    exact ⟨rfl, OnlyS.of_below hb⟩)
  have hcb := h.b_cell
  have HCW : Hid (∀ wx, OnlyS (fun _ => False) w wx → wx.cell? ⟨g, 319, none⟩ = some (.int .i64 (b : Int))) := Lib.hid (fun wx ho => ho.cell hcb (fun h => h))
  have hm1 : min S.length zs.length ≤ 1024 := by rw [h.sl]; omega
  have hm2 : min D.length zd.length ≤ 1024 := by rw [h.dl]; omega
  obtain ⟨x, hx⟩ : ∃ x, x = Df.cost S zs := ⟨_, rfl⟩
  obtain ⟨y, hy⟩ : ∃ y, y = Df.cost D zd := ⟨_, rfl⟩
  rw [← hx] at hb1 HC1 ⊢
  rw [← hy] at hb2 HC2 ⊢
  have hx2 : 0 ≤ x ∧ x ≤ 65970697666560 := by omega
  have hy2 : 0 ≤ y ∧ y ≤ 65970697666560 := by omega
  have hw1 : IntKind.i64.wrap (x + y) = x + y := IntWalk.i64_in _ (by omega)
  have hw2 : IntKind.i64.wrap (x + y + (b : Int)) = x + y + (b : Int) := IntWalk.i64_in _ (by omega)
  obtain ⟨q1, d1, rfl⟩ := hv1.shape
  obtain ⟨q2, d2, rfl⟩ := hv2.shape
  rw [ni_length] at HC1 HC2 ⊢
  rw [ni_length]
  clear hs1 hs2 hb1 hb2 hm1 hm2 hx hy hx2 hy2 h hv1 hv2 hS hD hz hd hzl hdl hb
  go_enter Tryd.func63, Tryd.ntmps63
  go_upto_region 1 with fail
  go_region_law (first
    | (go_simp; go_at_call 73; with_reducible refine (HC1.out _ (OnlyS.drew _)).mono ?_; rintro e w2 ⟨rfl, ho1⟩; have cb1 := HCW.out _ ((OnlyS.drew _).trans ho1))
    | (go_simp; go_at_call 73; with_reducible refine (HC2.out _ ((OnlyS.drew _).trans ho1)).mono ?_; rintro e w3 ⟨rfl, ho2⟩; have cb2 := HCW.out _ (((OnlyS.drew _).trans ho1).trans ho2)))
  all_goals go_wp2_with fail
  all_goals go_ret
  all_goals exact ⟨rfl, ((OnlyS.drew _).trans ho1).trans ho2⟩
end Go.Proofs.YtphdcgioeokfbaaDoor
