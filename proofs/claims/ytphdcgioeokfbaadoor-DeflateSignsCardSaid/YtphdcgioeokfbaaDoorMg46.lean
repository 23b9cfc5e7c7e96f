/-
  Merged, in the order in which they build: Whd Wbw.
-/
import Derived.Test.YtphdcgioeokfbaaDoorMg45
/-
  A heading's bits behind a writer.
-/
namespace Go.Proofs.YtphdcgioeokfbaaDoor
open Go.RowKit Hf

theorem WrGo.trans {w w5 wx : World} {B g : Nat} {sv s4 s6 : Value} {L L6 : List Bool} (h : WrGo w B g sv L w5 s4) (k : WrGo w5 B g s4 L6 wx s6) : WrGo w B g sv L6 wx s6 := h.next k.only k.wr k.grew
theorem row2c {w : World} {g : Nat} {x0 x1 : Value} {t : TypeId} (h : w.heap[g]? = some (.cells #[x0, x1] t (0, 0))) : w.cell? ⟨g, 0, none⟩ = some x0 ∧ w.cell? ⟨g, 1, none⟩ = some x1 :=
  ⟨cell_of_row _ _ _ _ _ _ h, cell_of_row _ _ _ _ _ _ h⟩
def tv (zf : List Int) (k : Nat) : Nat := (zf.getD (Inf.order.getD k 0) 0).toNat
set_option maxRecDepth 100000 in
set_option maxHeartbeats 4000000 in
theorem hwrite_walk (w : World) (B g G : Nat) (sv : Value) (L : List Bool) (va vb vr vt : Value) (a b zf : List Int) (told : Nat) (gs : List Sg) (h : WrAt w B g sv L) (hB : B ≤ w.heap.size) (hlen : L.length ≤ 1000000000)
    (hrow : w.heap[G]? = some (.cells #[va, vb, vr, vt, .int .i64 (told : Int)] 95 (0, 0))) (hG : ¬ wrX g sv G) (hva : SlV w va (ni a)) (hvb : SlV w vb (ni b)) (hr : SlK 3 w vr gs.length (rs gs)) (hrn : ∀ p n c, vr = .slice (some p) n c → 0 < n → ¬ wrX g sv p.block)
    (ht : SlV w vt (ni zf)) (htn : ∀ p n c, vt = .slice (some p) n c → 0 < n → ¬ wrX g sv p.block) (hO : OrdAt w) (hg2 : ¬ wrX g sv 2) (hk : HeadOk a b zf told gs) (hgl : gs.length ≤ 1000) :
    Calls Tryd.prog 47 #[.pointer (some ⟨G, 0, none⟩), .pointer (some ⟨g, 0, none⟩)] w (WrtPost (.tuple #[]) B g (L ++ headBits a b zf told gs) (wrX g sv) w) := by
  obtain ⟨pa, ca, rfl⟩ := hva.shape
  obtain ⟨pb, cb, rfl⟩ := hvb.shape
  obtain ⟨pr, cr, rfl⟩ := hr.shape
  obtain ⟨pt, ct, rfl⟩ := ht.shape
  simp only [ni_length] at hrow hva hvb ht htn
  have hfl := hk.fl
  rw [hfl] at hrow ht htn
  obtain ⟨na, hna⟩ : ∃ n, a.length = n := ⟨_, rfl⟩
  obtain ⟨nb, hnb⟩ : ∃ n, b.length = n := ⟨_, rfl⟩
  obtain ⟨n, hn⟩ : ∃ n, gs.length = n := ⟨_, rfl⟩
  have hal := hk.al
  have hbl := hk.bl
  rw [hna] at hrow hal
  rw [hnb] at hrow hbl
  rw [hn] at hrow hr hrn hgl
  obtain ⟨y0, y1, y2, y3, y4, -⟩ := row5 hrow
  have HY := Lib.hid (And.intro y1 (And.intro y2 (And.intro y3 y4)))
  have HS0 := Lib.hid (WrGo.start h)
  have HK := Lib.hid hk
  have HG := Lib.hid hG
  have HBZ := Lib.hid hB
  have HL := Lib.hid hlen
  have hc4 := hk.c4
  have hc19 := hk.c19
  have hq1 : IntKind.u64.wrap ((na : Int) - 256 - 1) = ((na - 257 : Nat) : Int) := by rw [IntKind.wrap_u64]; omega
  have hq2 : IntKind.u64.wrap ((nb : Int) - 1) = ((nb - 1 : Nat) : Int) := by rw [IntKind.wrap_u64]; omega
  have hq3 : IntKind.u64.wrap ((told : Int) - 4) = ((told - 4 : Nat) : Int) := by rw [IntKind.wrap_u64]; omega
  have hnaI : (na : Int) ≤ 286 := by omega
  have hnaJ : 257 ≤ (na : Int) := by omega
  have hnbI : (nb : Int) ≤ 30 := by omega
  have hnbJ : 1 ≤ (nb : Int) := by omega
  have htoI : (told : Int) ≤ 19 := by omega
  have htoJ : 4 ≤ (told : Int) := by omega
  have HC1 := Lib.hid (wputK w B g sv L (na - 257) 5 5 rfl h (by omega) hB (by decide) (by omega))
  have HTB := Lib.hid (And.intro hal (And.intro hbl (And.intro hc4 hc19)))
  have HT := Lib.hid (And.intro ht htn)
  have HR := Lib.hid (And.intro hr hrn)
  have HO := Lib.hid (And.intro hO hg2)
  have HN := Lib.hid (And.intro hn (And.intro hgl (And.intro hna hnb)))
  clear hrow hG hva hvb hr hrn ht htn hO hg2 hk hgl h hB hlen hna hnb hn hal hbl y1 y2 y3 y4 hfl hc4 hc19
  go_enter Tryd.func47, Tryd.ntmps47
  go_wp2_with (first
    | ((with_reducible refine HC1.out.mono ?_); rintro e w1 ⟨rfl, ho, s1, hw, hg⟩; have H1 := Lib.hid (HS0.out.next ho hw hg); have z1 := H1.out.cell HY.out.1 HG.out; have HC2 := Lib.hid (wputK w1 B g s1 _ (nb - 1) 5 5 rfl H1.out.wr (by have := HL.out; simp; omega) (H1.out.size HBZ.out) (by decide) (by have := HTB.out; omega)); clear ho hw hg)
    | ((with_reducible refine HC2.out.mono ?_); rintro e w2 ⟨rfl, ho, s2, hw, hg⟩; have H2 := Lib.hid (H1.out.next ho hw hg); have z4 := H2.out.cell HY.out.2.2.2 HG.out; have HC3 := Lib.hid (wputK w2 B g s2 _ (told - 4) 4 4 rfl H2.out.wr (by have := HL.out; simp; omega) (H2.out.size HBZ.out) (by decide) (by have := HTB.out; omega)); clear ho hw hg)
    | ((with_reducible refine HC3.out.mono ?_); rintro e w3 ⟨rfl, ho, s3, hw, hg⟩; have H3 := Lib.hid (H2.out.next ho hw hg); have z5 := H3.out.cell HY.out.2.2.2 HG.out; clear ho hw hg))
  clear HC1 HC2 HC3 z1 z4 z5 hq1 hq2 hq3
  obtain ⟨Lh, hLh⟩ : ∃ x, ((L ++ num (na - 257) 5) ++ num (nb - 1) 5) ++ num (told - 4) 4 = x := ⟨_, rfl⟩
  rw [hLh] at H3
  have HLH := Lib.hid hLh
  have HLHL : Hid (Lh.length ≤ 1000000014) := Lib.hid (by rw [← hLh]; have := HL.out; simp; omega)
  clear hLh
  go_loopw [39] (fun i wr => ∃ k : Nat, k ≤ told ∧ i = .int .i64 (k : Int) ∧ ∃ s', WrGo w B g sv (Lh ++ telBits (tv zf) k 0) wr s') (fun i _ => told - (intOf i).toNat)
  case atStart => exact ⟨0, Nat.zero_le _, rfl, s3, by rw [show telBits (tv zf) 0 0 = [] from rfl, List.append_nil]; exact H3.out⟩
  case round =>
    obtain ⟨k, hkt, rfl, s4, hgo⟩ := hrel
    have H4 := Lib.hid hgo
    clear hgo
    by_cases hkk : k < told
    · have hk19 : k < 19 := by omega
      obtain ⟨od, hod⟩ : ∃ x, Inf.order.getD k 0 = x := ⟨_, rfl⟩
      have hod19 : od < 19 := by rw [← hod]; exact ord_lt k hk19
      obtain ⟨zn, hzn⟩ : ∃ x, tv zf k = x := ⟨_, rfl⟩
      have hz8 := HK.out.f7 od
      have hzd : zf.getD od 0 = (zn : Int) := by rw [← hzn]; unfold tv; rw [hod]; omega
      rw [hzd] at hz8
      have o0 := HO.out.1 k hk19
      rw [hod] at o0
      obtain ⟨gt, ot, hpt, hrow4⟩ := HT.out.1.some (by decide)
      have c0 := hrow4.ni od (by rw [HK.out.fl]; exact hod19)
      rw [hzd] at c0
      have htn := HT.out.2
      subst hpt
      have c3 : wr.drew.cell? ⟨G, 3, none⟩ = some (.slice (some ⟨gt, ot, none⟩) 19 ct) := H4.out.cell HY.out.2.2.1 HG.out
      have c4 : wr.drew.cell? ⟨2, k, none⟩ = some (.int .i64 (od : Int)) := H4.out.cell o0 HO.out.2
      have c5 : wr.drew.cell? ⟨gt, ot + od, none⟩ = some (.int .i64 (zn : Int)) := H4.out.cell c0 (htn ⟨gt, ot, none⟩ 19 ct rfl (by decide))
      have hle := HT.out.1.le
      have HD := Lib.hid (H4.out.quiet (OnlyS.drew wr))
      have HP := Lib.hid (wputK wr.drew B g s4 _ zn 3 3 rfl HD.out.wr (by have := HLHL.out; rw [List.length_append, telBits_len]; omega) (HD.out.size HBZ.out) (by decide) (by omega))
      have hzu : IntKind.u64.wrap (zn : Int) = (zn : Int) := by rw [IntKind.wrap_u64]; omega
      have HSN : Hid (Lh ++ telBits (tv zf) (k + 1) 0 = Lh ++ telBits (tv zf) k 0 ++ num zn 3) := Lib.hid (by rw [telBits_snoc, Nat.zero_add, hzn, List.append_assoc])
      have hkI : (k : Int) < (told : Int) := by omega
      have hk19I : (k : Int) < 19 := by omega
      have hodI : (od : Int) < 19 := by omega
      have HKK := Lib.hid hkk
      clear hod hzn hz8 hzd o0 c0 hrow4 htn hkk hkt hk19 hod19
      go_wp2_with fail
      go_still_tail 11, (by kernel_rfl)
      change wpList _ _ _ _ _ wr.drew
      go_wp2_with ((with_reducible refine HP.out.mono ?_); rintro e w5 ⟨rfl, ho, s5, hw, hg⟩; have H5 := Lib.hid (HD.out.next ho hw hg); clear ho hw hg)
      refine ⟨⟨k + 1, HKK.out, by go_num, s5, by rw [HSN.out]; exact H5.out⟩, by have := HKK.out; simp only [intOf]; omega⟩
    · obtain rfl : k = told := by omega
      have hkI : decide ((k : Int) < (k : Int)) = false := decide_eq_false (by omega)
      have hkN : decide (k < k) = false := decide_eq_false (by omega)
      clear hkk hkt
      have hlw4 : Lh.length + 57 ≤ 1000000100 := by have := HLHL.out; omega
      obtain ⟨w4, rfl⟩ : ∃ x, x = wr := ⟨_, rfl⟩
      obtain ⟨L5, hL5⟩ : ∃ x, Lh ++ telBits (tv zf) k 0 = x := ⟨_, rfl⟩
      rw [hL5] at H4
      have HL5 := Lib.hid hL5
      have HL5L : Hid (L5.length ≤ 1000000071) := Lib.hid (by rw [← hL5, List.length_append, telBits_len]; have := HLHL.out; have := HTB.out; omega)
      have z2 := H4.out.cell HY.out.2.1 HG.out
      have z3 := H4.out.cell HY.out.2.2.1 HG.out
      have HT4 := Lib.hid (HT.out.1.only H4.out.only HT.out.2)
      have HZC : Hid (Coded zf) := Lib.hid ⟨may_good HK.out.fm, HK.out.fk⟩
      have HC := Lib.hid (coded_walk w4 (.slice pt 19 ct) zf HT4.out HZC.out.1 (st_no HZC.out.2))
      have hfl := HK.out.fl
      rw [hfl] at HC
      clear hL5 hfl z2
      go_wp2_with ((with_reducible refine HC.out.mono ?_); rintro e w5 ⟨p9, c9, Bc, rfl, hbc, hown, ho5⟩; have HOW := Lib.hid (And.intro hbc (And.intro hown ho5)); clear hbc hown ho5; have z2 := HOW.out.2.2.cell (H4.out.cell HY.out.2.1 HG.out) (fun h => h); have z6 : (w5.alloc (.cells #[.slice pt 19 ct, .slice p9 19 c9] 117)).cell? ⟨G, 2, none⟩ = some (.slice pr n cr) := (OnlyS.alloc (S := fun _ => False) w5 _).cell z2 (fun h => h))
      obtain ⟨w6, hw6⟩ : ∃ x, w5.alloc (.cells #[.slice pt 19 ct, .slice p9 19 c9] 117) = x := ⟨_, rfl⟩
      rw [hw6]
      have h56 : OnlyS (fun _ => False) w5 w6 := by rw [← hw6]; exact OnlyS.alloc _ _
      have hcr : w6.heap[w5.heap.size]? = some (.cells #[.slice pt 19 ct, .slice p9 19 c9] 117 (0, 0)) := by rw [← hw6]; exact heap_alloc_new _ _
      have H6 := Lib.hid (H4.out.quiet (HOW.out.2.2.trans h56))
      have hx4 := H4.out.wr.x_lt
      have hz45 := HOW.out.2.2.size
      have HCR := Lib.hid hcr
      have HCN : Hid (¬ wrX g s4 w5.heap.size) := Lib.hid (fun hx => by have := (hx4 _ hx).2; omega)
      have HCL : Hid (w5.heap.size < w6.heap.size) := Lib.hid (Array.getElem?_eq_some_iff.1 hcr).1
      have HT6 := Lib.hid (HT.out.1.only H6.out.only HT.out.2)
      have HTN : Hid (∀ p m c, Value.slice pt 19 ct = .slice (some p) m c → 0 < m → ¬ wrX g s4 p.block) := Lib.hid (fun p m c e hm => by
        cases e
        obtain ⟨gt, ot, hpt, hrow4⟩ := HT.out.1.some (by decide)
        cases hpt
        have hc := hrow4.ni 0 (by rw [HK.out.fl]; decide)
        exact H4.out.off (block_lt_of_cell hc) (HT.out.2 _ 19 ct rfl (by decide)))
      have HK6 : Hid (SlV w6 (.slice p9 19 c9) (nu (codes zf))) := Lib.hid ((own_toV HOW.out.2.1).only h56 (fun _ _ _ _ _ h => h))
      have HKN : Hid (∀ p m c, Value.slice p9 19 c9 = .slice (some p) m c → 0 < m → ¬ wrX g s4 p.block) := Lib.hid (fun p m c e hm hx => by
        cases e
        have h1 := (own_lt HOW.out.2.1 p.block rfl).1
        have h2 := (hx4 _ hx).2
        have h3 := HOW.out.1
        omega)
      have HR6 := Lib.hid (SlK.only HR.out.1 H6.out.only HR.out.2)
      have HRN : Hid (∀ p m c, Value.slice pr n cr = .slice (some p) m c → 0 < m → ¬ wrX g s4 p.block) := Lib.hid (fun p m c e hm => by
        cases e
        obtain ⟨_, ⟨gr, or, cap, he, hcap, hrow3⟩ | ⟨_, _, hm0⟩⟩ := HR.out.1
        · simp only [Value.slice.injEq] at he
          obtain ⟨he1, _, rfl⟩ := he
          cases he1
          obtain ⟨r1, _, _⟩ := rs_at gs 0 (by rw [HN.out.1]; exact hm)
          exact H4.out.off (block_lt_of_cell (hrow3 _ _ r1)) (HR.out.2 _ _ _ rfl hm)
        · omega)
      have HS6 := Lib.hid (WrGo.start H6.out.wr)
      have HB6 := Lib.hid (H6.out.size HBZ.out)
      clear hw6 h56 hcr hx4 hz45 z2 z3 z6 HC
      go_loopw [65] (fun i wr => ∃ q : Nat, q ≤ n ∧ i = .int .i64 (q : Int) ∧ ∃ s', WrGo w6 B g s4 (L5 ++ runs zf (gs.take q)) wr s') (fun i _ => n - (intOf i).toNat)
      case atStart => exact ⟨0, Nat.zero_le _, rfl, s4, by rw [show runs zf (gs.take 0) = [] from rfl, List.append_nil]; exact HS6.out⟩
      case round =>
        obtain ⟨q, hqn, rfl, s7, hgo⟩ := hrel
        have H7 := Lib.hid hgo
        clear hgo
        have HRX := Lib.hid (SlK.only HR6.out H7.out.only HRN.out)
        by_cases hqq : q < n
        · obtain ⟨_, ⟨gr, or, cap, he, hcap, hrow3⟩ | ⟨_, _, hm0⟩⟩ := HRX.out
          case inr => omega
          simp only [Value.slice.injEq] at he
          obtain ⟨hpr, _, rfl⟩ := he
          subst hpr
          have hlg : q < gs.length := by rw [HN.out.1]; exact hqq
          obtain ⟨r1, r2, r3⟩ := rs_at gs q hlg
          have hmem := mem_getD gs q hlg
          have hok := okGs_xm gs [] HK.out.ok _ hmem
          have hha := cdfit_of HZC.out _ (HK.out.has _ hmem)
          have hst := runs_step zf gs q hlg
          obtain ⟨⟨s, x, m⟩, hg⟩ : ∃ g, g = gs.getD q ⟨0, 0, 0⟩ := ⟨_, rfl⟩
          rw [← hg] at r1 r2 r3 hok hha hst
          simp only at r1 r2 r3 hok hha hst
          have c0 := hrow3 _ _ r1
          have c1' := hrow3 _ _ r2
          have c2' := hrow3 _ _ r3
          rw [← Nat.add_assoc] at c1' c2'
          have hp7 : 2 ^ m ≤ 2 ^ 7 := Nat.pow_le_pow_right (by decide) hok.2
          have hxu : IntKind.u64.wrap (x : Int) = (x : Int) := by rw [IntKind.wrap_u64]; omega
          have hs19 : s < 19 := by have := hha.lt; rw [HK.out.fl] at this; exact this
          have hrl := runsB_len (zs := zf) (fun i => by have := (HK.out.f7 i).2; omega) (gs.take q) (fun g hg => (okGs_xm gs [] HK.out.ok g (List.mem_of_mem_take hg)).2)
          rw [List.length_take] at hrl
          have HLEN : Hid ((L5 ++ runs zf (gs.take q)).length + 15 ≤ 1099511000000) := Lib.hid (by rw [List.length_append]; have := HL5L.out; have := HN.out; omega)
          obtain ⟨w8, hw8⟩ : ∃ w8, w8 = wr.alloc (.cells #[.int .i64 (s : Int), .int .i64 (x : Int), .int .i64 (m : Int)] 101 (0, 0)) := ⟨_, rfl⟩
          have h78 : OnlyS (fun _ => False) wr w8 := by rw [hw8]; exact OnlyS.alloc _ _
          have hr8 : w8.heap[wr.heap.size]? = some (.cells #[.int .i64 (s : Int), .int .i64 (x : Int), .int .i64 (m : Int)] 101 (0, 0)) := by rw [hw8]; exact heap_alloc_new _ _
          obtain ⟨z0, z1, z2, _, _, _⟩ := row3 hr8
          have HZ12 := Lib.hid (And.intro z1 z2)
          have H8 := Lib.hid (H7.out.quiet h78)
          have hx7 := H7.out.wr.x_lt
          have HBX : Hid (¬ wrX g s7 wr.heap.size) := Lib.hid (fun hx => by have := (hx7 _ hx).2; omega)
          have y0 := H8.out.cell (row2c HCR.out).1 HCN.out
          have y1 := H8.out.cell (row2c HCR.out).2 HCN.out
          have HCW := Lib.hid (codewrite_walk w8 B g s7 _ (.slice pt 19 ct) (.slice p9 19 c9) zf s H8.out.wr (HT6.out.only H8.out.only HTN.out) (HK6.out.only H8.out.only HKN.out) hha.lt hha.z hha.f (by have := HLEN.out; omega) (H8.out.size HB6.out) (by rw [HK.out.fl]; decide))
          have HXM := Lib.hid (And.intro hok hp7)
          have HST := Lib.hid hst
          have HCL15 : Hid ((cod zf s).length ≤ 15) := Lib.hid (by rw [cod_length]; have := hha.z; omega)
          have hqI : (q : Int) < (n : Int) := by omega
          have hn9 : (n : Int) ≤ 1000 := by have := HN.out.2.1; omega
          have hmI : (m : Int) ≤ 7 := by omega
          have HQ := Lib.hid hqq
          clear hrow3 hlg r1 r2 r3 hmem hok hha hst hg hp7 hrl h78 hr8 hx7 hqq hqn z1 z2
          go_upto_region 12 with fail
          rw [← hw8]
          clear hw8
          go_wp2_with (first
            | ((with_reducible refine HCW.out.mono ?_); rintro e w9 ⟨rfl, ho, s9, hw, hg⟩; have H9 := Lib.hid (H8.out.next ho hw hg); have z1 := ho.cell HZ12.out.1 HBX.out; have z2 := ho.cell HZ12.out.2 HBX.out; have HP := Lib.hid (wput_walk w9 B g s9 _ x m H9.out.wr (by have := HLEN.out; have := HCL15.out; have := HXM.out.1.2; rw [List.length_append]; omega) (H9.out.size HB6.out) (by have := HXM.out.1.2; omega) HXM.out.1.1); clear ho hw hg)
            | ((with_reducible refine HP.out.mono ?_); rintro e w10 ⟨rfl, ho, s10, hw, hg⟩; have H10 := Lib.hid (H9.out.next ho hw hg); clear ho hw hg))
          refine ⟨⟨q + 1, HQ.out, by go_num, s10, ?_⟩, by have := HQ.out; simp only [intOf]; omega⟩
          have h10 := H10.out
          rw [HST.out, ← List.append_assoc, ← List.append_assoc]
          exact h10
        · obtain rfl : q = n := by omega
          have hqI : decide ((q : Int) < (q : Int)) = false := decide_eq_false (by omega)
          have hqN : decide (q < q) = false := decide_eq_false (by omega)
          have HFIN := Lib.hid (H6.out.trans H7.out)
          clear hqq hqn
          go_wp2_with fail
          go_end0
          have hfin := HFIN.out
          have e : L5 ++ runs zf (gs.take q) = L ++ headBits a b zf k gs := by
            rw [← HL5.out, ← HLH.out, List.take_of_length_le (by rw [HN.out.1]; exact Nat.le_refl _)]
            unfold headBits
            rw [HN.out.2.2.1, HN.out.2.2.2]
            simp only [List.append_assoc]
            rfl
          rw [e] at hfin
          exact ⟨rfl, hfin.only, s7, hfin.wr, hfin.grew⟩
end Go.Proofs.YtphdcgioeokfbaaDoor
/-
  A block behind a writer.
-/
namespace Go.Proofs.YtphdcgioeokfbaaDoor
open Go.RowKit Hf

/-- What a dynamic block asks. -/
structure HdSt (w : World) (g G : Nat) (sv va vb vr vt : Value) (ts : List Tok) : Prop where
  row : w.heap[G]? = some (.cells #[va, vb, vr, vt, .int .i64 (Df.tS ts : Int)] 95 (0, 0))
  ng : ¬ wrX g sv G
  a : SlV w va (ni (Df.zS ts))
  b : SlV w vb (ni (Df.zD ts))
  r : SlK 3 w vr (Df.gS ts).length (rs (Df.gS ts))
  t : SlV w vt (ni (Df.fS ts))
  far : ∀ v, v = va ∨ v = vb ∨ v = vr ∨ v = vt → ∀ p n c, v = .slice (some p) n c → 0 < n → ¬ wrX g sv p.block
  ord : OrdAt w
  og : ¬ wrX g sv 2
theorem slv_lt {w : World} {p : Addr} {n c : Nat} {l : List Int} (h : SlV w (.slice (some p) n c) (ni l)) (hn : 0 < n) : p.block < w.heap.size := by
  obtain ⟨g, o, hp, hrow⟩ := h.some hn
  cases hp
  have hl := h.len
  rw [ni_length] at hl
  exact block_lt_of_cell (hrow.ni 0 (by omega))
set_option maxRecDepth 100000 in
set_option maxHeartbeats 1000000 in
theorem writeDynamic_walk (w : World) (B g gb G : Nat) (sv : Value) (L : List Bool) (lv va vb vr vt : Value) (l : List Df.Z) (h : WrAt w B g sv L) (hB : B ≤ w.heap.size) (hl : L.length ≤ 1000000000) (hl2 : l.length ≤ 1000000) (hst : WdSt w g gb sv lv l) (hgb : gb < w.heap.size) (hlv : ∀ p n c, lv = .slice (some p) n c → 0 < n → p.block < w.heap.size)
    (hc : w.cell? ⟨gb, 4 + 316, none⟩ = some (.pointer (some ⟨G, 0, none⟩))) (h0 : 0 < w.heap.size ∧ 1 < w.heap.size) (hd : HdSt w g G sv va vb vr vt (l.map Df.tok)) :
    Calls Tryd.prog 30 #[.pointer (some ⟨gb, 0, none⟩), .pointer (some ⟨g, 0, none⟩)] w (WrtPost (.tuple #[]) B g (L ++ (headBits (Df.zS (l.map Df.tok)) (Df.zD (l.map Df.tok)) (Df.fS (l.map Df.tok)) (Df.tS (l.map Df.tok)) (Df.gS (l.map Df.tok)) ++ body (Df.zS (l.map Df.tok)) (Df.zD (l.map Df.tok)) (l.map Df.tok))) (wrX g sv) w) := by
  have hk := Df.head_ok (l.map Df.tok)
  have hrl : (Df.gS (l.map Df.tok)).length ≤ 1000 := by
    have h1 := dec_le (Df.gS (l.map Df.tok)) []
    rw [hk.dec, List.length_append] at h1
    have := hk.al
    have := hk.bl
    simp at h1; omega
  have hO0 := hd.ord 0 (by decide)
  have HC1 := Lib.hid (hwrite_walk w B g G sv L va vb vr vt _ _ _ _ _ h hB (by omega) hd.row hd.ng hd.a hd.b hd.r (hd.far vr (.inr (.inr (.inl rfl)))) hd.t (hd.far vt (.inr (.inr (.inr rfl)))) hd.ord hd.og hk hrl)
  have HL0 := Lib.hid (hst.lo.1)
  obtain ⟨HB, hHB⟩ : ∃ x, headBits (Df.zS (l.map Df.tok)) (Df.zD (l.map Df.tok)) (Df.fS (l.map Df.tok)) (Df.tS (l.map Df.tok)) (Df.gS (l.map Df.tok)) = x := ⟨_, rfl⟩
  have hHL : HB.length ≤ 10000 := by rw [← hHB]; have := Df.head_len hk; omega
  rw [hHB] at HC1 ⊢
  obtain ⟨x0, x1, -, -, -, -⟩ := row5 hd.row
  have hS0 := WrGo.start h
  have HW : Hid (∀ w1 s1, WrGo w B g sv (L ++ HB) w1 s1 → w1.cell? ⟨gb, 320, none⟩ = some (.pointer (some ⟨G, 0, none⟩)) ∧ w1.cell? ⟨G, 0, none⟩ = some va ∧ w1.cell? ⟨G, 1, none⟩ = some vb ∧
      Calls Tryd.prog 44 #[.pointer (some ⟨gb, 0, none⟩), .pointer (some ⟨g, 0, none⟩), va, vb] w1.drew (WrtPost (.tuple #[]) B g ((L ++ HB) ++ body (Df.zS (l.map Df.tok)) (Df.zD (l.map Df.tok)) (l.map Df.tok)) (wrX g s1) w1.drew)) := Lib.hid (fun w1 s1 hg => by
    have hd1 := hg.quiet (OnlyS.drew w1)
    refine ⟨hg.cell hc hst.gb, hg.cell x0 hd.ng, hg.cell x1 hd.ng, ?_⟩
    refine wordsG w1.drew B g gb s1 (L ++ HB) lv va vb l _ _ hd1.wr (hd1.size hB) (by rw [List.length_append]; omega) (hst.go hd1 hgb (fun p n c e hn => hlv p n c e hn) ⟨h0.1, h0.2⟩) (hd.a.only hd1.only (hd.far va (.inl rfl))) (hd.b.only hd1.only (hd.far vb (.inr (.inl rfl))))
      (fun p n c e hn => hd1.off (by subst e; exact slv_lt hd.a hn) (hd.far va (.inl rfl) p n c e hn)) (fun p n c e hn => hd1.off (by subst e; exact slv_lt hd.b hn) (hd.far vb (.inr (.inl rfl)) p n c e hn)) (zS_coded _) (zD_coded _) (Df.dyn_has (fun t ht => by obtain ⟨s, hs, rfl⟩ := List.mem_map.1 ht; exact Df.tok_low (hst.ok s hs))) (Df.zS_pos _ 256 (by decide) (Df.mem256 _)))
  have HS0 := Lib.hid hS0
  have hcw : w.cell? ⟨gb, 320, none⟩ = some (.pointer (some ⟨G, 0, none⟩)) := hc
  clear hk hrl hO0 hHB hHL x0 x1 hS0 hd hst h hB hl hl2 hgb hlv h0 hc HL0
  go_enter Tryd.func30, Tryd.ntmps30
  go_wp2_with ((with_reducible refine HC1.out.mono ?_); rintro e w1 ⟨rfl, ho, s1, hw, hg⟩; have H1 := Lib.hid (HS0.out.next ho hw hg); obtain ⟨y0, y1, y2, y3⟩ := HW.out w1 s1 H1.out; have HC2 := Lib.hid y3; clear ho hw hg y3)
  have y0D : w1.drew.cell? ⟨gb, 320, none⟩ = some (.pointer (some ⟨G, 0, none⟩)) := y0
  have y1D : w1.drew.cell? ⟨G, 0, none⟩ = some va := y1
  have y2D : w1.drew.cell? ⟨G, 1, none⟩ = some vb := y2
  have HD := Lib.hid (H1.out.quiet (OnlyS.drew w1))
  go_still_tail 16, (by kernel_rfl)
  change wpList _ _ _ _ _ w1.drew
  go_wp2_with ((with_reducible refine HC2.out.mono ?_); rintro e w2 ⟨rfl, ho, s2, hw, hg⟩; have H2 := Lib.hid (HD.out.next ho hw hg); clear ho hw hg)
  go_end0
  have h2 := H2.out
  rw [List.append_assoc] at h2
  exact ⟨rfl, h2.only, s2, h2.wr, h2.grew⟩
end Go.Proofs.YtphdcgioeokfbaaDoor
