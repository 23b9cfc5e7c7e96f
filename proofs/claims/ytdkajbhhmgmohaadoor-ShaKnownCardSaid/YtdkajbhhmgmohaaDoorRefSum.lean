/-
  The contract of portolanref01.Sum: the document's own answer is the digest, too.
-/
import Derived.Test.YtdkajbhhmgmohaaDoorPads
import Derived.Test.YtdkajbhhmgmohaaDoorBlock
namespace Go.Proofs.YtdkajbhhmgmohaaDoor
open Go.RowKit Sha

theorem RS.only {w wr w' : World} {v : Value} {l : List UInt8} {g : Nat} (h : RS w wr v l) (ho : Only g wr w') (hg : w.heap.size < g) (hown : ∀ k, v.ownBlock = some k → k ≠ g) : RS w w' v l := by
  refine ⟨h.below.trans (Below.of_only ho (by omega) h.below.size), h.res.only ho (by omega), ?_⟩
  obtain ⟨h0, ⟨h1, h2⟩ | ⟨k, cap, cur, h1, h2, h3, h4⟩⟩ := h.own
  · exact ⟨h0, .inl ⟨h1, h2⟩⟩
  · exact ⟨h0, .inr ⟨k, cap, cur, h1, h2, (ho.block k (Array.getElem?_eq_some_iff.1 h3).1 (hown k (by rw [h1]; rfl))).trans h3, h4⟩⟩
theorem RS.belowN {w wr w' : World} {v : Value} {l : List UInt8} (h : RS w wr v l) (hb : Below wr.heap.size wr w') : RS w w' v l :=
  ⟨h.below.trans (hb.mono h.below.size), h.res.below hb h.size, h.own.below hb (fun k hk => (h.own.lt k hk).2)⟩
structure HRel (w wr : World) (v : Value) (l : List UInt8) (gk gh : Nat) (s : St) : Prop where
  rs : RS w wr v l
  kb : wr.heap[gk]? = some (.cells (wcells kl) 59 (0, 0))
  hb : wr.heap[gh]? = some (.cells (hcells s).toArray 52 (0, 0))
structure Far (w : World) (v : Value) (gk gh : Nat) : Prop where
  k : w.heap.size < gk
  h : w.heap.size < gh
  ne : gk ≠ gh
  ok : ∀ b, v.ownBlock = some b → b ≠ gk ∧ b ≠ gh
theorem slw_row {w : World} {g : Nat} {l : List UInt8} {t : TypeId} (h : RowT t w g l) : SlW w (.slice (some ⟨g, 0, none⟩) l.length l.length) l := .inl ⟨g, 0, l.length, rfl, Nat.le_refl _, h.bytes⟩
theorem hrel_start {w w6 w7 w8 : World} {v : Value} {l : List UInt8} {A B : Obj} (h : RS w w6 v l) (h7 : w7.heap[w6.heap.size]? = some (.cells (wcells kl) 59 (0, 0))) (o7 : Only w6.heap.size (w6.alloc A) w7) (s7 : w7.heap.size = (w6.alloc A).heap.size)
    (h8 : w8.heap[w7.heap.size]? = some (.cells (hcells h0).toArray 52 (0, 0))) (o8 : Only w7.heap.size (w7.alloc B) w8) : HRel w w8 v l w6.heap.size w7.heap.size h0 ∧ Far w v w6.heap.size w7.heap.size := by
  have e7 : w7.heap.size = w6.heap.size + 1 := by rw [s7]; simp
  have hz := h.size
  have hlt := fun k hk => (h.own.lt k hk).2
  have r7 : RS w w7 v l := (h.alloc A).only o7 hz (fun k hk => by have := hlt k hk; omega)
  have r8 : RS w w8 v l := (r7.alloc B).only o8 (by omega) (fun k hk => by have := hlt k hk; omega)
  refine ⟨⟨r8, ?_, h8⟩, ⟨hz, by omega, by omega, fun b hb => by have := hlt b hb; omega⟩⟩
  exact (o8.block _ (by simp; omega) (by omega)).trans ((Below.heap_alloc _ _ _ (by omega)).trans h7)
theorem HRel.belowN {w wr w' : World} {v : Value} {l : List UInt8} {gk gh : Nat} {s : St} (h : HRel w wr v l gk gh s) (hb : Below wr.heap.size wr w') : HRel w w' v l gk gh s :=
  ⟨h.rs.belowN hb, (hb.block _ (Array.getElem?_eq_some_iff.1 h.kb).1).trans h.kb, (hb.block _ (Array.getElem?_eq_some_iff.1 h.hb).1).trans h.hb⟩
theorem HRel.put {w wr w' : World} {v : Value} {l : List UInt8} {gk gh : Nat} {s s' : St} (h : HRel w wr v l gk gh s) (hf : Far w v gk gh) (ho : Only gh wr w') (hr : w'.heap[gh]? = some (.cells (hcells s').toArray 52 (0, 0))) : HRel w w' v l gk gh s' :=
  ⟨h.rs.only ho hf.h (fun k hk => (hf.ok k hk).2), (ho.block _ (Array.getElem?_eq_some_iff.1 h.kb).1 hf.ne).trans h.kb, hr⟩
theorem HRel.drew {w wr : World} {v : Value} {l : List UInt8} {gk gh : Nat} {s : St} (h : HRel w wr v l gk gh s) : HRel w wr.drew v l gk gh s := ⟨⟨h.rs.below.drew, h.rs.res, h.rs.own.drew⟩, h.kb, h.hb⟩
structure OutRel (w wr : World) (gh go : Nat) (s : St) (l : List UInt8) : Prop where
  below : Below w.heap.size w wr
  res : RowT 24 wr w.heap.size (List.replicate 32 0)
  hb : wr.heap[gh]? = some (.cells (hcells s).toArray 52 (0, 0))
  out : RowT 24 wr go l
theorem OutRel.step {w wr : World} {gh go : Nat} {s : St} {l : List UInt8} (h : OutRel w wr gh go s l) (hg : w.heap.size < go ∧ gh ≠ go) (i : Nat) (x : UInt8) : OutRel w (wr.setCell ⟨go, i, none⟩ (.int .u8 (bi x))) gh go s (l.set i x) :=
  ⟨h.below.setCell (by show w.heap.size ≤ go; omega) _, (heap_setCell_other _ _ _ _ (by show w.heap.size ≠ go; omega)).trans h.res, (heap_setCell_other _ _ _ _ hg.2).trans h.hb, h.out.set i x⟩
theorem hw_cell {w wr : World} {gh go : Nat} {s : St} {l : List UInt8} (h : OutRel w wr gh go s l) (k : Nat) (hk : k < 8) : wr.cell? ⟨gh, k, none⟩ = some (.int .u32 (iv (hw s k))) := by
  rw [cell_of_row _ _ _ _ _ _ h.hb]
  match k, hk with
  | 0, _ => rfl
  | 1, _ => rfl
  | 2, _ => rfl
  | 3, _ => rfl
  | 4, _ => rfl
  | 5, _ => rfl
  | 6, _ => rfl
  | 7, _ => rfl
theorem size24 : (Tryd.prog.info? 24).map (·.size) = some 32 := by kernel_rfl
structure IsShaD (bs D : List UInt8) : Prop where
  eq : shaL bs = D
structure IsDig (bs : List UInt8) (s : St) : Prop where
  eq : shaL bs = dig s
structure TailRel (n : Nat) (w : World) (gt : Nat) (v3 : Value) (l : List UInt8) (v4 v6 : Value) (wr : World) : Prop where
  ex : ∃ j : Nat, j ≤ 8 ∧ v6 = .int .i64 (7 - (j : Int)) ∧ v4 = .int .u64 ((n * 8 / 256 ^ j : Nat) : Int) ∧ RS w wr v3 l ∧ RowT 58 wr gt (tailTo n j)
set_option maxRecDepth 100000 in
set_option maxHeartbeats 2000000 in
theorem rsum_walk (w : World) (v : Value) (bs : List UInt8) (hv : SlW w v bs) (hlen : bs.length ≤ 549755813888) :
    Calls Tryd.prog 10 #[v] w (SumPost bs w) := by
  have hvl : ∃ p cap, v = .slice p bs.length cap := by
    rcases hv with ⟨g, o, cap, rfl, _⟩ | ⟨p, rfl, rfl⟩
    · exact ⟨_, _, rfl⟩
    · exact ⟨_, _, rfl⟩
  obtain ⟨p, cap, rfl⟩ := hvl
  have HV := Lib.hid hv
  clear hv
  generalize hn : bs.length = n at *
  have HN := Lib.hid hn
  clear hn
  have hr0 : ∀ o, o = Obj.cells (bcells (List.replicate 32 0)) 24 (0, 0) → RS w (w.alloc o) (.slice none 0 0) [] := fun o ho => ⟨(Below.refl _ _).alloc (Nat.le_refl _) _, by rw [ho]; exact heap_alloc_new _ _, OwnB.nil _ _⟩
  have HR0 := Lib.hid hr0
  clear hr0
  go_enter Tryd.func10, Tryd.ntmps10
  go_wp2_with (first | (refine wpList_appB rfl (.tmp 13) (.tmp 14) rfl (w.heap.size + 1) _ _ [] bs rfl rfl (OwnB.nil _ _) (HV.out.below ((Below.refl _ _).alloc (Nat.le_refl _) _) (Nat.le_refl _)) (by simp) (by rw [HN.out]; simp; omega) ?_; intro v1 w1 hown1 hg1; have hr1 : RS w w1 v1 bs := (HR0.out _ rfl).app hown1 hg1; clear hown1 hg1) | (refine wpList_appB rfl (.tmp 16) (.tmp 17) rfl (w.heap.size + 1) v1 _ bs [128] rfl rfl (hr1.alloc _).own (slw_one _ 128 _) (hr1.alloc (.cells #[.int .u8 128] 5 (0, 0))).size (by rw [HN.out]; simp; omega) ?_; intro v2 w2 hown2 hg2; have hr2 : RS w w2 v2 (bs ++ [128]) := (hr1.alloc _).app hown2 hg2; clear hown2 hg2 hr1) | fail)
  go_loopw [3] (fun v wr => ∃ k : Nat, k ≤ wholeOf n - 9 ∧ RS w wr v (bs ++ [128] ++ List.replicate k 0)) (fun v _ => n + 1 + (wholeOf n - 9) - sliceLen v)
  case atStart => exact ⟨0, by omega, by simpa using hr2⟩
  case round =>
    clear hr2
    obtain ⟨k, hk, hr⟩ := hrel
    obtain ⟨p3, cap3, e3⟩ := hr.own.shape
    obtain ⟨L, hL⟩ : ∃ L, L = n + 1 + k := ⟨_, rfl⟩
    have hLL : (bs ++ [128] ++ List.replicate k 0).length = L := by simp [HN.out]; omega
    rw [hLL] at e3
    subst e3
    have hwb := wholeOf_bounds n
    have HL := Lib.hid hL
    have HLL := Lib.hid hLL
    by_cases hm : L % 64 = 56
    · have hme : (L : Int) % 64 = 56 := by omega
      have hkk : k = wholeOf n - 9 := whole_stop n k hk (by omega)
      rw [hkk] at hr
      have HP : Hid (pad bs = bs ++ [128] ++ List.replicate (wholeOf n - 9) 0 ++ tailTo n 8) := Lib.hid (by rw [pad_eq, HN.out])
      clear hkk hL hLL hm
      go_wp2_with fail
      clear hme
      have hr4 := hr.alloc (.cells (bcells (List.replicate 8 0)) 58 (0, 0))
      have ht4 : RowT 58 (wr.alloc (.cells (bcells (List.replicate 8 0)) 58 (0, 0))) wr.heap.size (tailTo n 0) := heap_alloc_new _ _
      have hgt : w.heap.size < wr.heap.size := hr.size
      have hgo : ∀ k, (Value.slice p3 L cap3).ownBlock = some k → k ≠ wr.heap.size := fun k hk => by have := (hr.own.lt k hk).2; omega
      have HGO := Lib.hid hgo
      have HW4 : Hid (wr.heap.size + 1 = (wr.alloc (.cells (bcells (List.replicate 8 0)) 58 (0, 0))).heap.size) := Lib.hid (by simp)
      clear hgo hr
      obtain ⟨gt, hgt'⟩ : ∃ gt, gt = wr.heap.size := ⟨_, rfl⟩
      rw [← hgt'] at ht4 hgt HGO HW4
      rw [← hgt']
      obtain ⟨l0, hl0⟩ : ∃ l0, l0 = bs ++ [128] ++ List.replicate (wholeOf n - 9) 0 := ⟨_, rfl⟩
      rw [← hl0] at hr4 HP
      have HLEN : Hid (l0.length = n + 1 + (wholeOf n - 9)) := Lib.hid (by rw [hl0]; simp [HN.out]; omega)
      clear hl0 hgt'
      go_loopw [4, 6] (fun v4 v6 wr => TailRel n w gt (.slice p3 L cap3) l0 v4 v6 wr) (fun _ v6 _ => (intOf v6 + 1).toNat)
      case atStart => exact ⟨0, by omega, rfl, by simp, hr4, ht4⟩
      case round =>
        clear hr4 ht4
        obtain ⟨j, hj, rfl, rfl, hr, ht⟩ := hrel.ex
        clear hrel
        by_cases hj8 : j < 8
        · have c0 := ht.cell (7 - j) (by rw [tailTo_length]; omega)
          have f0 := ht.free (7 - j)
          obtain ⟨x, hx⟩ : ∃ x, x = n * 8 / 256 ^ j := ⟨_, rfl⟩
          rw [← hx]
          have HX := Lib.hid hx
          have hxn : x ≤ n * 8 := by rw [hx]; exact Nat.div_le_self _ _
          clear hx
          have ji : (j : Int) < 8 := by omega
          have j7 : (j : Int) ≤ 7 := by omega
          go_wp2_with fail
          refine ⟨⟨j + 1, by omega, ?_, ?_, hr.only ((Only.refl _ _).setCell _ _) hgt HGO.out, ?_⟩, by simp [intOf]; omega⟩
          · congr 1; omega
          · rw [Nat.pow_succ, ← Nat.div_div_eq_div_mul, ← HX.out]; rfl
          · have := ht.set (7 - j) (UInt8.ofNat (n * 8 / 256 ^ j))
            rw [bi_ofNat, ← HX.out] at this
            simp only [tailTo, ← HX.out]
            exact this
        · have ji : (8 : Int) ≤ (j : Int) := by omega
          obtain rfl : j = 8 := by omega
          have hsl := slw_row ht
          rw [tailTo_length] at hsl
          have HSZ : Hid (l0.length + (tailTo n 8).length ≤ 1099511627776) := Lib.hid (by rw [tailTo_length, HLEN.out]; omega)
          have HSL := Lib.hid hsl
          have al : Tryd.prog.arrayLen 58 = 8 := by kernel_rfl
          have jf : ¬ (0 : Int) ≤ 7 - ((8 : Nat) : Int) := by decide
          have HI := Lib.hid (i59 kl kl_length)
          have HO : Hid ((wcells (List.replicate 64 0#32)).size = (wcells kl).size) := Lib.hid (by rw [wcells_size, wcells_size, kl_length]; rfl)
          clear hsl
          go_wp2_with (first | (refine wpList_appB rfl (.tmp 41) (.tmp 42) rfl (w.heap.size + 1) _ _ l0 (tailTo n 8) rfl rfl hr.own HSL.out hr.size HSZ.out ?_; intro v5 w5 hown5 hg5; have hr5 : RS w w5 v5 (pad bs) := by { have := hr.app hown5 hg5; rw [HP.out]; exact this }; clear hown5 hg5 hr HSL HSZ) | (go_at_call 29; refine (constants_walk _).mono ?_; rintro e w6 ⟨rfl, hb6⟩; have hr6 := hr5.belowN hb6; clear hb6 hr5) | (refine wpList_store_rowX rfl 59 _ _ rfl w6.heap.size (wcells kl) rfl rfl 59 (wcells (List.replicate 64 0#32)) (heap_alloc_new _ _) HI.out HO.out (wcells_one _) ?_; intro w7 hrow7 ho7 hs7; have H7 := Lib.hid hrow7; have O7 := Lib.hid ho7; have S7 := Lib.hid hs7; clear hrow7 ho7 hs7) | (refine wpList_buildX rfl 52 _ rfl (hcells h0).toArray (by kernel_rfl) ?_) | (refine wpList_store_rowX rfl 52 _ _ rfl w7.heap.size (hcells h0).toArray rfl rfl 52 (hcells z0).toArray (heap_alloc_new _ _) size52 rfl (hcells_one _) ?_; intro w8 hrow8 ho8 hs8; obtain ⟨hH, hFar⟩ := hrel_start hr6 H7.out O7.out S7.out hrow8 ho8; clear H7 O7 S7 hrow8 ho8 hs8 hr6) | fail)
          obtain ⟨g5, cap5, e5, hcap5⟩ : ∃ g5 cap5, v5 = .slice (some ⟨g5, 0, none⟩) (pad bs).length cap5 ∧ (pad bs).length ≤ cap5 := by
            obtain ⟨_, ⟨h1, h2⟩ | ⟨g, cp, cur, h1, h2, h3, h4, _⟩⟩ := hH.rs.own
            · have := HP.out; rw [this, List.length_append, tailTo_length] at h2; omega
            · exact ⟨g, cp, h1, h4⟩
          subst e5
          generalize (n : Int) * 8 / 18446744073709551616 = dead
          have hpl := pad_length bs
          have HPL : Hid ((pad bs).length = n + 1 + (wholeOf n - 9) + 8) := Lib.hid (by rw [HP.out, List.length_append, tailTo_length, HLEN.out])
          obtain ⟨M, hM⟩ : ∃ M, M = pad bs := ⟨_, rfl⟩
          rw [← hM] at hH hcap5 hpl HPL hFar
          rw [← hM]
          have hMl : M.length ≤ 1099511627776 := by rw [HPL.out]; omega
          have HMM : Hid (M = pad bs) := Lib.hid hM
          clear hM
          obtain ⟨LM, hLM⟩ : ∃ LM, LM = M.length := ⟨_, rfl⟩
          rw [← hLM] at hH hcap5 hpl HPL hFar hMl
          rw [← hLM]
          have HLM : Hid (M.length = LM) := Lib.hid hLM.symm
          clear hLM
          obtain ⟨gk, hgk⟩ : ∃ g, g = w6.heap.size := ⟨_, rfl⟩
          obtain ⟨gh, hgh⟩ : ∃ g, g = w7.heap.size := ⟨_, rfl⟩
          rw [← hgk, ← hgh] at hH hFar
          rw [← hgk, ← hgh]
          clear hgk hgh
          go_loopw [9] (fun v9 wr => ∃ q : Nat, 64 * q ≤ LM ∧ v9 = .int .i64 ((64 * q : Nat) : Int) ∧ HRel w wr (.slice (some ⟨g5, 0, none⟩) LM cap5) M gk gh (blocksTo h0 M q)) (fun v9 _ => LM - (intOf v9).toNat)
          case atStart => exact ⟨0, by omega, rfl, hH⟩
          case round =>
            clear hH
            obtain ⟨q, hq, rfl, hH⟩ := hrel
            obtain ⟨A, hA⟩ : ∃ A, A = 64 * q := ⟨_, rfl⟩
            rw [← hA] at hq
            rw [← hA]
            have HA := Lib.hid hA
            by_cases hlt : A < LM
            · have hA64 : A + 64 ≤ LM := by omega
              clear hA
              obtain ⟨S0, hS0⟩ : ∃ S0, S0 = blocksTo h0 M q := ⟨_, rfl⟩
              rw [← hS0] at hH
              have HS0 := Lib.hid hS0
              clear hS0
              have ai : (A : Int) < (LM : Int) := by omega
              have ai2 : (A : Int) + 64 ≤ (cap5 : Int) := by omega
              have ai3 : ¬ cap5 = A := by omega
              have HI8 : Hid ((Tryd.prog.info? 52).map (·.size) = some (hcells S0).toArray.size) := Lib.hid size52
              have sA : IntKind.i64.wrap ((A : Int) + 64) = (A : Int) + 64 := IntWalk.i64_in _ (by omega)
              have tA : ((A : Int) + 64).toNat = A + 64 := by omega
              have pA : 0 ≤ (A : Int) + 64 := by omega
              have pB : (A : Int) ≤ (A : Int) + 64 := by omega
              go_wp2_with fail
              refine wp_still_tail 7 (by kernel_rfl) (by kernel_rfl) ?_
              simp only [List.take_succ_cons, List.take_zero, List.drop_succ_cons, List.drop_zero]
              refine wpStill_load_row rfl 52 _ rfl gh rfl 52 _ (0, 0) _ _ hH.drew.hb Tryd.underlying52 HI8.out ?_
              repeat still_step
              refine wpStill_load_row rfl 59 _ rfl gk rfl 59 _ (0, 0) _ _ hH.drew.kb Tryd.underlying59 (i59 kl kl_length) ?_
              refine wpStill_nil ?_
              go_wp2_with fail
              have hby : BytesAt wr.drew g5 A ((M.drop A).take 64) := by
                obtain ⟨g', o', c', e', _, hb'⟩ | ⟨p', _, hM0⟩ := hH.rs.own.toW
                · obtain ⟨rfl, rfl⟩ : g5 = g' ∧ 0 = o' := by simp at e'; exact ⟨e'.1.1, e'.1.2⟩
                  have := (hb'.drop A).take 64
                  rw [Nat.zero_add] at this
                  exact this
                · have := HLM.out; rw [hM0] at this; simp at this; omega
              refine (block_walk S0 g5 A (cap5 - A) ((M.drop A).take 64) _ (by simp [HLM.out]; omega) hby).mono ?_
              rintro e w9 ⟨rfl, hb9⟩
              have hH9 := hH.drew.belowN hb9
              have HI9 : Hid ((Tryd.prog.info? 52).map (·.size) = some (hcells (compress S0 ((M.drop A).take 64))).toArray.size) := Lib.hid size52
              have HR9 := Lib.hid hH9.hb
              have HQ : Hid (blocksTo h0 M (q + 1) = compress S0 ((M.drop A).take 64)) := Lib.hid (by simp only [blocksTo]; rw [← HS0.out, ← HA.out])
              clear sA tA pA pB hby hb9
              obtain ⟨S1, hS1⟩ : ∃ S1, S1 = compress S0 ((M.drop A).take 64) := ⟨_, rfl⟩
              rw [← hS1] at HI9 HQ
              rw [← hS1]
              clear hS1
              go_wp2_with (first | (refine wpList_store_rowX rfl 52 _ _ rfl gh (hcells S1).toArray rfl rfl 52 (hcells S0).toArray HR9.out HI9.out rfl (hcells_one _) ?_; intro w10 hrow10 ho10 hs10) | fail)
              refine ⟨⟨q + 1, by have := HA.out; omega, ?_, ?_⟩, by simp [intOf]; omega⟩
              · congr 1; have := HA.out; omega
              · rw [HQ.out]; exact hH9.put hFar ho10 hrow10
            · have ai : (LM : Int) ≤ (A : Int) := by omega
              have HDG : IsDig bs (blocksTo h0 M q) := ⟨by rw [shaL, ← HMM.out, HLM.out, show LM / 64 = q by omega]⟩
              clear hA
              obtain ⟨S0, hS0⟩ : ∃ S0, S0 = blocksTo h0 M q := ⟨_, rfl⟩
              rw [← hS0] at hH HDG
              clear hS0
              have hz := hH.rs.size
              have hzh : gh < wr.heap.size := (Array.getElem?_eq_some_iff.1 hH.hb).1
              have hO0 : OutRel w (wr.alloc (.cells (bcells (List.replicate 32 0)) 24 (0, 0))) gh wr.heap.size S0 (digTo S0 (4 * 0)) := ⟨hH.rs.below.alloc hH.rs.below.size _, (Below.heap_alloc _ _ _ hz).trans hH.rs.res, (Below.heap_alloc _ _ _ hzh).trans hH.hb, heap_alloc_new _ _⟩
              have HGG : Hid (w.heap.size < wr.heap.size ∧ gh ≠ wr.heap.size) := Lib.hid ⟨hz, by omega⟩
              go_wp2_with fail
              obtain ⟨go, hgo⟩ : ∃ g, g = wr.heap.size := ⟨_, rfl⟩
              rw [← hgo] at hO0 HGG
              rw [← hgo]
              clear hgo hz hzh hH
              go_loopw [11] (fun v wr => ∃ k : Nat, k ≤ 8 ∧ v = .int .i64 k ∧ OutRel w wr gh go S0 (digTo S0 (4 * k))) (fun v _ => 8 - (intOf v).toNat)
              case atStart => exact ⟨0, by omega, rfl, hO0⟩
              case round =>
                clear hO0
                obtain ⟨k, hk, rfl, hr⟩ := hrel
                by_cases hk8 : k < 8
                · have hki : (k : Int) < 8 := by omega
                  go_wp2_with fail
                  obtain ⟨wo, rfl⟩ : ∃ wo : World, wo = wr := ⟨_, rfl⟩
                  go_loopw [12] (fun v wr => ∃ j : Nat, j ≤ 4 ∧ v = .int .i64 j ∧ OutRel w wr gh go S0 (digTo S0 (4 * k + j))) (fun v _ => 4 - (intOf v).toNat)
                  case atStart => exact ⟨0, by omega, rfl, hr⟩
                  case round =>
                    clear hr
                    obtain ⟨j, hj, rfl, hr⟩ := hrel
                    by_cases hj4 : j < 4
                    · have hji : (j : Int) < 4 := by omega
                      have c0 := hr.out.cell (4 * k + j) (by rw [digTo_length]; omega)
                      have f0 := hr.out.free (4 * k + j)
                      have ch := hw_cell hr k hk8
                      obtain ⟨X, hX⟩ : ∃ X, X = hw S0 k := ⟨_, rfl⟩
                      rw [← hX] at ch
                      have HX := Lib.hid hX
                      have hnn := iv_nonneg X
                      have hnl := iv_lt X
                      clear hX
                      go_wp2_with fail
                      refine ⟨⟨j + 1, by omega, by go_num, ?_⟩, by simp [intOf]; omega⟩
                      have := hr.step HGG.out (4 * k + j) (UInt8.ofNat (X.toNat / 2 ^ (8 * (3 - j))))
                      rw [bi_ofNat] at this
                      have e1 : (4 * k + j) / 4 = k := by omega
                      have e2 : (4 * k + j) % 4 = j := by omega
                      have e3 : 24 - 8 * j = 8 * (3 - j) := by omega
                      rw [← Nat.add_assoc, e3]
                      simp only [digTo, e1, e2, ← HX.out]
                      simpa [iv] using this
                    · have hji : (4 : Int) ≤ (j : Int) := by omega
                      go_wp2_with fail
                      obtain rfl : j = 4 := by omega
                      refine ⟨⟨k + 1, by omega, by go_num, hr⟩, by simp [intOf]; omega⟩
                · have hki : (8 : Int) ≤ (k : Int) := by omega
                  obtain ⟨D, hD⟩ : ∃ D, D = digTo S0 (4 * k) := ⟨_, rfl⟩
                  rw [← hD] at hr
                  have hDl : D.length = 32 := by rw [hD, digTo_length]
                  have HE : IsShaD bs D := ⟨by rw [HDG.eq, dig, hD, show 4 * k = 32 by omega]⟩
                  have HI24 : Hid ((Tryd.prog.info? 24).map (·.size) = some (bcells D).size) := Lib.hid (by rw [bcells_size, hDl]; exact size24)
                  have HO24 : Hid ((bcells (List.replicate 32 0)).size = (bcells D).size) := Lib.hid (by rw [bcells_size, bcells_size, hDl]; rfl)
                  have HR1 : Hid (wr.heap[go]? = some (.cells (bcells D) 24 (0, 0))) := Lib.hid hr.out
                  have HR2 : Hid (wr.heap[w.heap.size]? = some (.cells (bcells (List.replicate 32 0)) 24 (0, 0))) := Lib.hid hr.res
                  have hbel := hr.below
                  have HQ2 : Hid (∀ wx, Below w.heap.size w wx → SumPost bs w (.returned (.agg (bcells D))) wx) := Lib.hid (fun wx h => ⟨by rw [HE.eq], h⟩)
                  clear hD hDl hr HDG
                  go_wp2_with (first | (refine wpList_load_row rfl 24 _ rfl go rfl 24 (bcells D) (0, 0) _ HR1.out Tryd.underlying24 rfl HI24.out ?_) | (refine wpList_store_rowX rfl 24 _ _ rfl w.heap.size (bcells D) rfl rfl 24 _ HR2.out HI24.out HO24.out (bcells_one _) ?_; intro w11 hrow11 ho11 hs11))
                  refine bodyPost_ret (v := .agg (bcells D)) ?_ rfl (HQ2.out _ (hbel.trans (Below.of_only ho11 (Nat.le_refl _) hbel.size)))
                  exact results_cell_row (p := 2) (ty := 24) rfl _ _ w.heap.size 24 _ (0, 0) _ rfl hrow11 Tryd.underlying24 rfl HI24.out
    · have hme : ((L : Int) % 64 == 56) = false := by simp; omega
      have hmf : ((L : Int) % 64 != 56) = true := by simp; omega
      have hk1 := whole_go n k hk (by omega)
      have hsz : (bs ++ [128] ++ List.replicate k 0).length + [(0 : UInt8)].length ≤ 1099511627776 := by rw [hLL]; simp; omega
      have HSZ := Lib.hid hsz
      clear hsz hL hLL hm
      go_wp2_with (first | (refine wpList_appB rfl (.tmp 23) (.tmp 24) rfl (w.heap.size + 1) _ _ (bs ++ [128] ++ List.replicate k 0) [0] rfl rfl (hr.alloc _).own (slw_one _ 0 _) (hr.alloc (.cells #[.int .u8 0] 5 (0, 0))).size HSZ.out ?_; intro v3 w3 hown3 hg3; have hr3 : RS w w3 v3 (bs ++ [128] ++ List.replicate k 0 ++ [0]) := (hr.alloc _).app hown3 hg3; clear hown3 hg3) | fail)
      obtain ⟨p4, cap4, e4⟩ := hr3.own.shape
      refine ⟨⟨k + 1, hk1, ?_⟩, ?_⟩
      · rw [List.replicate_succ', ← List.append_assoc]; exact hr3
      · rw [e4]; have := HL.out; simp [sliceLen, HN.out]; omega
end Go.Proofs.YtdkajbhhmgmohaaDoor
