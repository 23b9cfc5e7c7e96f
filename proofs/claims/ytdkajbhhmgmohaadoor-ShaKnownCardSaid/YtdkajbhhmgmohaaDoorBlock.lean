/-
  The contract of portolanref01.block: one block, as the document's own answer works it in.
-/
import Derived.Test.YtdkajbhhmgmohaaDoorRefA
import Derived.Deep.RegionHeld3
namespace Go.Proofs.YtdkajbhhmgmohaaDoor
open Go.RowKit Sha

structure BlkRel (w wr : World) (gb gk gr gw : Nat) (s : St) (l : List W) : Prop where
  below : Below w.heap.size w wr
  hb : wr.heap[gb]? = some (.cells (hcells s).toArray 52 (0, 0))
  kb : wr.heap[gk]? = some (.cells (wcells kl) 59 (0, 0))
  res : wr.heap[gr]? = some (.cells (hcells z0).toArray 52 (0, 0))
  row : wr.heap[gw]? = some (.cells (wcells l) 59 (0, 0))
  len : l.length = 64
theorem BlkRel.cell {w wr : World} {gb gk gr gw : Nat} {s : St} {l : List W} (h : BlkRel w wr gb gk gr gw s l) (i : Nat) (hi : i < 64) : wr.cell? ⟨gw, i, none⟩ = some (.int .u32 (iv (l.getD i 0#32))) := by
  rw [cell_of_row _ _ _ _ _ _ h.row, wcells_at _ _ (by rw [h.len]; exact hi)]
theorem BlkRel.kcell {w wr : World} {gb gk gr gw : Nat} {s : St} {l : List W} (h : BlkRel w wr gb gk gr gw s l) (i : Nat) (hi : i < 64) : wr.cell? ⟨gk, i, none⟩ = some (.int .u32 (iv (kl.getD i 0#32))) := by
  rw [cell_of_row _ _ _ _ _ _ h.kb, wcells_at _ _ (by rw [kl_length]; exact hi)]
theorem BlkRel.free {w wr : World} {gb gk gr gw : Nat} {s : St} {l : List W} (h : BlkRel w wr gb gk gr gw s l) (i : Nat) : wr.frozen? ⟨gw, i, none⟩ = false := frozen_of_row _ _ _ _ _ h.row
theorem BlkRel.drewN {w wr : World} {gb gk gr gw : Nat} {s : St} {l : List W} (h : BlkRel w wr gb gk gr gw s l) (n : Nat) : BlkRel w (wr.drewN n) gb gk gr gw s l := ⟨Below.drewN h.below n, h.hb, h.kb, h.res, h.row, h.len⟩
theorem BlkRel.drew {w wr : World} {gb gk gr gw : Nat} {s : St} {l : List W} (h : BlkRel w wr gb gk gr gw s l) : BlkRel w wr.drew gb gk gr gw s l := h.drewN 1
theorem BlkRel.step {w wr : World} {gb gk gr gw : Nat} {s : St} {l : List W} (h : BlkRel w wr gb gk gr gw s l) (hd : w.heap.size ≤ gw ∧ gb ≠ gw ∧ gk ≠ gw ∧ gr ≠ gw) (i : Nat) (x : W) : BlkRel w (wr.setCell ⟨gw, i, none⟩ (.int .u32 (iv x))) gb gk gr gw s (l.set i x) :=
  ⟨h.below.setCell hd.1 _, (heap_setCell_other _ _ _ _ hd.2.1).trans h.hb, (heap_setCell_other _ _ _ _ hd.2.2.1).trans h.kb, (heap_setCell_other _ _ _ _ hd.2.2.2).trans h.res,
   (heap_setCell_same _ _ _ _ _ _ h.row).trans (by rw [wcells_set]), by simp [h.len]⟩
theorem blk_start (w : World) (A B C D : Obj) : Below w.heap.size w ((((w.alloc A).alloc B).alloc C).alloc D) ∧ ((((w.alloc A).alloc B).alloc C).alloc D).heap[w.heap.size]? = some A ∧ ((((w.alloc A).alloc B).alloc C).alloc D).heap[w.heap.size + 1]? = some B ∧
    ((((w.alloc A).alloc B).alloc C).alloc D).heap[w.heap.size + 1 + 1]? = some C ∧ ((((w.alloc A).alloc B).alloc C).alloc D).heap[w.heap.size + 1 + 1 + 1]? = some D := by
  have e1 : (w.alloc A).heap.size = w.heap.size + 1 := by simp
  have e2 : ((w.alloc A).alloc B).heap.size = w.heap.size + 1 + 1 := by simp
  have e3 : (((w.alloc A).alloc B).alloc C).heap.size = w.heap.size + 1 + 1 + 1 := by simp
  refine ⟨((((Below.refl _ _).alloc (Nat.le_refl _) _).alloc (by omega) _).alloc (by omega) _).alloc (by omega) _, ?_, ?_, ?_, ?_⟩
  · rw [Below.heap_alloc _ _ _ (by omega), Below.heap_alloc _ _ _ (by omega), Below.heap_alloc _ _ _ (by omega)]; exact heap_alloc_new _ _
  · rw [Below.heap_alloc _ _ _ (by omega), Below.heap_alloc _ _ _ (by omega), ← e1]; exact heap_alloc_new _ _
  · rw [Below.heap_alloc _ _ _ (by omega), ← e2]; exact heap_alloc_new _ _
  · rw [← e3]; exact heap_alloc_new _ _
theorem ref_word (a b c d : UInt8) (E : Int) (h : E = bi a * 16777216 + bi b * 65536 + bi c * 256 + bi d) : Value.int .u32 E = .int .u32 (iv (word4 a b c d)) := by rw [iv_word4, h]
theorem keep2 {wr : World} {gw a b : Nat} {va vb : Value} (ha : wr.cell? ⟨gw, a, none⟩ = some va) (hb : wr.cell? ⟨gw, b, none⟩ = some vb) (k n : Nat) (v : Value) (na : ¬ a = k) (nb : ¬ b = k) :
    ((wr.drewN n).setCell ⟨gw, k, none⟩ v).cell? ⟨gw, a, none⟩ = some va ∧ ((wr.drewN n).setCell ⟨gw, k, none⟩ v).cell? ⟨gw, b, none⟩ = some vb := by
  have e : ∀ c, ¬ c = k → ((wr.drewN n).setCell ⟨gw, k, none⟩ v).cell? ⟨gw, c, none⟩ = wr.cell? ⟨gw, c, none⟩ := fun c hc => by
    have hne : (⟨gw, k, none⟩ : Addr) ≠ ⟨gw, c, none⟩ := by
      intro h
      have := congrArg Addr.off h
      exact hc this.symm
    exact World.cell?_setCell_other _ _ _ _ hne
  exact ⟨(e a na).trans ha, (e b nb).trans hb⟩
structure IsSched (bs : List UInt8) (l : List W) : Prop where
  eq : sched bs = l
theorem not_mod (a : W) : (4294967295 - iv a) % 4294967296 = iv (~~~a) := by
  rw [not_iv]; have := iv_nonneg (~~~a); have := iv_lt (~~~a); omega
theorem not_wrap (a : W) : IntKind.u32.wrap (4294967295 - iv a) = iv (~~~a) := by rw [IntKind.wrap_u32', not_mod]
attribute [local go_sem] not_mod not_wrap not_iv
theorem iv_mod (a : W) : iv a % 4294967296 = iv a := by have := iv_nonneg a; have := iv_lt a; omega
theorem hcells_one (s : St) : (hcells s).toArray.all (·.oneCell') = true := by simp [hcells, Value.oneCell']
def BlkPost (s : St) (bs : List UInt8) (w : World) (e : Ending) (w' : World) : Prop := e = .returned (.agg (hcells (compress s bs)).toArray) ∧ Below w.heap.size w w'

set_option maxRecDepth 100000 in
set_option maxHeartbeats 3000000 in
theorem block_walk (s : St) (g o cap : Nat) (bs : List UInt8) (w : World) (hb : bs.length = 64) (hB : BytesAt w g o bs) :
    Calls Tryd.prog 30 #[.agg (hcells s).toArray, .slice (some ⟨g, o, none⟩) 64 cap, .agg (wcells kl)] w (BlkPost s bs w) := by
  have hg := hB.lt (by omega)
  have HB := Lib.hid hb
  clear hb
  go_enter Tryd.func30, Tryd.ntmps30
  go_wp2_with fail
  obtain ⟨b0, b1, b2, b3, b4⟩ := blk_start w (.cells (hcells s).toArray 52 (0, 0)) (.cells (wcells kl) 59 (0, 0)) (.cells (hcells z0).toArray 52 (0, 0)) (.cells (wcells (List.replicate 64 0#32)) 59 (0, 0))
  have hr0 : BlkRel w _ w.heap.size (w.heap.size + 1) (w.heap.size + 1 + 1) (w.heap.size + 1 + 1 + 1) s (schedL (blockWord bs) 0) := ⟨b0, b1, b2, b3, b4, schedL_length _ _⟩
  have hdA : Hid (w.heap.size ≤ w.heap.size + 1 + 1 + 1) := Lib.hid (by omega)
  have hdist : Hid (w.heap.size ≠ w.heap.size + 1 + 1 + 1 ∧ w.heap.size + 1 ≠ w.heap.size + 1 + 1 + 1 ∧ w.heap.size + 1 + 1 ≠ w.heap.size + 1 + 1 + 1) := Lib.hid (by omega)
  have hdist2 : Hid (w.heap.size ≤ w.heap.size + 1 + 1) := Lib.hid (by omega)
  clear b0 b1 b2 b3 b4
  generalize hgw : w.heap.size + 1 + 1 + 1 = gw at *
  generalize hgr : w.heap.size + 1 + 1 = gr at *
  generalize hgk : w.heap.size + 1 = gk at *
  obtain ⟨gb, hgb⟩ : ∃ x, x = w.heap.size := ⟨_, rfl⟩
  have HG := Lib.hid hgb
  rw [← hgb] at hr0 hdist
  rw [← hgb]
  clear hgw hgr hgk hgb
  go_loopw [8] (fun i wr => ∃ k : Nat, k ≤ 64 ∧ i = .int .i64 k ∧ BlkRel w wr gb gk gr gw s (schedL (blockWord bs) k)) (fun i _ => 64 - (intOf i).toNat)
  case atStart => exact ⟨0, by omega, rfl, hr0⟩
  case round =>
    clear hr0
    obtain ⟨k, hk, rfl, hr⟩ := hrel
    by_cases hlt : k < 64
    · by_cases h16 : k < 16
      · have hBr := hr.below
        have c0 := hB.below hBr hg (4 * k) (by have := HB.out; omega)
        have c1 := hB.below hBr hg (4 * k + 1) (by have := HB.out; omega)
        have c2 := hB.below hBr hg (4 * k + 2) (by have := HB.out; omega)
        have c3 := hB.below hBr hg (4 * k + 3) (by have := HB.out; omega)
        have f := hr.free k
        have cc := hr.cell k (by omega)
        have ki : (k : Int) < 64 := by omega
        have ki16 : (k : Int) < 16 := by omega
        go_wp2_with fail
        have s0 : IntKind.i64.wrap (4 * (k : Int)) = 4 * (k : Int) := IntWalk.i64_in _ (by omega)
        have s1 : IntKind.i64.wrap (4 * (k : Int) + 1) = 4 * (k : Int) + 1 := IntWalk.i64_in _ (by omega)
        have s2 : IntKind.i64.wrap (4 * (k : Int) + 2) = 4 * (k : Int) + 2 := IntWalk.i64_in _ (by omega)
        have s3 : IntKind.i64.wrap (4 * (k : Int) + 3) = 4 * (k : Int) + 3 := IntWalk.i64_in _ (by omega)
        have t0 : (4 * (k : Int)).toNat = 4 * k := by omega
        have t1 : (4 * (k : Int) + 1).toNat = 4 * k + 1 := by omega
        have t2 : (4 * (k : Int) + 2).toNat = 4 * k + 2 := by omega
        have t3 : (4 * (k : Int) + 3).toNat = 4 * k + 3 := by omega
        obtain ⟨p0, p1, p2, p3, p4, p5, p6, p7⟩ : 0 ≤ 4 * (k : Int) ∧ 4 * (k : Int) < 64 ∧ 0 ≤ 4 * (k : Int) + 1 ∧ 4 * (k : Int) + 1 < 64 ∧ 0 ≤ 4 * (k : Int) + 2 ∧ 4 * (k : Int) + 2 < 64 ∧ 0 ≤ 4 * (k : Int) + 3 ∧ 4 * (k : Int) + 3 < 64 := by omega
        refine wp_still_tail 34 (by kernel_rfl) (by kernel_rfl) ?_
        simp only [List.take_succ_cons, List.take_zero, List.drop_succ_cons, List.drop_zero]
        repeat still_step
        refine wpStill_nil ?_
        clear s0 s1 s2 s3 t0 t1 t2 t3
        go_wp2_with fail
        refine ⟨⟨k + 1, by omega, by go_num, ?_⟩, by simp [intOf]; omega⟩
        have := (hr.step ⟨hdA.out, hdist.out⟩ k (blockWord bs k)).drew
        rw [show schedL (blockWord bs) (k + 1) = (schedL (blockWord bs) k).set k (blockWord bs k) by simp [schedL, schedStep, h16]]
        have e := ref_word (bs.getD (4 * k) 0) (bs.getD (4 * k + 1) 0) (bs.getD (4 * k + 2) 0) (bs.getD (4 * k + 3) 0) _ rfl
        simp only [blockWord, ← e] at this
        have q0 := bi_lt (bs.getD (4 * k) 0)
        have q1 := bi_lt (bs.getD (4 * k + 1) 0)
        have q2 := bi_lt (bs.getD (4 * k + 2) 0)
        have q3 := bi_lt (bs.getD (4 * k + 3) 0)
        have r0 := bi_nonneg (bs.getD (4 * k) 0)
        have r1 := bi_nonneg (bs.getD (4 * k + 1) 0)
        have r2 := bi_nonneg (bs.getD (4 * k + 2) 0)
        have r3 := bi_nonneg (bs.getD (4 * k + 3) 0)
        simp only [← List.getD_eq_getElem?_getD]
        rw [show (bi (bs.getD (4 * k) 0) % 4294967296 * 16777216 + bi (bs.getD (4 * k + 1) 0) % 4294967296 * 65536 + bi (bs.getD (4 * k + 2) 0) % 4294967296 * 256 + bi (bs.getD (4 * k + 3) 0)) % 4294967296 = bi (bs.getD (4 * k) 0) * 16777216 + bi (bs.getD (4 * k + 1) 0) * 65536 + bi (bs.getD (4 * k + 2) 0) * 256 + bi (bs.getD (4 * k + 3) 0) by omega]
        exact this
      · obtain ⟨l, hl⟩ : ∃ l, l = schedL (blockWord bs) k := ⟨_, rfl⟩
        rw [← hl] at hr
        have HL := Lib.hid hl
        clear hl
        have f := hr.free k
        have cc := hr.cell k (by omega)
        have c2 := hr.cell (k - 2) (by omega)
        obtain ⟨x2, hx2⟩ : ∃ x, x = l.getD (k - 2) 0#32 := ⟨_, rfl⟩
        rw [← hx2] at c2
        have HX2 := Lib.hid hx2
        clear hx2
        have c7 := hr.cell (k - 7) (by omega)
        obtain ⟨x7, hx7⟩ : ∃ x, x = l.getD (k - 7) 0#32 := ⟨_, rfl⟩
        rw [← hx7] at c7
        have HX7 := Lib.hid hx7
        clear hx7
        have c15 := hr.cell (k - 15) (by omega)
        obtain ⟨x15, hx15⟩ : ∃ x, x = l.getD (k - 15) 0#32 := ⟨_, rfl⟩
        rw [← hx15] at c15
        have HX15 := Lib.hid hx15
        clear hx15
        have c16 := hr.cell (k - 16) (by omega)
        obtain ⟨x16, hx16⟩ : ∃ x, x = l.getD (k - 16) 0#32 := ⟨_, rfl⟩
        rw [← hx16] at c16
        have HX16 := Lib.hid hx16
        clear hx16
        have ki : (k : Int) < 64 := by omega
        have ki16 : (16 : Int) ≤ (k : Int) := by omega
        go_wp2_with fail
        have s7 : IntKind.i64.wrap ((k : Int) - 7) = (k : Int) - 7 := IntWalk.i64_in _ (by omega)
        have s16 : IntKind.i64.wrap ((k : Int) - 16) = (k : Int) - 16 := IntWalk.i64_in _ (by omega)
        have t7 : ((k : Int) - 7).toNat = k - 7 := by omega
        have t16 : ((k : Int) - 16).toNat = k - 16 := by omega
        obtain ⟨a7, b7, d7⟩ : 0 ≤ (k : Int) - 7 ∧ (k : Int) - 7 < 64 ∧ (7 : Int) ≤ (k : Int) := by omega
        obtain ⟨a16, b16, d16⟩ : 0 ≤ (k : Int) - 16 ∧ (k : Int) - 16 < 64 ∧ (16 : Int) ≤ (k : Int) := by omega
        obtain ⟨n7, m7, n16, m16⟩ : ¬ k - 7 = k ∧ ¬ k = k - 7 ∧ ¬ k - 16 = k ∧ ¬ k = k - 16 := by omega
        go_region_held3 (fun w' => w'.cell? ⟨gw, k - 7, none⟩ = some (.int .u32 (iv x7)) ∧ w'.cell? ⟨gw, k - 16, none⟩ = some (.int .u32 (iv x16))) (first | exact keep2 c7 c16 k _ _ n7 n16 | go_keep) (first | (go_at_call 50; refine (rturned _ _ _ (by decide) (by decide)).mono ?_; rintro e w' ⟨rfl, n, rfl⟩) | fail)
        clear s7 s16 t7 t16
        go_wp2_with fail
        refine ⟨⟨k + 1, by omega, by go_num, ?_⟩, by simp [intOf]; omega⟩
        rw [sS1_eq, sS0_eq, add_iv, add_iv, add_iv]
        rw [show schedL (blockWord bs) (k + 1) = l.set k (sS1 x2 + x7 + sS0 x15 + x16) by simp only [schedL, schedStep]; rw [if_neg h16, ← HL.out, HX2.out, HX7.out, HX15.out, HX16.out]]
        exact (hr.drewN _).step ⟨hdA.out, hdist.out⟩ k _
    · have ki : (64 : Int) ≤ (k : Int) := by omega
      obtain ⟨l, hl⟩ : ∃ l, l = schedL (blockWord bs) k := ⟨_, rfl⟩
      rw [← hl] at hr
      have HL : IsSched bs l := ⟨by rw [hl, sched, show k = 64 by omega]⟩
      clear hl
      have hrow : ∀ i v, (hcells s)[i]? = some v → wr.cell? ⟨gb, i, none⟩ = some v := fun i v hi => by rw [cell_of_row _ _ _ _ _ _ hr.hb]; simpa using hi
      have ca := hrow 0 _ rfl
      have cb := hrow 1 _ rfl
      have cc := hrow 2 _ rfl
      have cd := hrow 3 _ rfl
      have ce := hrow 4 _ rfl
      have cf := hrow 5 _ rfl
      have cg := hrow 6 _ rfl
      have ch := hrow 7 _ rfl
      clear hrow
      have hdk : decide ((k : Int) < 64) = false := by simp; omega
      go_wp2_with fail
      go_quiet (fail)
      go_wp2_with fail
      clear ca cb cc cd ce cf cg ch
      obtain ⟨wo, hwo⟩ : ∃ wo : World, wo = wr := ⟨_, rfl⟩
      rw [← hwo] at hr
      rw [← hwo]
      clear hwo
      go_loopw [11, 12, 13, 14, 15, 16, 17, 18, 19] (fun va vb vc vd ve vf vg vh i wr => ∃ m : Nat, m ≤ 64 ∧ i = .int .i64 m ∧ va = .int .u32 (iv (rnds kl l s m).a) ∧ vb = .int .u32 (iv (rnds kl l s m).b) ∧ vc = .int .u32 (iv (rnds kl l s m).c) ∧ vd = .int .u32 (iv (rnds kl l s m).d) ∧ ve = .int .u32 (iv (rnds kl l s m).e) ∧ vf = .int .u32 (iv (rnds kl l s m).f) ∧ vg = .int .u32 (iv (rnds kl l s m).g) ∧ vh = .int .u32 (iv (rnds kl l s m).h) ∧ Drawn wo wr) (fun _ _ _ _ _ _ _ _ i _ => 64 - (intOf i).toNat)
      case atStart => exact ⟨0, by omega, rfl, rfl, rfl, rfl, rfl, rfl, rfl, rfl, rfl, (Drawn.refl _).drewN _⟩
      case round =>
        obtain ⟨m, hm, rfl, rfl, rfl, rfl, rfl, rfl, rfl, rfl, rfl, hd⟩ := hrel
        by_cases hmt : m < 64
        · have hw := hr.cell m hmt
          have hkk := hr.kcell m hmt
          rw [← hd.cell] at hw hkk
          have HE : Hid (rnds kl l s (m + 1) = rnd (rnds kl l s m) (kl.getD m 0#32) (l.getD m 0#32)) := Lib.hid rfl
          generalize rnds kl l s m = q at *
          obtain ⟨xk, hxk⟩ : ∃ x, x = kl.getD m 0#32 := ⟨_, rfl⟩
          obtain ⟨xw, hxw⟩ : ∃ x, x = l.getD m 0#32 := ⟨_, rfl⟩
          rw [← hxk] at hkk HE
          rw [← hxw] at hw HE
          clear hxk hxw
          have mi : (m : Int) < 64 := by omega
          go_wp2_with fail
          go_region_held3 (fun w' => w'.cell? ⟨gk, m, none⟩ = some (.int .u32 (iv xk)) ∧ w'.cell? ⟨gw, m, none⟩ = some (.int .u32 (iv xw))) (go_keep) (first | (go_at_call 50; refine (rturned _ _ _ (by decide) (by decide)).mono ?_; rintro e w' ⟨rfl, n, rfl⟩) | fail)
          go_wp2_with (first | (go_at_call 50; refine (rturned _ _ _ (by decide) (by decide)).mono ?_; rintro e w' ⟨rfl, n, rfl⟩) | fail)
          refine ⟨⟨m + 1, by omega, by go_num, ?_⟩, by simp [intOf]; omega⟩
          simp only [iv_mod, u32_and_iv, u32_or_iv, add_iv, ch_eq, maj_eq]
          rw [HE.out]
          exact ⟨rfl, rfl, rfl, rfl, rfl, rfl, rfl, rfl, hd.drewN _⟩
        · have mi : (64 : Int) ≤ (m : Int) := by omega
          have HE : Hid (compress s bs = s.plus (rnds kl l s m)) := Lib.hid (by rw [compress, HL.eq, show m = 64 by omega])
          generalize rnds kl l s m = q at *
          have hr2 : BlkRel w wr gb gk gr gw s l := by obtain ⟨n, rfl⟩ := hd; exact hr.drewN n
          have hrow : ∀ i v, (hcells s)[i]? = some v → wr.cell? ⟨gb, i, none⟩ = some v := fun i v hi => by rw [cell_of_row _ _ _ _ _ _ hr2.hb]; simpa using hi
          have ca := hrow 0 _ rfl
          have cb := hrow 1 _ rfl
          have cc := hrow 2 _ rfl
          have cd := hrow 3 _ rfl
          have ce := hrow 4 _ rfl
          have cf := hrow 5 _ rfl
          have cg := hrow 6 _ rfl
          have ch := hrow 7 _ rfl
          clear hrow
          have HI : Hid ((Tryd.prog.info? 52).map (·.size) = some (hcells (s.plus q)).toArray.size) := Lib.hid size52
          have HZ := Lib.hid hr2.res
          have hbel := hr2.below
          clear hr hr2 hd HL
          go_wp2_with (first | (refine wpList_store_rowX rfl 52 _ _ rfl gr (hcells (s.plus q)).toArray rfl rfl 52 (hcells z0).toArray HZ.out HI.out rfl (hcells_one _) ?_; intro w3 hrow3 ho3 hs3) | fail)
          refine bodyPost_ret (v := .agg (hcells (s.plus q)).toArray) ?_ rfl ⟨by rw [HE.out], hbel.trans (Below.of_only ho3 hdist2.out hbel.size)⟩
          exact results_cell_row (p := 6) (ty := 52) rfl _ _ gr 52 _ (0, 0) _ rfl hrow3 Tryd.underlying52 rfl HI.out
end Go.Proofs.YtdkajbhhmgmohaaDoor
