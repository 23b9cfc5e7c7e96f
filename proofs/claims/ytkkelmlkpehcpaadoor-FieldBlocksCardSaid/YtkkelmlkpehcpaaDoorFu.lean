/-
  The law of sealed blocks.
-/
import Derived.Test.YtkkelmlkpehcpaaDoorFy
namespace Go.Proofs.YtkkelmlkpehcpaaDoor
open Go.RowKit

theorem place_magic (w : World) (g : Nat) (l : List UInt8) (h : BlkAt w g l) (v : Value) (vs : List UInt8) (hv : SlV w v (bl vs)) (hlen : vs.length = 6) :
    Calls Tryd.prog 29 #[.pointer (some ⟨g, 0, none⟩), .string ⟨#[109, 97, 103, 105, 99]⟩, v] w fun e w' => e = .returned (.int .i64 0) ∧ BlkAt w' g (setF l 257 vs) ∧ OnlyS (· = g) w w' := by
  refine (set_walk w g l h ⟨#[109, 97, 103, 105, 99]⟩ (by decide) v vs hv (by unfold maxLen; omega)).mono fun e w' hp => ?_
  unfold SetPost at hp
  rw [show (⟨#[109, 97, 103, 105, 99]⟩ : ByteArray).data.toList = [109, 97, 103, 105, 99] from rfl, place_mag] at hp
  exact (if_pos hlen).mp hp
theorem set_ustar (w : World) (b g : Nat) (l : List UInt8) (h : BlkAt w g l) (hb : w.heap.size = b) :
    Calls Tryd.prog 29 #[.pointer (some ⟨g, 0, none⟩), .string ⟨#[109, 97, 103, 105, 99]⟩, .slice (some ⟨b, 0, none⟩) 6 6] (w.alloc (.cells #[.int .u8 117, .int .u8 115, .int .u8 116, .int .u8 97, .int .u8 114, .int .u8 0] 5 (6, 7)))
      fun e w' => e = .returned (.int .i64 0) ∧ BlkAt w' g (setF l 257 ustar) ∧ OnlyS (· = g) w w' := by
  subst hb
  have hs := slv_marked w (bl ustar) 5 (6, 7)
  refine (place_magic _ g l (h.below ((Below.refl w.heap.size w).alloc (Nat.le_refl _) _) h.lt) _ ustar hs rfl).mono fun e w' ⟨h1, h2, h3⟩ => ⟨h1, h2, (OnlyS.alloc w _).trans h3⟩
theorem BlkAt.cellAt {w : World} {g : Nat} {l : List UInt8} (h : BlkAt w g l) (k : Nat) (hk : k < 512) : ∃ v, w.cell? ⟨g, k, none⟩ = some v := by
  rw [cell_of_row _ _ _ _ _ _ h.row]
  exact ⟨_, by simp [bl, h.len, hk]; rfl⟩
theorem BlkAt.byteAt {w : World} {g : Nat} {l : List UInt8} (h : BlkAt w g l) (k : Nat) (hk : k < 512) : w.cell? ⟨g, k, none⟩ = some (.int .u8 (bi (l.getD k 0))) := by
  rw [cell_of_row _ _ _ _ _ _ h.row]
  simp [bl, h.len, hk]
theorem BlkAt.free {w : World} {g : Nat} {l : List UInt8} (h : BlkAt w g l) (k : Nat) : w.frozen? ⟨g, k, none⟩ = false := frozen_of_row _ _ _ _ _ h.row
theorem BlkAt.put {w : World} {g : Nat} {l : List UInt8} (h : BlkAt w g l) (k : Nat) (c : UInt8) : BlkAt (w.setCell ⟨g, k, none⟩ (.int .u8 (bi c))) g (l.set k c) :=
  ⟨by simp [h.len], by rw [heap_setCell_same _ _ _ _ _ _ h.row]; simp [bl, List.map_set]⟩
theorem sealF_magic (l : List UInt8) (hl : l.length = 512) (hm : magicB l = true) : magicB (sealF l) = true := by
  unfold magicB at hm ⊢
  unfold sealF
  rw [fpart_other l 148 257 6 (chkL (sumF l)) (by rw [chkL_length]; omega) (by rw [chkL_length]; omega)]; exact hm
/-- What may come of a byte that is set. -/
def OtherCase (l : List UInt8) (k : Nat) (c : UInt8) : Prop :=
  (c = l.getD k 0 ∧ k < 148 ∧ checkF (l.set k c) = 0) ∨ (c = l.getD k 0 ∧ 148 ≤ k ∧ checkF (l.set k c) = 0) ∨ (c ≠ l.getD k 0 ∧ k < 148 ∧ checkF (l.set k c) = 21) ∨ (c ≠ l.getD k 0 ∧ 156 ≤ k ∧ checkF (l.set k c) = 21) ∨
    (c ≠ l.getD k 0 ∧ 257 ≤ k ∧ k ≤ 262 ∧ checkF (l.set k c) = 5) ∨ (c ≠ l.getD k 0 ∧ 148 ≤ k ∧ k < 156)
theorem other_case (l : List UInt8) (hl : l.length = 512) (hm : magicB l = true) (k : Nat) (hk : k < 512) (c : UInt8) : OtherCase (sealF l) k c := by
  have hsl := sealF_length l hl
  unfold OtherCase
  by_cases hc : c = (sealF l).getD k 0
  · have e : (sealF l).set k c = sealF l := by
      rw [hc]
      apply List.ext_getElem?
      intro i
      rw [List.getElem?_set]
      split
      · rename_i h; subst h; simp [hsl, hk]
      · rfl
    have h0 : checkF ((sealF l).set k c) = 0 := by rw [e]; exact check_sealed l hl hm
    by_cases h : k < 148
    · exact .inl ⟨hc, h, h0⟩
    · exact .inr (.inl ⟨hc, by omega, h0⟩)
  · by_cases hin : 148 ≤ k ∧ k < 156
    · exact .inr (.inr (.inr (.inr (.inr ⟨hc, hin⟩))))
    · rcases check_other l hl hm k hk c hc (by omega) with h | ⟨h, h1, h2⟩
      · by_cases h3 : k < 148
        · exact .inr (.inr (.inl ⟨hc, h3, h⟩))
        · exact .inr (.inr (.inr (.inl ⟨hc, by omega, h⟩)))
      · exact .inr (.inr (.inr (.inr (.inl ⟨hc, h1, h2, h⟩))))
theorem OnlyS.tz {S : Nat → Prop} {w w' : World} (h : TzAt w) (ho : OnlyS S w w') (hS : ¬ S 3) : TzAt w' := ho.cell h hS
theorem TzAt.lt {w : World} (h : TzAt w) : 3 < w.heap.size := block_lt_of_cell h
/-- A block that is laid anew. -/
theorem BlkAt.new (w : World) (l : List UInt8) (hl : l.length = 512) : BlkAt ((w.alloc (.cells Tryd.zeroCells40 40)).setRow w.heap.size (bl l).toArray) w.heap.size l :=
  ⟨hl, setRow_heap _ _ _ _ _ _ (heap_alloc_new _ _)⟩
theorem new_below (w : World) (l : List UInt8) : Below w.heap.size w ((w.alloc (.cells Tryd.zeroCells40 40)).setRow w.heap.size (bl l).toArray) :=
  below_setRow ((Below.refl _ _).alloc (Nat.le_refl _) _) (Nat.le_refl _) _
theorem bl_size39 (l : List UInt8) (hl : l.length = 512) : (Tryd.prog.info? 39).map (·.size) = some (bl l).toArray.size := by
  rw [List.size_toArray, bl_length, hl]; kernel_rfl
theorem zsize (l : List UInt8) (hl : l.length = 512) : Tryd.zeroCells40.size = (bl l).toArray.size := by
  rw [zero512, List.size_toArray, List.size_toArray, bl_length, bl_length, hl, List.length_replicate]
theorem new_heap (w : World) : (w.alloc (.cells Tryd.zeroCells40 40)).heap[w.heap.size]? = some (.cells Tryd.zeroCells40 40 (0, 0)) := heap_alloc_new _ _
set_option maxRecDepth 100000 in
set_option maxHeartbeats 2000000 in
theorem sealed_walk (w : World) (b : List UInt8) (hb : b.length = 512) (at' : Nat) (ha : at' < 65536) (c : UInt8) (ht : TzAt w) :
    Calls Tryd.prog 7 #[.agg (bl b).toArray, .int .u16 (at' : Int), .int .u8 (bi c)] w (WakesPost w) := by
  have HT := Lib.hid ht
  have HB := Lib.hid hb
  have HI0 := Lib.hid (bl_size39 b hb)
  have HI1 := Lib.hid (bl_size b hb)
  have HZ := Lib.hid (zsize b hb)
  have H1 := Lib.hid (bl_all b)
  have HX0 : Hid ((w.alloc (.cells (bl b).toArray 39)).heap[w.heap.size]? = some (.cells (bl b).toArray 39 (0, 0))) := Lib.hid (heap_alloc_new _ _)
  have HX1 : Hid (((w.alloc (.cells (bl b).toArray 39)).alloc (.cells Tryd.zeroCells40 40)).heap[w.heap.size + 1]? = some (.cells Tryd.zeroCells40 40 (0, 0))) := Lib.hid (heap_alloc2_new _ _ _)
  have kc := conv_const
  have hgd := guard512
  obtain ⟨WX, hWX⟩ : ∃ WX, ((w.alloc (.cells (bl b).toArray 39)).alloc (.cells Tryd.zeroCells40 40)).setRow (w.heap.size + 1) (bl b).toArray = WX := ⟨_, rfl⟩
  have HWX : Hid (((w.alloc (.cells (bl b).toArray 39)).alloc (.cells Tryd.zeroCells40 40)).setRow (w.heap.size + 1) (bl b).toArray = WX) := Lib.hid hWX
  have HBX : Hid (BlkAt WX (w.heap.size + 1) b) := Lib.hid (by rw [← hWX]; exact ⟨hb, setRow_heap _ _ _ _ _ _ HX1.out⟩)
  have HSX : Hid (WX.heap.size = w.heap.size + 1 + 1) := Lib.hid (by rw [← hWX]; simp)
  have BX : Hid (Below w.heap.size w WX) := Lib.hid (by rw [← hWX]; exact below_setRow (((Below.refl _ _).alloc (Nat.le_refl _) _).alloc (by simp) _) (Nat.le_succ _) _)
  obtain ⟨l0, hl0⟩ : ∃ l0, setF b 257 ustar = l0 := ⟨_, rfl⟩
  obtain ⟨l1, hl1⟩ : ∃ l1, sealF l0 = l1 := ⟨_, rfl⟩
  have n0 : l0.length = 512 := by rw [← hl0, setF_length _ _ _ (by rw [hb]; decide)]; exact hb
  have n1 : l1.length = 512 := by rw [← hl1]; exact sealF_length l0 n0
  have m0 : magicB l0 = true := by rw [← hl0]; exact magic_set b hb
  have HSS : Hid (sealF l1 = l1) := Lib.hid (by rw [← hl1]; exact sealF_twice l0 n0)
  have HCK : Hid (checkF l1 = 0) := Lib.hid (by rw [← hl1]; exact check_sealed l0 n0 m0)
  have HEQ := same512 l1 l1 n1 n1
  have ebb : (l1 == l1) = true := by simp
  rw [ebb] at HEQ
  have hcase : OtherCase l1 (at' % 512) c := by rw [← hl1]; exact other_case l0 n0 m0 _ (Nat.mod_lt _ (by decide)) c
  have HCASE := Lib.hid hcase
  clear hcase
  have HL0 := Lib.hid hl0
  have HL1 := Lib.hid hl1
  have HN1 := Lib.hid n1
  have HM1 : Hid (magicB l1 = true) := Lib.hid (by rw [← hl1]; exact sealF_magic l0 n0 m0)
  have HM0 := Lib.hid (And.intro n0 m0)
  have J1 := Lib.hid (bl_size l1 n1)
  have J2 := Lib.hid (zsize l1 n1)
  have J3 := Lib.hid (bl_all l1)
  clear ht hb hWX hl0 hl1 n0 n1 m0 ebb
  go_enter Tryd.func7, Tryd.ntmps7
  go_wp2_with (first
    | (refine wpList_load_row rfl 39 _ rfl w.heap.size rfl 39 (bl b).toArray (0, 0) _ HX0.out Tryd.underlying39 rfl HI0.out ?_)
    | (refine wpList_store_row rfl 40 _ _ rfl (w.heap.size + 1) (bl b).toArray rfl rfl 40 _ HX1.out HI1.out HZ.out H1.out ?_; rw [HWX.out])
    | ((with_reducible refine (set_ustar WX _ _ b HBX.out rfl).mono ?_); rintro e w1 ⟨rfl, hb1, ho1⟩; have G1 : Hid (BlkAt w1 (w.heap.size + 1) l0) := Lib.hid (by rw [← HL0.out]; exact hb1); have B1 : Hid (Below w.heap.size w w1) := Lib.hid (BX.out.trans (ho1.below BX.out.size (fun k hk => by rw [hk]; exact Nat.le_succ _))); clear hb1 ho1)
    | ((with_reducible refine (seal_walk w1 (w.heap.size + 1) l0 G1.out (HT.out.below B1.out (Nat.le_refl _))).mono ?_); rintro e w2 ⟨rfl, hb2, ho2⟩; have G2 : Hid (BlkAt w2 (w.heap.size + 1) l1) := Lib.hid (by rw [← HL1.out]; exact hb2); have B2 : Hid (Below w.heap.size w w2) := Lib.hid (B1.out.trans (ho2.below B1.out.size (fun k hk => by rw [hk]; exact Nat.le_succ _))); clear hb2 ho2)
    | (refine wpList_load_row rfl 40 _ rfl (w.heap.size + 1) rfl 40 (bl l1).toArray (0, 0) _ G2.out.row Tryd.underlying40 rfl J1.out ?_)
    | (refine wpList_store_row rfl 40 _ _ rfl w2.heap.size (bl l1).toArray rfl rfl 40 _ (new_heap w2) J1.out J2.out J3.out ?_; obtain ⟨WY, hWY⟩ : ∃ x, ((w2.alloc (.cells Tryd.zeroCells40 40)).setRow w2.heap.size (bl l1).toArray) = x := ⟨_, rfl⟩; rw [hWY]; have NWY : Hid (BlkAt WY w2.heap.size l1) := Lib.hid (by rw [← hWY]; exact BlkAt.new w2 l1 HN1.out); have MWY : Hid (Below w2.heap.size w2 WY) := Lib.hid (by rw [← hWY]; exact new_below w2 l1); have ZWY : Hid (WY.heap.size = w2.heap.size + 1) := Lib.hid (by rw [← hWY]; simp); clear hWY; have GY : Hid (BlkAt WY (w.heap.size + 1) l1) := Lib.hid (G2.out.below MWY.out G2.out.lt); have BY : Hid (Below w.heap.size w WY) := Lib.hid (B2.out.trans (MWY.out.mono B2.out.size)))
    | ((with_reducible refine (seal_walk WY (w.heap.size + 1) l1 GY.out (HT.out.below BY.out (Nat.le_refl _))).mono ?_); rintro e w3 ⟨rfl, hb3, ho3⟩; have G3 : Hid (BlkAt w3 (w.heap.size + 1) l1) := Lib.hid (by rw [HSS.out] at hb3; exact hb3); have K3 : Hid (BlkAt w3 w2.heap.size l1) := Lib.hid (NWY.out.only ho3 (by have := G2.out.lt; omega)); have B3 : Hid (Below w.heap.size w w3) := Lib.hid (BY.out.trans (ho3.below BY.out.size (fun k hk => by rw [hk]; exact Nat.le_succ _))); clear hb3 ho3)
    | (refine wpList_load_row rfl 40 _ rfl (w.heap.size + 1) rfl 40 (bl l1).toArray (0, 0) _ G3.out.row Tryd.underlying40 rfl J1.out ?_)
    | (refine wpList_load_row rfl 40 _ rfl w2.heap.size rfl 40 (bl l1).toArray (0, 0) _ K3.out.row Tryd.underlying40 rfl J1.out ?_))
  refine (check_walk w3 (w.heap.size + 1) l1 G3.out).mono ?_
  rintro e w4 ⟨he4, hb4⟩
  rw [HCK.out] at he4
  subst he4
  have G4 : Hid (BlkAt w4 (w.heap.size + 1) l1) := Lib.hid (G3.out.below hb4 G3.out.lt)
  have B4 : Hid (Below w.heap.size w w4) := Lib.hid (B3.out.trans (hb4.mono B3.out.size))
  clear hb4 HSS HCK
  obtain ⟨y, hy⟩ : ∃ y, l1.getD (at' % 512) 0 = y := ⟨_, rfl⟩
  have HY := Lib.hid hy
  have hcase := HCASE.out
  unfold OtherCase at hcase
  rw [hy] at hcase
  obtain ⟨E, hE⟩ : ∃ E, checkF (l1.set (at' % 512) c) = E := ⟨_, rfl⟩
  have HE := Lib.hid hE
  rw [hE] at hcase
  clear HCASE hE hy
  have kk : ((at' % 512 : Nat) : Int) = (at' : Int) % 512 := by omega
  have bne : c ≠ y → bi c ≠ bi y := fun h1 h2 => h1 (bi_inj.1 h2)
  have HOC : Hid (∀ w, TzAt w → Calls Tryd.prog 10 #[.int .i64 ((sumF l1 : Int) + 1), .int .i64 7] w (MadePost (Fx.pad 6 (sumF l1 + 1) ++ [0]) 0 w)) := Lib.hid (fun w h => by have := oct7 w (sumF l1 + 1) (by have := sumF_le l1 HN1.out; omega) h; rwa [Int.natCast_add] at this)
  have HC3 : Hid (checkF (setF l1 148 (chkL (sumF l1 + 1))) = 21) := Lib.hid (by
    rw [check_laid l1 HN1.out _ (by have := sumF_le l1 HN1.out; omega) HM1.out, if_neg (by omega)])
  have hsum : (sumF l1 : Int) ≤ 130560 := by have := sumF_le l1 HN1.out; omega
  rcases hcase with ⟨rfl, h1, rfl⟩ | ⟨rfl, h1, rfl⟩ | ⟨hc, h1, rfl⟩ | ⟨hc, h1, rfl⟩ | ⟨hc, h1, h2, rfl⟩ | ⟨hc, h1, h2⟩
  · have d1 : decide (148 ≤ (at' : Int) % 512) = false := decide_eq_false (by omega)
    have I1 : (at' : Int) % 512 < 148 := by omega
    have t1 : (bi c == bi c) = true := by simp
    clear h1 bne kk
    go_wp2_with (first
    | (refine wpList_load_row rfl 40 _ rfl (w.heap.size + 1) rfl 40 (bl l1).toArray (0, 0) _ G4.out.row Tryd.underlying40 rfl J1.out ?_)
    | (refine wpList_store_row rfl 40 _ _ rfl w4.heap.size (bl l1).toArray rfl rfl 40 _ (new_heap w4) J1.out J2.out J3.out ?_; obtain ⟨WZ, hWZ⟩ : ∃ x, ((w4.alloc (.cells Tryd.zeroCells40 40)).setRow w4.heap.size (bl l1).toArray) = x := ⟨_, rfl⟩; rw [hWZ]; have NWZ : Hid (BlkAt WZ w4.heap.size l1) := Lib.hid (by rw [← hWZ]; exact BlkAt.new w4 l1 HN1.out); have MWZ : Hid (Below w4.heap.size w4 WZ) := Lib.hid (by rw [← hWZ]; exact new_below w4 l1); have ZWZ : Hid (WZ.heap.size = w4.heap.size + 1) := Lib.hid (by rw [← hWZ]; simp); clear hWZ; have GZ : Hid (BlkAt WZ (w.heap.size + 1) l1) := Lib.hid (G4.out.below MWZ.out G4.out.lt); have BZ : Hid (Below w.heap.size w WZ) := Lib.hid (B4.out.trans (MWZ.out.mono B4.out.size)); obtain ⟨vc, hvc⟩ := NWZ.out.cellAt (at' % 512) (Nat.mod_lt _ (by decide)); have hfz := NWZ.out.free (at' % 512))
      | ((with_reducible refine (check_walk _ w4.heap.size (l1.set (at' % 512) c) (NWZ.out.put _ c)).mono ?_); rintro e w6 ⟨he6, hb6⟩; rw [HE.out] at he6; subst he6; have G6 : Hid (BlkAt w6 (w.heap.size + 1) l1) := Lib.hid ((GZ.out.only (OnlyS.setCell WZ w4.heap.size (at' % 512) (.int .u8 (bi c)) (S := (· = w4.heap.size)) rfl) (by have := G4.out.lt; omega)).below hb6 (by have := GZ.out.lt; simpa using this)); have B6 : Hid (Below w.heap.size w w6) := Lib.hid (BZ.out.trans (((Below.refl w.heap.size WZ).setCell (Nat.le_of_lt (Nat.lt_of_lt_of_le (Nat.lt_succ_self _) (Nat.le_of_lt G4.out.lt))) _).trans (hb6.mono (by have := BZ.out.size; simpa using this)))); clear hb6; have hyk := G6.out.byteAt (at' % 512) (Nat.mod_lt _ (by decide)); rw [HY.out] at hyk)
      | ((with_reducible refine (sum_walk w6 (w.heap.size + 1) l1 G6.out).mono ?_); rintro e w7 ⟨rfl, hb7⟩; have B7 := Lib.hid hb7; clear hb7)
      | ((with_reducible refine (HOC.out w7 (HT.out.below (B6.out.trans (B7.out.mono B6.out.size)) (Nat.le_refl _))).mono ?_); rintro e w8 ⟨v8, rfl, ho8, hb8⟩; have HO := Lib.hid ho8; have B8 := Lib.hid hb8; clear ho8 hb8)
      | (refine wpList_app1 rfl (.tmp 87) (.tmp 88) rfl w7.heap.size v8 (Fx.pad 6 (sumF l1 + 1) ++ [0]) 32 ⟨w8.heap.size, 0, none⟩ 1 rfl rfl (HO.out.below ((Below.refl w8.heap.size w8).alloc (Nat.le_refl _) _) (Nat.le_refl _)) (by rw [add0]; exact cell_of_row _ _ 0 _ _ _ (heap_alloc_new _ _)) (by simp) (by have := B8.out.size; simp; omega) ?_; intro v9 w9 ho9 hb9; have B9 : Hid (Below w7.heap.size w7 w9) := Lib.hid (B8.out.trans ((((Below.refl w8.heap.size w8).alloc (Nat.le_refl _) _).mono B8.out.size).trans hb9)); obtain ⟨p9, c9, rfl, HV9⟩ := chk_shape ho9; clear ho9 hb9; have G9 : Hid (BlkAt w9 (w.heap.size + 1) l1) := Lib.hid ((G6.out.below B7.out G6.out.lt).below B9.out (Nat.lt_of_lt_of_le G6.out.lt B7.out.size)); have B9w : Hid (Below w.heap.size w w9) := Lib.hid ((B6.out.trans (B7.out.mono B6.out.size)).trans (B9.out.mono (Nat.le_trans B6.out.size B7.out.size))))
      | ((with_reducible refine (set_chk w9 (w.heap.size + 1) l1 G9.out _ _ HV9.out (chkL_length _)).mono ?_); rintro e w10 ⟨rfl, hb10, ho10⟩; have G10 := Lib.hid hb10; have B10 : Hid (Below w.heap.size w w10) := Lib.hid (B9w.out.trans (ho10.below B9w.out.size (fun k hk => by rw [hk]; exact Nat.le_succ _))); clear hb10 ho10)
      | ((with_reducible refine (check_walk w10 (w.heap.size + 1) _ G10.out).mono ?_); rintro e w11 ⟨he11, hb11⟩; rw [HC3.out] at he11; subst he11; have B11 : Hid (Below w.heap.size w w11) := Lib.hid (B10.out.trans (hb11.mono B10.out.size)); clear hb11)
      | ((with_reducible refine (wakes_walk w11 (HT.out.below B11.out (Nat.le_refl _))).mono ?_); rintro e w12 ⟨rfl, hb12⟩; have B12 : Hid (Below w.heap.size w w12) := Lib.hid (B11.out.trans (hb12.mono B11.out.size)); clear hb12))
    go_ret
    exact ⟨rfl, B12.out⟩
  · have d1 : decide (148 ≤ (at' : Int) % 512) = true := decide_eq_true (by omega)
    have I1 : 148 ≤ (at' : Int) % 512 := by omega
    have t1 : (bi c == bi c) = true := by simp
    clear h1 bne kk
    go_wp2_with (first
    | (refine wpList_load_row rfl 40 _ rfl (w.heap.size + 1) rfl 40 (bl l1).toArray (0, 0) _ G4.out.row Tryd.underlying40 rfl J1.out ?_)
    | (refine wpList_store_row rfl 40 _ _ rfl w4.heap.size (bl l1).toArray rfl rfl 40 _ (new_heap w4) J1.out J2.out J3.out ?_; obtain ⟨WZ, hWZ⟩ : ∃ x, ((w4.alloc (.cells Tryd.zeroCells40 40)).setRow w4.heap.size (bl l1).toArray) = x := ⟨_, rfl⟩; rw [hWZ]; have NWZ : Hid (BlkAt WZ w4.heap.size l1) := Lib.hid (by rw [← hWZ]; exact BlkAt.new w4 l1 HN1.out); have MWZ : Hid (Below w4.heap.size w4 WZ) := Lib.hid (by rw [← hWZ]; exact new_below w4 l1); have ZWZ : Hid (WZ.heap.size = w4.heap.size + 1) := Lib.hid (by rw [← hWZ]; simp); clear hWZ; have GZ : Hid (BlkAt WZ (w.heap.size + 1) l1) := Lib.hid (G4.out.below MWZ.out G4.out.lt); have BZ : Hid (Below w.heap.size w WZ) := Lib.hid (B4.out.trans (MWZ.out.mono B4.out.size)); obtain ⟨vc, hvc⟩ := NWZ.out.cellAt (at' % 512) (Nat.mod_lt _ (by decide)); have hfz := NWZ.out.free (at' % 512))
      | ((with_reducible refine (check_walk _ w4.heap.size (l1.set (at' % 512) c) (NWZ.out.put _ c)).mono ?_); rintro e w6 ⟨he6, hb6⟩; rw [HE.out] at he6; subst he6; have G6 : Hid (BlkAt w6 (w.heap.size + 1) l1) := Lib.hid ((GZ.out.only (OnlyS.setCell WZ w4.heap.size (at' % 512) (.int .u8 (bi c)) (S := (· = w4.heap.size)) rfl) (by have := G4.out.lt; omega)).below hb6 (by have := GZ.out.lt; simpa using this)); have B6 : Hid (Below w.heap.size w w6) := Lib.hid (BZ.out.trans (((Below.refl w.heap.size WZ).setCell (Nat.le_of_lt (Nat.lt_of_lt_of_le (Nat.lt_succ_self _) (Nat.le_of_lt G4.out.lt))) _).trans (hb6.mono (by have := BZ.out.size; simpa using this)))); clear hb6; have hyk := G6.out.byteAt (at' % 512) (Nat.mod_lt _ (by decide)); rw [HY.out] at hyk)
      | ((with_reducible refine (sum_walk w6 (w.heap.size + 1) l1 G6.out).mono ?_); rintro e w7 ⟨rfl, hb7⟩; have B7 := Lib.hid hb7; clear hb7)
      | ((with_reducible refine (HOC.out w7 (HT.out.below (B6.out.trans (B7.out.mono B6.out.size)) (Nat.le_refl _))).mono ?_); rintro e w8 ⟨v8, rfl, ho8, hb8⟩; have HO := Lib.hid ho8; have B8 := Lib.hid hb8; clear ho8 hb8)
      | (refine wpList_app1 rfl (.tmp 87) (.tmp 88) rfl w7.heap.size v8 (Fx.pad 6 (sumF l1 + 1) ++ [0]) 32 ⟨w8.heap.size, 0, none⟩ 1 rfl rfl (HO.out.below ((Below.refl w8.heap.size w8).alloc (Nat.le_refl _) _) (Nat.le_refl _)) (by rw [add0]; exact cell_of_row _ _ 0 _ _ _ (heap_alloc_new _ _)) (by simp) (by have := B8.out.size; simp; omega) ?_; intro v9 w9 ho9 hb9; have B9 : Hid (Below w7.heap.size w7 w9) := Lib.hid (B8.out.trans ((((Below.refl w8.heap.size w8).alloc (Nat.le_refl _) _).mono B8.out.size).trans hb9)); obtain ⟨p9, c9, rfl, HV9⟩ := chk_shape ho9; clear ho9 hb9; have G9 : Hid (BlkAt w9 (w.heap.size + 1) l1) := Lib.hid ((G6.out.below B7.out G6.out.lt).below B9.out (Nat.lt_of_lt_of_le G6.out.lt B7.out.size)); have B9w : Hid (Below w.heap.size w w9) := Lib.hid ((B6.out.trans (B7.out.mono B6.out.size)).trans (B9.out.mono (Nat.le_trans B6.out.size B7.out.size))))
      | ((with_reducible refine (set_chk w9 (w.heap.size + 1) l1 G9.out _ _ HV9.out (chkL_length _)).mono ?_); rintro e w10 ⟨rfl, hb10, ho10⟩; have G10 := Lib.hid hb10; have B10 : Hid (Below w.heap.size w w10) := Lib.hid (B9w.out.trans (ho10.below B9w.out.size (fun k hk => by rw [hk]; exact Nat.le_succ _))); clear hb10 ho10)
      | ((with_reducible refine (check_walk w10 (w.heap.size + 1) _ G10.out).mono ?_); rintro e w11 ⟨he11, hb11⟩; rw [HC3.out] at he11; subst he11; have B11 : Hid (Below w.heap.size w w11) := Lib.hid (B10.out.trans (hb11.mono B10.out.size)); clear hb11)
      | ((with_reducible refine (wakes_walk w11 (HT.out.below B11.out (Nat.le_refl _))).mono ?_); rintro e w12 ⟨rfl, hb12⟩; have B12 : Hid (Below w.heap.size w w12) := Lib.hid (B11.out.trans (hb12.mono B11.out.size)); clear hb12))
    go_ret
    exact ⟨rfl, B12.out⟩
  · have t1 : (bi c == bi y) = false := by rw [beq_eq_false_iff_ne]; exact bne hc
    have t2 : (bi c != bi y) = true := by rw [bne_iff_ne]; exact bne hc
    have t3 : decide (bi c = bi y) = false := decide_eq_false (bne hc)
    have d1 : decide (148 ≤ (at' : Int) % 512) = false := decide_eq_false (by omega)
    have I1 : (at' : Int) % 512 < 148 := by omega
    clear h1 hc bne kk
    go_wp2_with (first
    | (refine wpList_load_row rfl 40 _ rfl (w.heap.size + 1) rfl 40 (bl l1).toArray (0, 0) _ G4.out.row Tryd.underlying40 rfl J1.out ?_)
    | (refine wpList_store_row rfl 40 _ _ rfl w4.heap.size (bl l1).toArray rfl rfl 40 _ (new_heap w4) J1.out J2.out J3.out ?_; obtain ⟨WZ, hWZ⟩ : ∃ x, ((w4.alloc (.cells Tryd.zeroCells40 40)).setRow w4.heap.size (bl l1).toArray) = x := ⟨_, rfl⟩; rw [hWZ]; have NWZ : Hid (BlkAt WZ w4.heap.size l1) := Lib.hid (by rw [← hWZ]; exact BlkAt.new w4 l1 HN1.out); have MWZ : Hid (Below w4.heap.size w4 WZ) := Lib.hid (by rw [← hWZ]; exact new_below w4 l1); have ZWZ : Hid (WZ.heap.size = w4.heap.size + 1) := Lib.hid (by rw [← hWZ]; simp); clear hWZ; have GZ : Hid (BlkAt WZ (w.heap.size + 1) l1) := Lib.hid (G4.out.below MWZ.out G4.out.lt); have BZ : Hid (Below w.heap.size w WZ) := Lib.hid (B4.out.trans (MWZ.out.mono B4.out.size)); obtain ⟨vc, hvc⟩ := NWZ.out.cellAt (at' % 512) (Nat.mod_lt _ (by decide)); have hfz := NWZ.out.free (at' % 512))
      | ((with_reducible refine (check_walk _ w4.heap.size (l1.set (at' % 512) c) (NWZ.out.put _ c)).mono ?_); rintro e w6 ⟨he6, hb6⟩; rw [HE.out] at he6; subst he6; have G6 : Hid (BlkAt w6 (w.heap.size + 1) l1) := Lib.hid ((GZ.out.only (OnlyS.setCell WZ w4.heap.size (at' % 512) (.int .u8 (bi c)) (S := (· = w4.heap.size)) rfl) (by have := G4.out.lt; omega)).below hb6 (by have := GZ.out.lt; simpa using this)); have B6 : Hid (Below w.heap.size w w6) := Lib.hid (BZ.out.trans (((Below.refl w.heap.size WZ).setCell (Nat.le_of_lt (Nat.lt_of_lt_of_le (Nat.lt_succ_self _) (Nat.le_of_lt G4.out.lt))) _).trans (hb6.mono (by have := BZ.out.size; simpa using this)))); clear hb6; have hyk := G6.out.byteAt (at' % 512) (Nat.mod_lt _ (by decide)); rw [HY.out] at hyk)
      | ((with_reducible refine (sum_walk w6 (w.heap.size + 1) l1 G6.out).mono ?_); rintro e w7 ⟨rfl, hb7⟩; have B7 := Lib.hid hb7; clear hb7)
      | ((with_reducible refine (HOC.out w7 (HT.out.below (B6.out.trans (B7.out.mono B6.out.size)) (Nat.le_refl _))).mono ?_); rintro e w8 ⟨v8, rfl, ho8, hb8⟩; have HO := Lib.hid ho8; have B8 := Lib.hid hb8; clear ho8 hb8)
      | (refine wpList_app1 rfl (.tmp 87) (.tmp 88) rfl w7.heap.size v8 (Fx.pad 6 (sumF l1 + 1) ++ [0]) 32 ⟨w8.heap.size, 0, none⟩ 1 rfl rfl (HO.out.below ((Below.refl w8.heap.size w8).alloc (Nat.le_refl _) _) (Nat.le_refl _)) (by rw [add0]; exact cell_of_row _ _ 0 _ _ _ (heap_alloc_new _ _)) (by simp) (by have := B8.out.size; simp; omega) ?_; intro v9 w9 ho9 hb9; have B9 : Hid (Below w7.heap.size w7 w9) := Lib.hid (B8.out.trans ((((Below.refl w8.heap.size w8).alloc (Nat.le_refl _) _).mono B8.out.size).trans hb9)); obtain ⟨p9, c9, rfl, HV9⟩ := chk_shape ho9; clear ho9 hb9; have G9 : Hid (BlkAt w9 (w.heap.size + 1) l1) := Lib.hid ((G6.out.below B7.out G6.out.lt).below B9.out (Nat.lt_of_lt_of_le G6.out.lt B7.out.size)); have B9w : Hid (Below w.heap.size w w9) := Lib.hid ((B6.out.trans (B7.out.mono B6.out.size)).trans (B9.out.mono (Nat.le_trans B6.out.size B7.out.size))))
      | ((with_reducible refine (set_chk w9 (w.heap.size + 1) l1 G9.out _ _ HV9.out (chkL_length _)).mono ?_); rintro e w10 ⟨rfl, hb10, ho10⟩; have G10 := Lib.hid hb10; have B10 : Hid (Below w.heap.size w w10) := Lib.hid (B9w.out.trans (ho10.below B9w.out.size (fun k hk => by rw [hk]; exact Nat.le_succ _))); clear hb10 ho10)
      | ((with_reducible refine (check_walk w10 (w.heap.size + 1) _ G10.out).mono ?_); rintro e w11 ⟨he11, hb11⟩; rw [HC3.out] at he11; subst he11; have B11 : Hid (Below w.heap.size w w11) := Lib.hid (B10.out.trans (hb11.mono B10.out.size)); clear hb11)
      | ((with_reducible refine (wakes_walk w11 (HT.out.below B11.out (Nat.le_refl _))).mono ?_); rintro e w12 ⟨rfl, hb12⟩; have B12 : Hid (Below w.heap.size w w12) := Lib.hid (B11.out.trans (hb12.mono B11.out.size)); clear hb12))
    go_ret
    exact ⟨rfl, B12.out⟩
  · have t1 : (bi c == bi y) = false := by rw [beq_eq_false_iff_ne]; exact bne hc
    have t2 : (bi c != bi y) = true := by rw [bne_iff_ne]; exact bne hc
    have t3 : decide (bi c = bi y) = false := decide_eq_false (bne hc)
    have d1 : decide (148 ≤ (at' : Int) % 512) = true := decide_eq_true (by omega)
    have d2 : decide ((at' : Int) % 512 < 156) = false := decide_eq_false (by omega)
    have I1 : 156 ≤ (at' : Int) % 512 := by omega
    clear h1 hc bne kk
    go_wp2_with (first
    | (refine wpList_load_row rfl 40 _ rfl (w.heap.size + 1) rfl 40 (bl l1).toArray (0, 0) _ G4.out.row Tryd.underlying40 rfl J1.out ?_)
    | (refine wpList_store_row rfl 40 _ _ rfl w4.heap.size (bl l1).toArray rfl rfl 40 _ (new_heap w4) J1.out J2.out J3.out ?_; obtain ⟨WZ, hWZ⟩ : ∃ x, ((w4.alloc (.cells Tryd.zeroCells40 40)).setRow w4.heap.size (bl l1).toArray) = x := ⟨_, rfl⟩; rw [hWZ]; have NWZ : Hid (BlkAt WZ w4.heap.size l1) := Lib.hid (by rw [← hWZ]; exact BlkAt.new w4 l1 HN1.out); have MWZ : Hid (Below w4.heap.size w4 WZ) := Lib.hid (by rw [← hWZ]; exact new_below w4 l1); have ZWZ : Hid (WZ.heap.size = w4.heap.size + 1) := Lib.hid (by rw [← hWZ]; simp); clear hWZ; have GZ : Hid (BlkAt WZ (w.heap.size + 1) l1) := Lib.hid (G4.out.below MWZ.out G4.out.lt); have BZ : Hid (Below w.heap.size w WZ) := Lib.hid (B4.out.trans (MWZ.out.mono B4.out.size)); obtain ⟨vc, hvc⟩ := NWZ.out.cellAt (at' % 512) (Nat.mod_lt _ (by decide)); have hfz := NWZ.out.free (at' % 512))
      | ((with_reducible refine (check_walk _ w4.heap.size (l1.set (at' % 512) c) (NWZ.out.put _ c)).mono ?_); rintro e w6 ⟨he6, hb6⟩; rw [HE.out] at he6; subst he6; have G6 : Hid (BlkAt w6 (w.heap.size + 1) l1) := Lib.hid ((GZ.out.only (OnlyS.setCell WZ w4.heap.size (at' % 512) (.int .u8 (bi c)) (S := (· = w4.heap.size)) rfl) (by have := G4.out.lt; omega)).below hb6 (by have := GZ.out.lt; simpa using this)); have B6 : Hid (Below w.heap.size w w6) := Lib.hid (BZ.out.trans (((Below.refl w.heap.size WZ).setCell (Nat.le_of_lt (Nat.lt_of_lt_of_le (Nat.lt_succ_self _) (Nat.le_of_lt G4.out.lt))) _).trans (hb6.mono (by have := BZ.out.size; simpa using this)))); clear hb6; have hyk := G6.out.byteAt (at' % 512) (Nat.mod_lt _ (by decide)); rw [HY.out] at hyk)
      | ((with_reducible refine (sum_walk w6 (w.heap.size + 1) l1 G6.out).mono ?_); rintro e w7 ⟨rfl, hb7⟩; have B7 := Lib.hid hb7; clear hb7)
      | ((with_reducible refine (HOC.out w7 (HT.out.below (B6.out.trans (B7.out.mono B6.out.size)) (Nat.le_refl _))).mono ?_); rintro e w8 ⟨v8, rfl, ho8, hb8⟩; have HO := Lib.hid ho8; have B8 := Lib.hid hb8; clear ho8 hb8)
      | (refine wpList_app1 rfl (.tmp 87) (.tmp 88) rfl w7.heap.size v8 (Fx.pad 6 (sumF l1 + 1) ++ [0]) 32 ⟨w8.heap.size, 0, none⟩ 1 rfl rfl (HO.out.below ((Below.refl w8.heap.size w8).alloc (Nat.le_refl _) _) (Nat.le_refl _)) (by rw [add0]; exact cell_of_row _ _ 0 _ _ _ (heap_alloc_new _ _)) (by simp) (by have := B8.out.size; simp; omega) ?_; intro v9 w9 ho9 hb9; have B9 : Hid (Below w7.heap.size w7 w9) := Lib.hid (B8.out.trans ((((Below.refl w8.heap.size w8).alloc (Nat.le_refl _) _).mono B8.out.size).trans hb9)); obtain ⟨p9, c9, rfl, HV9⟩ := chk_shape ho9; clear ho9 hb9; have G9 : Hid (BlkAt w9 (w.heap.size + 1) l1) := Lib.hid ((G6.out.below B7.out G6.out.lt).below B9.out (Nat.lt_of_lt_of_le G6.out.lt B7.out.size)); have B9w : Hid (Below w.heap.size w w9) := Lib.hid ((B6.out.trans (B7.out.mono B6.out.size)).trans (B9.out.mono (Nat.le_trans B6.out.size B7.out.size))))
      | ((with_reducible refine (set_chk w9 (w.heap.size + 1) l1 G9.out _ _ HV9.out (chkL_length _)).mono ?_); rintro e w10 ⟨rfl, hb10, ho10⟩; have G10 := Lib.hid hb10; have B10 : Hid (Below w.heap.size w w10) := Lib.hid (B9w.out.trans (ho10.below B9w.out.size (fun k hk => by rw [hk]; exact Nat.le_succ _))); clear hb10 ho10)
      | ((with_reducible refine (check_walk w10 (w.heap.size + 1) _ G10.out).mono ?_); rintro e w11 ⟨he11, hb11⟩; rw [HC3.out] at he11; subst he11; have B11 : Hid (Below w.heap.size w w11) := Lib.hid (B10.out.trans (hb11.mono B10.out.size)); clear hb11)
      | ((with_reducible refine (wakes_walk w11 (HT.out.below B11.out (Nat.le_refl _))).mono ?_); rintro e w12 ⟨rfl, hb12⟩; have B12 : Hid (Below w.heap.size w w12) := Lib.hid (B11.out.trans (hb12.mono B11.out.size)); clear hb12))
    go_ret
    exact ⟨rfl, B12.out⟩
  · have t1 : (bi c == bi y) = false := by rw [beq_eq_false_iff_ne]; exact bne hc
    have t2 : (bi c != bi y) = true := by rw [bne_iff_ne]; exact bne hc
    have t3 : decide (bi c = bi y) = false := decide_eq_false (bne hc)
    have d1 : decide (148 ≤ (at' : Int) % 512) = true := decide_eq_true (by omega)
    have d2 : decide ((at' : Int) % 512 < 156) = false := decide_eq_false (by omega)
    have d3 : decide ((at' : Int) % 512 < 257) = false := decide_eq_false (by omega)
    have d4 : decide (262 < (at' : Int) % 512) = false := decide_eq_false (by omega)
    have I1 : 257 ≤ (at' : Int) % 512 := by omega
    have I2 : (at' : Int) % 512 ≤ 262 := by omega
    clear h1 h2 hc bne kk
    go_wp2_with (first
    | (refine wpList_load_row rfl 40 _ rfl (w.heap.size + 1) rfl 40 (bl l1).toArray (0, 0) _ G4.out.row Tryd.underlying40 rfl J1.out ?_)
    | (refine wpList_store_row rfl 40 _ _ rfl w4.heap.size (bl l1).toArray rfl rfl 40 _ (new_heap w4) J1.out J2.out J3.out ?_; obtain ⟨WZ, hWZ⟩ : ∃ x, ((w4.alloc (.cells Tryd.zeroCells40 40)).setRow w4.heap.size (bl l1).toArray) = x := ⟨_, rfl⟩; rw [hWZ]; have NWZ : Hid (BlkAt WZ w4.heap.size l1) := Lib.hid (by rw [← hWZ]; exact BlkAt.new w4 l1 HN1.out); have MWZ : Hid (Below w4.heap.size w4 WZ) := Lib.hid (by rw [← hWZ]; exact new_below w4 l1); have ZWZ : Hid (WZ.heap.size = w4.heap.size + 1) := Lib.hid (by rw [← hWZ]; simp); clear hWZ; have GZ : Hid (BlkAt WZ (w.heap.size + 1) l1) := Lib.hid (G4.out.below MWZ.out G4.out.lt); have BZ : Hid (Below w.heap.size w WZ) := Lib.hid (B4.out.trans (MWZ.out.mono B4.out.size)); obtain ⟨vc, hvc⟩ := NWZ.out.cellAt (at' % 512) (Nat.mod_lt _ (by decide)); have hfz := NWZ.out.free (at' % 512))
      | ((with_reducible refine (check_walk _ w4.heap.size (l1.set (at' % 512) c) (NWZ.out.put _ c)).mono ?_); rintro e w6 ⟨he6, hb6⟩; rw [HE.out] at he6; subst he6; have G6 : Hid (BlkAt w6 (w.heap.size + 1) l1) := Lib.hid ((GZ.out.only (OnlyS.setCell WZ w4.heap.size (at' % 512) (.int .u8 (bi c)) (S := (· = w4.heap.size)) rfl) (by have := G4.out.lt; omega)).below hb6 (by have := GZ.out.lt; simpa using this)); have B6 : Hid (Below w.heap.size w w6) := Lib.hid (BZ.out.trans (((Below.refl w.heap.size WZ).setCell (Nat.le_of_lt (Nat.lt_of_lt_of_le (Nat.lt_succ_self _) (Nat.le_of_lt G4.out.lt))) _).trans (hb6.mono (by have := BZ.out.size; simpa using this)))); clear hb6; have hyk := G6.out.byteAt (at' % 512) (Nat.mod_lt _ (by decide)); rw [HY.out] at hyk)
      | ((with_reducible refine (sum_walk w6 (w.heap.size + 1) l1 G6.out).mono ?_); rintro e w7 ⟨rfl, hb7⟩; have B7 := Lib.hid hb7; clear hb7)
      | ((with_reducible refine (HOC.out w7 (HT.out.below (B6.out.trans (B7.out.mono B6.out.size)) (Nat.le_refl _))).mono ?_); rintro e w8 ⟨v8, rfl, ho8, hb8⟩; have HO := Lib.hid ho8; have B8 := Lib.hid hb8; clear ho8 hb8)
      | (refine wpList_app1 rfl (.tmp 87) (.tmp 88) rfl w7.heap.size v8 (Fx.pad 6 (sumF l1 + 1) ++ [0]) 32 ⟨w8.heap.size, 0, none⟩ 1 rfl rfl (HO.out.below ((Below.refl w8.heap.size w8).alloc (Nat.le_refl _) _) (Nat.le_refl _)) (by rw [add0]; exact cell_of_row _ _ 0 _ _ _ (heap_alloc_new _ _)) (by simp) (by have := B8.out.size; simp; omega) ?_; intro v9 w9 ho9 hb9; have B9 : Hid (Below w7.heap.size w7 w9) := Lib.hid (B8.out.trans ((((Below.refl w8.heap.size w8).alloc (Nat.le_refl _) _).mono B8.out.size).trans hb9)); obtain ⟨p9, c9, rfl, HV9⟩ := chk_shape ho9; clear ho9 hb9; have G9 : Hid (BlkAt w9 (w.heap.size + 1) l1) := Lib.hid ((G6.out.below B7.out G6.out.lt).below B9.out (Nat.lt_of_lt_of_le G6.out.lt B7.out.size)); have B9w : Hid (Below w.heap.size w w9) := Lib.hid ((B6.out.trans (B7.out.mono B6.out.size)).trans (B9.out.mono (Nat.le_trans B6.out.size B7.out.size))))
      | ((with_reducible refine (set_chk w9 (w.heap.size + 1) l1 G9.out _ _ HV9.out (chkL_length _)).mono ?_); rintro e w10 ⟨rfl, hb10, ho10⟩; have G10 := Lib.hid hb10; have B10 : Hid (Below w.heap.size w w10) := Lib.hid (B9w.out.trans (ho10.below B9w.out.size (fun k hk => by rw [hk]; exact Nat.le_succ _))); clear hb10 ho10)
      | ((with_reducible refine (check_walk w10 (w.heap.size + 1) _ G10.out).mono ?_); rintro e w11 ⟨he11, hb11⟩; rw [HC3.out] at he11; subst he11; have B11 : Hid (Below w.heap.size w w11) := Lib.hid (B10.out.trans (hb11.mono B10.out.size)); clear hb11)
      | ((with_reducible refine (wakes_walk w11 (HT.out.below B11.out (Nat.le_refl _))).mono ?_); rintro e w12 ⟨rfl, hb12⟩; have B12 : Hid (Below w.heap.size w w12) := Lib.hid (B11.out.trans (hb12.mono B11.out.size)); clear hb12))
    go_ret
    exact ⟨rfl, B12.out⟩
  · have t1 : (bi c == bi y) = false := by rw [beq_eq_false_iff_ne]; exact bne hc
    have t2 : (bi c != bi y) = true := by rw [bne_iff_ne]; exact bne hc
    have t3 : decide (bi c = bi y) = false := decide_eq_false (bne hc)
    have d1 : decide (148 ≤ (at' : Int) % 512) = true := decide_eq_true (by omega)
    have d2 : decide ((at' : Int) % 512 < 156) = true := decide_eq_true (by omega)
    have I1 : 148 ≤ (at' : Int) % 512 := by omega
    have I2 : (at' : Int) % 512 < 156 := by omega
    clear h1 h2 hc bne kk
    go_wp2_with (first
    | (refine wpList_load_row rfl 40 _ rfl (w.heap.size + 1) rfl 40 (bl l1).toArray (0, 0) _ G4.out.row Tryd.underlying40 rfl J1.out ?_)
    | (refine wpList_store_row rfl 40 _ _ rfl w4.heap.size (bl l1).toArray rfl rfl 40 _ (new_heap w4) J1.out J2.out J3.out ?_; obtain ⟨WZ, hWZ⟩ : ∃ x, ((w4.alloc (.cells Tryd.zeroCells40 40)).setRow w4.heap.size (bl l1).toArray) = x := ⟨_, rfl⟩; rw [hWZ]; have NWZ : Hid (BlkAt WZ w4.heap.size l1) := Lib.hid (by rw [← hWZ]; exact BlkAt.new w4 l1 HN1.out); have MWZ : Hid (Below w4.heap.size w4 WZ) := Lib.hid (by rw [← hWZ]; exact new_below w4 l1); have ZWZ : Hid (WZ.heap.size = w4.heap.size + 1) := Lib.hid (by rw [← hWZ]; simp); clear hWZ; have GZ : Hid (BlkAt WZ (w.heap.size + 1) l1) := Lib.hid (G4.out.below MWZ.out G4.out.lt); have BZ : Hid (Below w.heap.size w WZ) := Lib.hid (B4.out.trans (MWZ.out.mono B4.out.size)); obtain ⟨vc, hvc⟩ := NWZ.out.cellAt (at' % 512) (Nat.mod_lt _ (by decide)); have hfz := NWZ.out.free (at' % 512))
      | ((with_reducible refine (check_walk _ w4.heap.size (l1.set (at' % 512) c) (NWZ.out.put _ c)).mono ?_); rintro e w6 ⟨he6, hb6⟩; rw [HE.out] at he6; subst he6; have G6 : Hid (BlkAt w6 (w.heap.size + 1) l1) := Lib.hid ((GZ.out.only (OnlyS.setCell WZ w4.heap.size (at' % 512) (.int .u8 (bi c)) (S := (· = w4.heap.size)) rfl) (by have := G4.out.lt; omega)).below hb6 (by have := GZ.out.lt; simpa using this)); have B6 : Hid (Below w.heap.size w w6) := Lib.hid (BZ.out.trans (((Below.refl w.heap.size WZ).setCell (Nat.le_of_lt (Nat.lt_of_lt_of_le (Nat.lt_succ_self _) (Nat.le_of_lt G4.out.lt))) _).trans (hb6.mono (by have := BZ.out.size; simpa using this)))); clear hb6; have hyk := G6.out.byteAt (at' % 512) (Nat.mod_lt _ (by decide)); rw [HY.out] at hyk)
      | ((with_reducible refine (sum_walk w6 (w.heap.size + 1) l1 G6.out).mono ?_); rintro e w7 ⟨rfl, hb7⟩; have B7 := Lib.hid hb7; clear hb7)
      | ((with_reducible refine (HOC.out w7 (HT.out.below (B6.out.trans (B7.out.mono B6.out.size)) (Nat.le_refl _))).mono ?_); rintro e w8 ⟨v8, rfl, ho8, hb8⟩; have HO := Lib.hid ho8; have B8 := Lib.hid hb8; clear ho8 hb8)
      | (refine wpList_app1 rfl (.tmp 87) (.tmp 88) rfl w7.heap.size v8 (Fx.pad 6 (sumF l1 + 1) ++ [0]) 32 ⟨w8.heap.size, 0, none⟩ 1 rfl rfl (HO.out.below ((Below.refl w8.heap.size w8).alloc (Nat.le_refl _) _) (Nat.le_refl _)) (by rw [add0]; exact cell_of_row _ _ 0 _ _ _ (heap_alloc_new _ _)) (by simp) (by have := B8.out.size; simp; omega) ?_; intro v9 w9 ho9 hb9; have B9 : Hid (Below w7.heap.size w7 w9) := Lib.hid (B8.out.trans ((((Below.refl w8.heap.size w8).alloc (Nat.le_refl _) _).mono B8.out.size).trans hb9)); obtain ⟨p9, c9, rfl, HV9⟩ := chk_shape ho9; clear ho9 hb9; have G9 : Hid (BlkAt w9 (w.heap.size + 1) l1) := Lib.hid ((G6.out.below B7.out G6.out.lt).below B9.out (Nat.lt_of_lt_of_le G6.out.lt B7.out.size)); have B9w : Hid (Below w.heap.size w w9) := Lib.hid ((B6.out.trans (B7.out.mono B6.out.size)).trans (B9.out.mono (Nat.le_trans B6.out.size B7.out.size))))
      | ((with_reducible refine (set_chk w9 (w.heap.size + 1) l1 G9.out _ _ HV9.out (chkL_length _)).mono ?_); rintro e w10 ⟨rfl, hb10, ho10⟩; have G10 := Lib.hid hb10; have B10 : Hid (Below w.heap.size w w10) := Lib.hid (B9w.out.trans (ho10.below B9w.out.size (fun k hk => by rw [hk]; exact Nat.le_succ _))); clear hb10 ho10)
      | ((with_reducible refine (check_walk w10 (w.heap.size + 1) _ G10.out).mono ?_); rintro e w11 ⟨he11, hb11⟩; rw [HC3.out] at he11; subst he11; have B11 : Hid (Below w.heap.size w w11) := Lib.hid (B10.out.trans (hb11.mono B10.out.size)); clear hb11)
      | ((with_reducible refine (wakes_walk w11 (HT.out.below B11.out (Nat.le_refl _))).mono ?_); rintro e w12 ⟨rfl, hb12⟩; have B12 : Hid (Below w.heap.size w w12) := Lib.hid (B11.out.trans (hb12.mono B11.out.size)); clear hb12))
    go_ret
    exact ⟨rfl, B12.out⟩
end Go.Proofs.YtkkelmlkpehcpaaDoor
