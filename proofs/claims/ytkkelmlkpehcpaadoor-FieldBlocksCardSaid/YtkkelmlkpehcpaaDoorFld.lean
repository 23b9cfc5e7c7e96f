/-
  The law FieldBlocks.
-/
import Derived.Deep.RegionHeld3
import Derived.Test.YtkkelmlkpehcpaaDoorFlc
import Derived.Test.YtkkelmlkpehcpaaDoorFaa
namespace Go.Proofs.YtkkelmlkpehcpaaDoor
open Go.RowKit

def placeOk (s : ByteArray) (p n : Nat) : Prop := place s.data.toList = some (p, n) ∨ place s.data.toList = none ∧ p = 0 ∧ n = 0
theorem placeOk.bounds {s : ByteArray} {p n : Nat} (h : placeOk s p n) : p + n ≤ 500 ∧ p < 500 := by
  rcases h with h | ⟨_, rfl, rfl⟩
  · obtain ⟨a, b, _⟩ := place_in _ _ _ h
    exact ⟨a, b⟩
  · exact ⟨by decide, by decide⟩
/-- Field, whether the name is one or not. -/
theorem field_any (w : World) (g : Nat) (l : List UInt8) (h : BlkAt w g l) (s : ByteArray) (hs : s.size ≤ maxLen) (p n : Nat) (hp : placeOk s p n) :
    Calls Tryd.prog 23 #[.pointer (some ⟨g, 0, none⟩), .string s] w fun e w' => ∃ v', e = .returned (.tuple #[v', .bool (decide (0 < (n : Int)))]) ∧ w'.ownsRow w.heap.size 5 1 v' n (bl (fpart l p n)) ∧ Below w.heap.size w w' := by
  refine (field_walk w g l h s hs).mono fun e w' hq => ?_
  unfold FieldPost at hq
  rcases hp with hp | ⟨hp, rfl, rfl⟩
  · obtain ⟨_, _, h0⟩ := place_in _ _ _ hp
    rw [hp] at hq
    rw [decide_eq_true (by omega)]
    exact hq
  · rw [hp] at hq
    obtain ⟨he, hb⟩ := hq
    exact ⟨_, he, by rw [show bl (fpart l 0 0) = [] from rfl]; exact World.ownsRow_nil _ _ _ _, hb⟩
theorem takeD {P : Program} {ops : Array Oper} {Q : Exit → Act → World → Prop} {S : World → Prop} (i d : Nat) (v : Value) {oi : Oper} {fuel : Nat} {listed : Array Bool} {a : Act} {w : World} (hi : ops[i]? = some oi) (hd : oi.dst = some d)
    (hs : Region.noSelect ops = true) (hf : Region.free .any ops listed i = true) (hr : (Region.ready .any ops listed).contains i = true)
    (hQ : ∀ c a w v, Q (.panic c) (a.put (some d) v) w → Q (.panic c) a w) (hy : YieldsIf P ops S oi v a) (hS : S w)
    (h : wpAnyH P .any ops Q S fuel (listed.setIfInBounds i true) (a.put (some d) v) w) : wpAnyH P .any ops Q S (fuel + 1) listed a w :=
  wpAnyH_take hi hs hf hr (fun c a w h => hQ c a w v (by rw [← hd]; exact h)) hy hS (by rw [hd]; exact h)
theorem zero39 : Tryd.zeroCells39 = (bl (List.replicate 512 0)).toArray := by kernel_rfl
theorem guard39 : Tryd.prog.eqGuardType Tryd.prog.depth 39 = false := by kernel_rfl
theorem same39 (a b : List UInt8) (ha : a.length = 512) (hb : b.length = 512) (w : World) : (Op.equalIn 10000 39 (.agg (bl a).toArray) (.agg (bl b).toArray)).run Tryd.prog w = .ok (a == b) w := by
  obtain ⟨i0, hi, hz0, hz1, hz2⟩ := info_parts info5
  rw [run_equalIn_array w 9999 _ _ Tryd.underlying39 hi]
  have e : Tryd.prog.cellsOf 5 = 1 := by kernel_rfl
  rw [e, items5 a b w _ (fun i hi => by have := List.mem_range.1 hi; omega), all_same a b 512 ha hb]
theorem row_range {w : World} {g : Nat} {l : List UInt8} {t : TypeId} (h : w.heap[g]? = some (.cells (bl l).toArray t (0, 0))) : w.rangeAt g 0 (bl l) := fun j v hj => by
  rw [Nat.zero_add, cell_of_row _ _ _ _ _ _ h]; simpa using hj
def XLoop (B : Nat) (w6 : World) (vc : Value) (n : Nat) (i : Value) (wr : World) : Prop := ∃ j : Nat, j ≤ n ∧ i = .int .i64 j ∧ Below B w6 wr ∧ ∃ L : List Value, L.length = n ∧ (∀ v ∈ L, ∃ x : Int, v = .int .u8 x) ∧ wr.ownsRow B 5 1 vc n L
theorem set_any (w : World) (g : Nat) (l : List UInt8) (h : BlkAt w g l) (s : ByteArray) (hs : s.size ≤ maxLen) (p n : Nat) (hp : placeOk s p n) (v : Value) (vs : List UInt8) (hv : SlV w v (bl vs)) (hlen : vs.length ≤ maxLen) :
    Calls Tryd.prog 29 #[.pointer (some ⟨g, 0, none⟩), .string s, v] w fun e w' => (0 < n ∧ vs.length = n → e = .returned (.int .i64 0) ∧ BlkAt w' g (setF l p vs) ∧ OnlyS (· = g) w w') ∧ (¬ (0 < n ∧ vs.length = n) → e = .returned (.int .i64 1) ∧ Below w.heap.size w w') := by
  refine (set_walk w g l h s hs v vs hv hlen).mono fun e w' hq => ?_
  unfold SetPost at hq
  rcases hp with hp | ⟨hp, rfl, rfl⟩
  · obtain ⟨_, _, h0⟩ := place_in _ _ _ hp
    rw [hp] at hq
    refine ⟨fun hc => (if_pos hc.2).mp hq, fun hc => (if_neg (fun h => hc ⟨h0, h⟩)).mp hq⟩
  · rw [hp] at hq
    exact ⟨fun hc => absurd hc.1 (by omega), fun _ => hq⟩
theorem wpList_copy_39 {w : World} {ops : Array Oper} {rest : List Oper} {o : Oper} {a : Act} {Q : Exit → Act → World → Prop} (hgd : o.guard = none) (d s : Operand)
    (ho : o.op = .call { callee := .builtin .copy, args := #[d, s], argTypes := #[22, 22] }) (g p m : Nat) (l : List UInt8) (hl : l.length = 512) (h : w.heap[g]? = some (.cells (bl l).toArray 39 (0, 0))) (v : Value) (vs : List UInt8) (hv : SlV w v (bl vs)) (hpm : p + m = 512) (hn : vs.length ≤ m) (h0 : 0 < vs.length) (c : Nat)
    (hd : a.eval d = .slice (some ⟨g, p, none⟩) m c) (hs : a.eval s = v)
    (hK : ∀ w' r, w'.heap[g]? = some (.cells (bl (setF l p vs)).toArray 39 (0, 0)) → OnlyS (· = g) w w' → wpList Tryd.prog ops Q rest (a.put o.dst r) w') : wpList Tryd.prog ops Q (o :: rest) a w := by
  obtain ⟨q, cap, rfl⟩ := hv.shape
  obtain ⟨g', o', rfl, hrow⟩ := hv.some (by rw [bl_length]; omega)
  have hsz5 : (Tryd.prog.info? 5).map (·.size) = some 1 := by kernel_rfl
  rw [bl_length] at hs
  refine wpList_copy_own hgd d s 22 22 ho 5 Tryd.underlying22 hsz5 g p m c ⟨g', o', none⟩ vs.length cap hd hs (bl l).toArray 39 h (bl vs) (by rw [bl_length]; show vs.length = min vs.length m; omega) hrow.src (by simp [hl]; omega) (bl_one _) ?_
  refine hK _ _ ?_ ⟨rfl, rfl, rfl, by simp, fun k _ hk => setRow_other w g k _ hk⟩
  rw [setRow_heap w g _ _ _ _ h]
  simp [setF, bl, List.map_take, List.map_drop]
set_option maxRecDepth 100000 in
set_option maxHeartbeats 8000000 in
theorem blocks_walk (w : World) (b : List UInt8) (hb : b.length = 512) (s : List UInt8) (hs : s.length ≤ maxLen) (v : Value) (vs : List UInt8) (hv : SlV w v (bl vs)) (hvl : vs.length ≤ maxLen) (ht : TzAt w) :
    Calls Tryd.prog 5 #[.agg (bl b).toArray, .string ⟨s.toArray⟩, v] w (WakesPost w) := by
  have HT := Lib.hid ht
  have hcut := cutN s 40
  have hsz : (⟨s.toArray⟩ : ByteArray).size = s.length := by simp [ByteArray.size]
  obtain ⟨bs, hbs⟩ : ∃ bs, (⟨s.toArray⟩ : ByteArray) = bs := ⟨_, rfl⟩
  rw [show ((40 : Nat) : Int) = 40 from rfl] at hcut
  rw [hbs] at hsz hcut ⊢
  unfold maxLen at hs
  have hs2 : (bs.size : Int) ≤ 9223372036854775807 := by omega
  have hxl : (⟨(s.take 40).toArray⟩ : ByteArray).size ≤ maxLen := by simp [ByteArray.size, maxLen]; omega
  obtain ⟨x, hx⟩ : ∃ x, (⟨(s.take 40).toArray⟩ : ByteArray) = x := ⟨_, rfl⟩
  rw [hx] at hcut hxl
  have HXL := Lib.hid hxl
  have HB := Lib.hid hb
  have HVV := Lib.hid (And.intro hv hvl)
  have HI0 := Lib.hid (bl_size39 b hb)
  have HI1 := Lib.hid (bl_size b hb)
  have HZ := Lib.hid (zsize b hb)
  have H1 := Lib.hid (bl_all b)
  have HX0 : Hid ((w.alloc (.cells (bl b).toArray 39)).heap[w.heap.size]? = some (.cells (bl b).toArray 39 (0, 0))) := Lib.hid (heap_alloc_new _ _)
  have HX1 : Hid (((w.alloc (.cells (bl b).toArray 39)).alloc (.cells Tryd.zeroCells40 40)).heap[w.heap.size + 1]? = some (.cells Tryd.zeroCells40 40 (0, 0))) := Lib.hid (heap_alloc2_new _ _ _)
  have hgd := guard512
  obtain ⟨WX, hWX⟩ : ∃ WX, ((w.alloc (.cells (bl b).toArray 39)).alloc (.cells Tryd.zeroCells40 40)).setRow (w.heap.size + 1) (bl b).toArray = WX := ⟨_, rfl⟩
  have HWX : Hid (((w.alloc (.cells (bl b).toArray 39)).alloc (.cells Tryd.zeroCells40 40)).setRow (w.heap.size + 1) (bl b).toArray = WX) := Lib.hid hWX
  have HBX : Hid (BlkAt WX (w.heap.size + 1) b) := Lib.hid (by rw [← hWX]; exact ⟨hb, setRow_heap _ _ _ _ _ _ HX1.out⟩)
  have HSX : Hid (WX.heap.size = w.heap.size + 1 + 1) := Lib.hid (by rw [← hWX]; simp)
  have BX : Hid (Below w.heap.size w WX) := Lib.hid (by rw [← hWX]; exact below_setRow (((Below.refl _ _).alloc (Nat.le_refl _) _).alloc (by simp) _) (Nat.le_succ _) _)
  have HRX : Hid (WX.heap[w.heap.size]? = some (.cells (bl b).toArray 39 (0, 0))) := Lib.hid (by rw [← hWX, setRow_other _ _ _ _ (by omega)]; exact heap_alloc2_old _ _ _)
  clear ht hb hWX hbs hx hv hvl hxl hs hsz
  go_enter Tryd.func5, Tryd.ntmps5
  go_wp2_with (first
    | (refine wpList_load_row rfl 39 _ rfl w.heap.size rfl 39 (bl b).toArray (0, 0) _ HX0.out Tryd.underlying39 rfl HI0.out ?_)
    | (refine wpList_store_row rfl 40 _ _ rfl (w.heap.size + 1) (bl b).toArray rfl rfl 40 _ HX1.out HI1.out HZ.out H1.out ?_; rw [HWX.out])
    | ((with_reducible refine (rplace_walk WX x HXL.out).mono ?_); rintro e w1 ⟨p, n, rfl, hp, b1⟩; have HP : Hid (placeOk x p n) := Lib.hid hp; have B1 : Hid (Below w.heap.size w w1) := Lib.hid (BX.out.trans (b1.mono BX.out.size)); have G1 : Hid (BlkAt w1 (w.heap.size + 1) b) := Lib.hid (HBX.out.below b1 HBX.out.lt); have R1 : Hid (w1.heap[w.heap.size]? = some (.cells (bl b).toArray 39 (0, 0))) := Lib.hid ((b1.block _ (by rw [HSX.out]; omega)).trans HRX.out); clear hp b1)
    | ((with_reducible refine (field_any w1 (w.heap.size + 1) b G1.out x HXL.out p n HP.out).mono ?_); rintro e w2 ⟨vc, rfl, ho, b2⟩; have HO := Lib.hid ho; have B2 : Hid (Below w.heap.size w w2) := Lib.hid (B1.out.trans (b2.mono B1.out.size)); have G2 : Hid (BlkAt w2 (w.heap.size + 1) b) := Lib.hid (G1.out.below b2 G1.out.lt); have R2 : Hid (w2.heap[w.heap.size]? = some (.cells (bl b).toArray 39 (0, 0))) := Lib.hid ((b2.block _ (by have := G1.out.lt; omega)).trans R1.out); have S12 := Lib.hid b2.size; clear ho b2))
  obtain ⟨hpn, hp5⟩ := HP.out.bounds
  have hsl0 := slice_lh (t := 39) Tryd.underlying39 arr39 elm39 w.heap.size p (p + n) (by omega) (by omega) (by omega)
  rw [show p + n - p = n by omega] at hsl0
  have hsl : ∀ w', (Instr.sliceAt 39 (.pointer (some ⟨w.heap.size, 0, none⟩)) (some (.int .i64 (p : Int))) (some (.int .i64 ((p : Int) + (n : Int)))) none).run Tryd.prog w' = .ok (.slice (some ⟨w.heap.size, p, none⟩) n (512 - p)) w' := fun w' => by rw [← Int.natCast_add]; exact hsl0 w'
  have hwr : IntKind.i64.wrap ((p : Int) + (n : Int)) = (p : Int) + (n : Int) := by rw [IntKind.wrap_i64]; omega
  have hpI : (p : Int) ≤ 500 := by omega
  have hnI : (p : Int) + (n : Int) ≤ 500 := by omega
  have HPN := Lib.hid (And.intro hpn hp5)
  have D2 : Below w2.heap.size w2 w2.drew := (Below.refl _ _).drew
  have hfl : (fpart b p n).length = n := by simp [fpart, HB.out]; omega
  have hrow : RowAt w2 w.heap.size 0 (bl b) := fun i v hi => by rw [Nat.zero_add, cell_of_row _ _ _ _ _ _ R2.out]; simpa using hi
  have hpiece : SlV w2 (.slice (some ⟨w.heap.size, p, none⟩) n (512 - p)) (bl (fpart b p n)) := by
    have := (hrow.drop p).take n
    rw [bl_drop, bl_take, Nat.zero_add] at this
    exact .inl ⟨w.heap.size, p, 512 - p, by rw [bl_length, hfl], by rw [bl_length, hfl]; omega, this⟩
  have HEQ := Lib.hid (equal_same w2.drew vc (.slice (some ⟨w.heap.size, p, none⟩) n (512 - p)) (fpart b p n) ((own_toV HO.out).below D2 (Nat.le_refl _)) (hpiece.below D2 (Nat.le_refl _)))
  have G2d : Hid (BlkAt w2.drew (w.heap.size + 1) b) := Lib.hid (G2.out.below D2 G2.out.lt)
  have z2 : w2.rangeAt w.heap.size 0 (bl b) := row_range R2.out
  have u39 := Tryd.underlying39
  have i39 : (Tryd.prog.info? 39).map (·.size) = some (bl b).length := by have := HI0.out; rwa [List.size_toArray] at this
  have hgd39 := guard39
  have hs39 : ∀ w, (Op.equalIn 10000 39 (.agg (bl b).toArray) (.agg Tryd.zeroCells39)).run Tryd.prog w = .ok (b == List.replicate 512 0) w := fun w => by rw [zero39]; exact same39 b (List.replicate 512 0) HB.out List.length_replicate w
  clear hsl0 hpn hp5 D2 hrow hpiece hfl
  refine wp_region_held_drew (S := fun W => W.rangeAt w.heap.size 0 (bl b)) (by kernel_rfl) ((World.rangeAt_drew _ _ _ _).2 z2) (fun hHeld => ?_)
  change wpAnyH _ _ _ _ _ 33 _ _ _
  refine takeD 0 31 (.bool (decide (0 < n))) rfl rfl (by kernel_rfl) (by kernel_rfl) (by kernel_rfl) (fun _ _ _ _ h => h) (Or.inl ⟨by rfl, fun w hw => by go_simp⟩) hHeld ?_
  simp only [Act.put, List.setIfInBounds_toArray, List.set_cons_zero, List.set_cons_succ]
  refine takeD 1 32 (.int .i64 (n : Int)) rfl rfl (by kernel_rfl) (by kernel_rfl) (by kernel_rfl) (fun _ _ _ _ h => h) (Or.inl ⟨by rfl, fun w hw => by go_simp⟩) hHeld ?_
  simp only [Act.put, List.setIfInBounds_toArray, List.set_cons_zero, List.set_cons_succ]
  refine takeD 2 33 (.bool (decide (0 < n))) rfl rfl (by kernel_rfl) (by kernel_rfl) (by kernel_rfl) (fun _ _ _ _ h => h) (Or.inl ⟨by rfl, fun w hw => by go_simp⟩) hHeld ?_
  simp only [Act.put, List.setIfInBounds_toArray, List.set_cons_zero, List.set_cons_succ]
  refine takeD 3 34 (.bool false) rfl rfl (by kernel_rfl) (by kernel_rfl) (by kernel_rfl) (fun _ _ _ _ h => h) (Or.inl ⟨by rfl, fun w hw => by go_simp⟩) hHeld ?_
  simp only [Act.put, List.setIfInBounds_toArray, List.set_cons_zero, List.set_cons_succ]
  refine takeD 4 35 (.bool false) rfl rfl (by kernel_rfl) (by kernel_rfl) (by kernel_rfl) (fun _ _ _ _ h => h) (Or.inl ⟨by rfl, fun w hw => by go_simp⟩) hHeld ?_
  simp only [Act.put, List.setIfInBounds_toArray, List.set_cons_zero, List.set_cons_succ]
  refine takeD 5 36 vc rfl rfl (by kernel_rfl) (by kernel_rfl) (by kernel_rfl) (fun _ _ _ _ h => h) (Or.inl ⟨by rfl, fun w hw => by go_simp⟩) hHeld ?_
  simp only [Act.put, List.setIfInBounds_toArray, List.set_cons_zero, List.set_cons_succ]
  refine takeD 6 37 (.int .i64 (p : Int)) rfl rfl (by kernel_rfl) (by kernel_rfl) (by kernel_rfl) (fun _ _ _ _ h => h) (Or.inl ⟨by rfl, fun w hw => by go_simp⟩) hHeld ?_
  simp only [Act.put, List.setIfInBounds_toArray, List.set_cons_zero, List.set_cons_succ]
  refine takeD 7 38 (.int .i64 (p : Int)) rfl rfl (by kernel_rfl) (by kernel_rfl) (by kernel_rfl) (fun _ _ _ _ h => h) (Or.inl ⟨by rfl, fun w hw => by go_simp⟩) hHeld ?_
  simp only [Act.put, List.setIfInBounds_toArray, List.set_cons_zero, List.set_cons_succ]
  refine takeD 8 39 (.int .i64 (n : Int)) rfl rfl (by kernel_rfl) (by kernel_rfl) (by kernel_rfl) (fun _ _ _ _ h => h) (Or.inl ⟨by rfl, fun w hw => by go_simp⟩) hHeld ?_
  simp only [Act.put, List.setIfInBounds_toArray, List.set_cons_zero, List.set_cons_succ]
  refine takeD 9 40 (.int .i64 ((p : Int) + (n : Int))) rfl rfl (by kernel_rfl) (by kernel_rfl) (by kernel_rfl) (fun _ _ _ _ h => h) (Or.inl ⟨by rfl, fun w hw => by go_simp⟩) hHeld ?_
  simp only [Act.put, List.setIfInBounds_toArray, List.set_cons_zero, List.set_cons_succ]
  refine takeD 10 41 (.slice (some ⟨w.heap.size, p, none⟩) n (512 - p)) rfl rfl (by kernel_rfl) (by kernel_rfl) (by kernel_rfl) (fun _ _ _ _ h => h) (Or.inl ⟨by rfl, fun w hw => by go_simp⟩) hHeld ?_
  simp only [Act.put, List.setIfInBounds_toArray, List.set_cons_zero, List.set_cons_succ]
  refine wpAnyH_ready (rs := [11]) (by kernel_rfl) (by simp) ?_
  refine AllReadyH.cons rfl (fun K hK => ?_) AllReadyH.nil
  go_simp
  go_at_call 16
  refine (HEQ.out).mono ?_
  rintro e wa ⟨rfl, rfl⟩
  refine hK.out _ _ hHeld (fun hHeld => ?_)
  try simp only [Act.put, List.setIfInBounds_toArray, List.set_cons_zero, List.set_cons_succ]
  refine takeD 12 43 (.bool false) rfl rfl (by kernel_rfl) (by kernel_rfl) (by kernel_rfl) (fun _ _ _ _ h => h) (Or.inl ⟨by rfl, fun w hw => by go_simp⟩) hHeld ?_
  simp only [Act.put, List.setIfInBounds_toArray, List.set_cons_zero, List.set_cons_succ]
  refine takeD 13 44 (.bool false) rfl rfl (by kernel_rfl) (by kernel_rfl) (by kernel_rfl) (fun _ _ _ _ h => h) (Or.inl ⟨by rfl, fun w hw => by go_simp⟩) hHeld ?_
  simp only [Act.put, List.setIfInBounds_toArray, List.set_cons_zero, List.set_cons_succ]
  refine takeD 14 45 (.bool false) rfl rfl (by kernel_rfl) (by kernel_rfl) (by kernel_rfl) (fun _ _ _ _ h => h) (Or.inl ⟨by rfl, fun w hw => by go_simp⟩) hHeld ?_
  simp only [Act.put, List.setIfInBounds_toArray, List.set_cons_zero, List.set_cons_succ]
  refine takeD 16 47 (.agg (bl b).toArray) rfl rfl (by kernel_rfl) (by kernel_rfl) (by kernel_rfl) (fun _ _ _ _ h => h) (yieldsIf_load_mid (by rfl) _ _ rfl w.heap.size 0 rfl (bl b) _ (fun _ h => h) u39 rfl i39) hHeld ?_
  simp only [Act.put, List.setIfInBounds_toArray, List.set_cons_zero, List.set_cons_succ]
  refine wpAnyH_ready (rs := [15]) (by kernel_rfl) (by simp) ?_
  refine AllReadyH.cons rfl (fun K hK => ?_) AllReadyH.nil
  go_simp
  go_at_call 24
  refine (sum_walk w2.drew (w.heap.size + 1) b G2d.out).mono ?_
  rintro e w3 ⟨rfl, b3⟩
  have G3 := Lib.hid (G2d.out.below b3 G2d.out.lt)
  have R3 := Lib.hid ((b3.block _ (by have := G2d.out.lt; omega)).trans (show w2.drew.heap[w.heap.size]? = _ from R2.out))
  have z3 : w3.rangeAt w.heap.size 0 (bl b) := row_range R3.out
  have B3 := Lib.hid b3
  clear b3
  refine hK.out _ _ z3 (fun hHeld => ?_)
  try simp only [Act.put, List.setIfInBounds_toArray, List.set_cons_zero, List.set_cons_succ]
  refine wpAnyH_ready (rs := [17]) (by kernel_rfl) (by simp) ?_
  refine AllReadyH.cons rfl (fun K hK => ?_) AllReadyH.nil
  go_simp
  go_at_call 25
  refine (rsum_walk w3 b HB.out).mono ?_
  rintro e w4 ⟨rfl, b4⟩
  have G4 := Lib.hid (G3.out.below b4 G3.out.lt)
  have R4 := Lib.hid ((b4.block _ (by have := G3.out.lt; omega)).trans R3.out)
  have z4 : w4.rangeAt w.heap.size 0 (bl b) := row_range R4.out
  have B4 := Lib.hid (B3.out.trans (b4.mono B3.out.size))
  clear b4
  refine hK.out _ _ z4 (fun hHeld => ?_)
  try simp only [Act.put, List.setIfInBounds_toArray, List.set_cons_zero, List.set_cons_succ]
  refine takeD 18 49 (.bool false) rfl rfl (by kernel_rfl) (by kernel_rfl) (by kernel_rfl) (fun _ _ _ _ h => h) (Or.inl ⟨by rfl, fun w hw => by go_simp⟩) hHeld ?_
  simp only [Act.put, List.setIfInBounds_toArray, List.set_cons_zero, List.set_cons_succ]
  refine takeD 19 50 (.bool false) rfl rfl (by kernel_rfl) (by kernel_rfl) (by kernel_rfl) (fun _ _ _ _ h => h) (Or.inl ⟨by rfl, fun w hw => by go_simp⟩) hHeld ?_
  simp only [Act.put, List.setIfInBounds_toArray, List.set_cons_zero, List.set_cons_succ]
  refine takeD 20 51 (.bool false) rfl rfl (by kernel_rfl) (by kernel_rfl) (by kernel_rfl) (fun _ _ _ _ h => h) (Or.inl ⟨by rfl, fun w hw => by go_simp⟩) hHeld ?_
  simp only [Act.put, List.setIfInBounds_toArray, List.set_cons_zero, List.set_cons_succ]
  refine takeD 22 53 (.agg (bl b).toArray) rfl rfl (by kernel_rfl) (by kernel_rfl) (by kernel_rfl) (fun _ _ _ _ h => h) (yieldsIf_load_mid (by rfl) _ _ rfl w.heap.size 0 rfl (bl b) _ (fun _ h => h) u39 rfl i39) hHeld ?_
  simp only [Act.put, List.setIfInBounds_toArray, List.set_cons_zero, List.set_cons_succ]
  refine wpAnyH_ready (rs := [21]) (by kernel_rfl) (by simp) ?_
  refine AllReadyH.cons rfl (fun K hK => ?_) AllReadyH.nil
  go_simp
  go_at_call 26
  refine (check_walk w4 (w.heap.size + 1) b G4.out).mono ?_
  rintro e w5 ⟨rfl, b5⟩
  have G5 := Lib.hid (G4.out.below b5 G4.out.lt)
  have R5 := Lib.hid ((b5.block _ (by have := G4.out.lt; omega)).trans R4.out)
  have z5 : w5.rangeAt w.heap.size 0 (bl b) := row_range R5.out
  have B5 := Lib.hid (B4.out.trans (b5.mono B4.out.size))
  clear b5
  refine hK.out _ _ z5 (fun hHeld => ?_)
  try simp only [Act.put, List.setIfInBounds_toArray, List.set_cons_zero, List.set_cons_succ]
  refine wpAnyH_ready (rs := [23]) (by kernel_rfl) (by simp) ?_
  refine AllReadyH.cons rfl (fun K hK => ?_) AllReadyH.nil
  go_simp
  go_at_call 27
  refine (rcheck_walk w5 b HB.out).mono ?_
  rintro e w6 ⟨rfl, b6⟩
  have G6 := Lib.hid (G5.out.below b6 G5.out.lt)
  have R6 := Lib.hid ((b6.block _ (by have := G5.out.lt; omega)).trans R5.out)
  have z6 : w6.rangeAt w.heap.size 0 (bl b) := row_range R6.out
  have B6 := Lib.hid (B5.out.trans (b6.mono B5.out.size))
  clear b6
  refine hK.out _ _ z6 (fun hHeld => ?_)
  try simp only [Act.put, List.setIfInBounds_toArray, List.set_cons_zero, List.set_cons_succ]
  refine takeD 24 55 (.bool false) rfl rfl (by kernel_rfl) (by kernel_rfl) (by kernel_rfl) (fun _ _ _ _ h => h) (Or.inl ⟨by rfl, fun w hw => by go_simp⟩) hHeld ?_
  simp only [Act.put, List.setIfInBounds_toArray, List.set_cons_zero, List.set_cons_succ]
  refine takeD 25 56 (.bool false) rfl rfl (by kernel_rfl) (by kernel_rfl) (by kernel_rfl) (fun _ _ _ _ h => h) (Or.inl ⟨by rfl, fun w hw => by go_simp⟩) hHeld ?_
  simp only [Act.put, List.setIfInBounds_toArray, List.set_cons_zero, List.set_cons_succ]
  refine takeD 26 57 (.bool false) rfl rfl (by kernel_rfl) (by kernel_rfl) (by kernel_rfl) (fun _ _ _ _ h => h) (Or.inl ⟨by rfl, fun w hw => by go_simp⟩) hHeld ?_
  simp only [Act.put, List.setIfInBounds_toArray, List.set_cons_zero, List.set_cons_succ]
  refine takeD 28 59 (.agg (bl b).toArray) rfl rfl (by kernel_rfl) (by kernel_rfl) (by kernel_rfl) (fun _ _ _ _ h => h) (yieldsIf_load_mid (by rfl) _ _ rfl w.heap.size 0 rfl (bl b) _ (fun _ h => h) u39 rfl i39) hHeld ?_
  simp only [Act.put, List.setIfInBounds_toArray, List.set_cons_zero, List.set_cons_succ]
  refine takeD 29 60 (.agg Tryd.zeroCells39) rfl rfl (by kernel_rfl) (by kernel_rfl) (by kernel_rfl) (fun _ _ _ _ h => h) (Or.inl ⟨by rfl, fun w hw => by go_simp⟩) hHeld ?_
  simp only [Act.put, List.setIfInBounds_toArray, List.set_cons_zero, List.set_cons_succ]
  refine takeD 30 61 (.bool (b == List.replicate 512 0)) rfl rfl (by kernel_rfl) (by kernel_rfl) (by kernel_rfl) (fun _ _ _ _ h => h) (Or.inl ⟨by rfl, fun w hw => by go_simp⟩) hHeld ?_
  simp only [Act.put, List.setIfInBounds_toArray, List.set_cons_zero, List.set_cons_succ]
  refine wpAnyH_ready (rs := [27]) (by kernel_rfl) (by simp) ?_
  refine AllReadyH.cons rfl (fun K hK => ?_) AllReadyH.nil
  go_simp
  go_at_call 28
  refine (zero_walk w6 (w.heap.size + 1) b G6.out).mono ?_
  rintro e wz ⟨rfl, rfl⟩
  refine hK.out _ _ hHeld (fun hHeld => ?_)
  try simp only [Act.put, List.setIfInBounds_toArray, List.set_cons_zero, List.set_cons_succ]
  refine takeD 31 62 (.bool false) rfl rfl (by kernel_rfl) (by kernel_rfl) (by kernel_rfl) (fun _ _ _ _ h => h) (Or.inl ⟨by rfl, fun w hw => by go_simp⟩) hHeld ?_
  simp only [Act.put, List.setIfInBounds_toArray, List.set_cons_zero, List.set_cons_succ]
  refine takeD 32 63 (.bool false) rfl rfl (by kernel_rfl) (by kernel_rfl) (by kernel_rfl) (fun _ _ _ _ h => h) (Or.inl ⟨by rfl, fun w hw => by go_simp⟩) hHeld ?_
  simp only [Act.put, List.setIfInBounds_toArray, List.set_cons_zero, List.set_cons_succ]
  refine wpAnyH_done (by kernel_rfl) ?_ _
  have HFL : Hid ((fpart b p n).length = n) := Lib.hid (by have := HPN.out; simp [fpart, HB.out]; omega)
  obtain ⟨q, cc, hvc⟩ := (own_toV HO.out).shape
  rw [bl_length, HFL.out] at hvc
  subst hvc
  obtain ⟨pv, cv, hvv⟩ := HVV.out.1.shape
  rw [bl_length] at hvv
  subst hvv
  obtain ⟨m, hm⟩ : ∃ m, vs.length = m := ⟨_, rfl⟩
  have HM := Lib.hid hm
  rw [hm]
  have HV0 : Hid (SlV w (.slice pv m cv) (bl vs)) := Lib.hid (by rw [← hm]; exact HVV.out.1)
  clear hm
  have HO6 : Hid (w6.ownsRow w1.heap.size 5 1 (.slice q n cc) n (bl (fpart b p n))) := Lib.hid (own_stays HO.out (fun k hk => (B6.out.block k (own_lt HO.out k hk).2)))
  have T6 : Hid (Below w.heap.size w w6) := Lib.hid (B2.out.trans (show Below w.heap.size w2 w6 from (((Below.refl w.heap.size w2).drew).trans (B6.out.mono B2.out.size))))
  have S1 : Hid (w.heap.size + 1 < w1.heap.size) := Lib.hid G1.out.lt
  clear HEQ G2d G3 G4 G5 R3 R4 R5 B3 B4 B5 z2 z3 z4 z5 z6 hs39 hHeld
  go_wp2_with fail
  go_loopw [66] (fun i wr => XLoop w1.heap.size w6 (.slice q n cc) n i wr) (fun i _ => n - (intOf i).toNat)
  case atStart => exact ⟨0, by omega, rfl, Below.refl _ _, bl (fpart b p n), by rw [bl_length, HFL.out], (fun v hv => by simp only [bl, List.mem_map] at hv; obtain ⟨a, _, rfl⟩ := hv; exact ⟨_, rfl⟩), HO6.out⟩
  case round =>
    obtain ⟨j, hj, rfl, hbw, L, hL, hall, hown⟩ := hrel
    have HBW := Lib.hid hbw
    by_cases hlt : j < n
    · obtain ⟨g, cap, hq, hge, hgl, _, _, hcells, hfroz, hset⟩ := own_spot hown (by omega)
      obtain ⟨hq1, -, hq2⟩ := Value.slice.inj hq
      subst hq1 hq2
      have hjL : j < L.length := by omega
      obtain ⟨y, hy⟩ := hall L[j] (List.getElem_mem hjL)
      have hc := hcells j (.int .u8 y) (by rw [List.getElem?_eq_getElem hjL, hy])
      have hf := hfroz j
      have hjI : (j : Int) < (n : Int) := by omega
      have HS := Lib.hid (fun x => hset j x hlt)
      have HLL := Lib.hid hL
      have HALL := Lib.hid hall
      have HGE := Lib.hid hge
      have HJ := Lib.hid hlt
      clear hcells hfroz hset hL hall hown hge hgl hq hy hjL hbw hj hlt
      go_wp2_with fail
      exact ⟨⟨j + 1, by have := HJ.out; omega, by go_num, HBW.out.setCell HGE.out _, L.set j _, by rw [List.length_set]; exact HLL.out, (fun v hv => by rcases List.mem_or_eq_of_mem_set hv with h | h; (exact HALL.out v h); (exact ⟨_, h⟩)), HS.out _⟩, by have := HJ.out; simp [intOf]; omega⟩
    · obtain rfl : n = j := by omega
      have G7 : Hid (BlkAt wr (w.heap.size + 1) b) := Lib.hid (G6.out.below hbw S1.out)
      have R7 : Hid (wr.heap[w.heap.size]? = some (.cells (bl b).toArray 39 (0, 0))) := Lib.hid ((hbw.block _ (by have := S1.out; omega)).trans R6.out)
      have T7 : Hid (Below w.heap.size w wr) := Lib.hid (T6.out.trans (hbw.mono (by have := S1.out; omega)))
      have HSET := Lib.hid (set_any wr (w.heap.size + 1) b G7.out x HXL.out p n HP.out (.slice pv m cv) vs (HV0.out.below T7.out (Nat.le_refl _)) HVV.out.2)
      have HZ39 : Hid (Tryd.zeroCells39.size = (bl b).toArray.size) := Lib.hid (by rw [zero39]; simp [HB.out])
      have hslp : ∀ g w', (Instr.sliceAt 39 (.pointer (some ⟨g, 0, none⟩)) (some (.int .i64 (p : Int))) none none).run Tryd.prog w' = .ok (.slice (some ⟨g, p, none⟩) (512 - p) (512 - p)) w' := fun g w' => slice_l (t := 39) Tryd.underlying39 arr39 elm39 g p (by have := HPN.out; omega) w'
      clear hbw hall hown hL hj hlt hsl HO6 HO
      by_cases hcn : 0 < n ∧ vs.length = n
      · skip
        have hS : (setF b p vs).length = 512 := (by rw [setF_length b p vs (by have := HPN.out; have := HM.out; have := hcn.2; rw [HB.out]; omega)]; exact HB.out)
        have I40S := Lib.hid (bl_size (setF b p vs) hS)
        have I39S := Lib.hid (bl_size39 (setF b p vs) hS)
        have hes : ∀ w, (Op.equalIn 10000 40 (.agg (bl (setF b p vs)).toArray) (.agg (bl (setF b p vs)).toArray)).run Tryd.prog w = .ok true w := fun w => by rw [same512 (setF b p vs) (setF b p vs) hS hS w]; simp
        have HCN := Lib.hid hcn
        have hmn : m = n := by have := HM.out; have := hcn.2; omega
        have hn0 : decide (0 < n) = true := decide_eq_true hcn.1
        subst hmn
        have HST8 := Lib.hid hS
        clear hcn hS
        go_wp2_with (first
          | ((with_reducible refine HSET.out.mono ?_); rintro e w8 ⟨h1, _⟩; obtain ⟨rfl, hb8, ho8⟩ := h1 HCN.out; have T8 : Hid (Below w.heap.size w w8) := Lib.hid (T7.out.trans (ho8.below T7.out.size (fun k hk => by rw [hk]; exact Nat.le_succ _))); have G8 : Hid (BlkAt w8 (w.heap.size + 1) (setF b p vs)) := Lib.hid hb8; have R8 : Hid (w8.heap[w.heap.size]? = some (.cells (bl b).toArray 39 (0, 0))) := Lib.hid ((ho8.block _ (by have := G7.out.lt; omega) (by omega)).trans R7.out); clear h1 hb8 ho8)
          | (refine wpList_load_row rfl 39 _ rfl w.heap.size rfl 39 (bl b).toArray (0, 0) _ R8.out Tryd.underlying39 rfl HI0.out ?_)
          | (refine wpList_store_row rfl 39 _ _ rfl w8.heap.size (bl b).toArray rfl rfl 39 _ (heap_alloc_new w8 _) HI0.out HZ39.out H1.out ?_; obtain ⟨WZ, hWZ⟩ : ∃ x, (w8.alloc (.cells Tryd.zeroCells39 39)).setRow w8.heap.size (bl b).toArray = x := ⟨_, rfl⟩; rw [hWZ]; have NZ : Hid (WZ.heap[w8.heap.size]? = some (.cells (bl b).toArray 39 (0, 0))) := Lib.hid (by rw [← hWZ]; exact setRow_heap _ _ _ _ _ _ (heap_alloc_new w8 _)); have BZ : Hid (Below w8.heap.size w8 WZ) := Lib.hid (by rw [← hWZ]; exact below_setRow ((Below.refl _ _).alloc (Nat.le_refl _) _) (Nat.le_refl _) _); clear hWZ; have GZ : Hid (BlkAt WZ (w.heap.size + 1) (setF b p vs)) := Lib.hid (G8.out.below BZ.out G8.out.lt); have TZ : Hid (Below w.heap.size w WZ) := Lib.hid (T8.out.trans (BZ.out.mono T8.out.size)))
          | (refine wpList_copy_39 rfl (.tmp 89) (.tmp 90) rfl w8.heap.size p (512 - p) b HB.out NZ.out (.slice pv m cv) vs (HV0.out.below TZ.out (Nat.le_refl _)) (by have := HPN.out; omega) (by have := HPN.out; have := HM.out; omega) (by have := HCN.out; omega) (512 - p) rfl rfl ?_; intro w9 r9 hn9 ho9; have N9 := Lib.hid hn9; have G9 : Hid (BlkAt w9 (w.heap.size + 1) (setF b p vs)) := Lib.hid (GZ.out.only ho9 (by have := G8.out.lt; omega)); have T9 : Hid (Below w.heap.size w w9) := Lib.hid (TZ.out.trans (ho9.below TZ.out.size (fun k hk => by rw [hk]; exact T8.out.size))); clear hn9 ho9; simp only [Act.put, Array.setIfInBounds])
          | (refine wpList_load_row rfl 40 _ rfl (w.heap.size + 1) rfl 40 (bl (setF b p vs)).toArray (0, 0) _ G9.out.row Tryd.underlying40 rfl I40S.out ?_)
          | (refine wpList_load_row rfl 39 _ rfl w8.heap.size rfl 39 (bl (setF b p vs)).toArray (0, 0) _ N9.out Tryd.underlying39 rfl I39S.out ?_)
          | ((with_reducible refine (wakes_walk _ (HT.out.below T9.out (Nat.le_refl _))).mono ?_); rintro e w10 ⟨rfl, b10⟩; have T10 : Hid (Below w.heap.size w w10) := Lib.hid (T9.out.trans (b10.mono T9.out.size)); clear b10))
        go_ret
        exact ⟨rfl, T10.out⟩
      · skip
        have hS : b.length = 512 := HB.out
        have I40S := Lib.hid (bl_size b hS)
        have I39S := Lib.hid (bl_size39 b hS)
        have hes : ∀ w, (Op.equalIn 10000 40 (.agg (bl b).toArray) (.agg (bl b).toArray)).run Tryd.prog w = .ok true w := fun w => by rw [same512 b b hS hS w]; simp
        have HCN := Lib.hid hcn
        clear hcn hS
        have hcond : (decide (0 < n) = false) ∨ (decide (0 < n) = true ∧ ((m : Int) == (n : Int)) = false) := by
          by_cases h0 : 0 < n
          · exact .inr ⟨decide_eq_true h0, by rw [beq_eq_false_iff_ne]; have := HCN.out; have := HM.out; omega⟩
          · exact .inl (decide_eq_false h0)
        rcases hcond with hn0 | ⟨hn0, hmn⟩
        all_goals
          go_wp2_with (first
            | ((with_reducible refine HSET.out.mono ?_); rintro e w8 ⟨_, h1⟩; obtain ⟨rfl, hb8⟩ := h1 HCN.out; have T8 : Hid (Below w.heap.size w w8) := Lib.hid (T7.out.trans (hb8.mono T7.out.size)); have G8 : Hid (BlkAt w8 (w.heap.size + 1) b) := Lib.hid (G7.out.below hb8 G7.out.lt); have R8 : Hid (w8.heap[w.heap.size]? = some (.cells (bl b).toArray 39 (0, 0))) := Lib.hid ((hb8.block _ (by have := G7.out.lt; omega)).trans R7.out); clear h1 hb8)
            | (refine wpList_load_row rfl 39 _ rfl w.heap.size rfl 39 (bl b).toArray (0, 0) _ R8.out Tryd.underlying39 rfl HI0.out ?_)
            | (refine wpList_store_row rfl 39 _ _ rfl w8.heap.size (bl b).toArray rfl rfl 39 _ (heap_alloc_new w8 _) HI0.out HZ39.out H1.out ?_; obtain ⟨WZ, hWZ⟩ : ∃ x, (w8.alloc (.cells Tryd.zeroCells39 39)).setRow w8.heap.size (bl b).toArray = x := ⟨_, rfl⟩; rw [hWZ]; have NZ : Hid (WZ.heap[w8.heap.size]? = some (.cells (bl b).toArray 39 (0, 0))) := Lib.hid (by rw [← hWZ]; exact setRow_heap _ _ _ _ _ _ (heap_alloc_new w8 _)); have BZ : Hid (Below w8.heap.size w8 WZ) := Lib.hid (by rw [← hWZ]; exact below_setRow ((Below.refl _ _).alloc (Nat.le_refl _) _) (Nat.le_refl _) _); clear hWZ; have GZ : Hid (BlkAt WZ (w.heap.size + 1) b) := Lib.hid (G8.out.below BZ.out G8.out.lt); have TZ : Hid (Below w.heap.size w WZ) := Lib.hid (T8.out.trans (BZ.out.mono T8.out.size)))
            | (refine wpList_load_row rfl 40 _ rfl (w.heap.size + 1) rfl 40 (bl b).toArray (0, 0) _ GZ.out.row Tryd.underlying40 rfl I40S.out ?_)
            | (refine wpList_load_row rfl 39 _ rfl w8.heap.size rfl 39 (bl b).toArray (0, 0) _ NZ.out Tryd.underlying39 rfl I39S.out ?_)
            | ((with_reducible refine (wakes_walk _ (HT.out.below TZ.out (Nat.le_refl _))).mono ?_); rintro e w10 ⟨rfl, b10⟩; have T10 : Hid (Below w.heap.size w w10) := Lib.hid (TZ.out.trans (b10.mono TZ.out.size)); clear b10))
          go_ret
          exact ⟨rfl, T10.out⟩
end Go.Proofs.YtkkelmlkpehcpaaDoor
