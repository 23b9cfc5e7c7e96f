/-
  The contract of (*sha.State).press: one block of 64 bytes is worked into the hash.
-/
import Derived.Test.YtdkajbhhmgmohaaDoorSched
import Derived.Deep.WholeRow
namespace Go.Proofs.YtdkajbhhmgmohaaDoor
open Go.RowKit Sha

/-- Nothing but block g has turned below the heap's end. -/
structure Only (g : Nat) (w w' : World) : Prop where
  os : w'.os = w.os
  tape : w'.tape = w.tape
  output : w'.output = w.output
  size : w.heap.size ≤ w'.heap.size
  block : ∀ k, k < w.heap.size → k ≠ g → w'.heap[k]? = w.heap[k]?
theorem Only.refl (g : Nat) (w : World) : Only g w w := ⟨rfl, rfl, rfl, Nat.le_refl _, fun _ _ _ => rfl⟩
theorem Only.trans {g : Nat} {a b c : World} (h : Only g a b) (k : Only g b c) : Only g a c :=
  ⟨k.os.trans h.os, k.tape.trans h.tape, k.output.trans h.output, Nat.le_trans h.size k.size, fun i hi hne => (k.block i (Nat.lt_of_lt_of_le hi h.size) hne).trans (h.block i hi hne)⟩
theorem Only.of_below {g : Nat} {a b : World} (h : Below a.heap.size a b) : Only g a b := ⟨h.os, h.tape, h.output, h.size, fun i hi _ => h.block i hi⟩
theorem Only.drewN {g : Nat} {a b : World} (h : Only g a b) (n : Nat) : Only g a (b.drewN n) := ⟨h.os, h.tape, h.output, h.size, h.block⟩
theorem Only.drew {g : Nat} {a b : World} (h : Only g a b) : Only g a b.drew := ⟨h.os, h.tape, h.output, h.size, h.block⟩
theorem Only.setCell {g : Nat} {a b : World} (h : Only g a b) (o : Nat) (v : Value) : Only g a (b.setCell ⟨g, o, none⟩ v) :=
  h.trans ⟨rfl, rfl, rfl, by simp [World.setCell], fun _ _ hne => heap_setCell_other _ _ _ _ hne⟩
theorem Only.alloc {g : Nat} {a b : World} (h : Only g a b) (o : Obj) : Only g a (b.alloc o) :=
  h.trans ⟨rfl, rfl, rfl, by simp, fun _ hk _ => Below.heap_alloc _ _ _ hk⟩

/-- K0 to K63 where the program keeps them. -/
def KAt (w : World) : Prop := ∀ i, i < 64 → w.cell? ⟨2, i, none⟩ = some (.int .u32 (iv (kl.getD i 0#32)))

theorem stc_set1 (mk : Bool) (s : St) (rest : List UInt8) (n : Nat) (x : W) : (stc mk s rest n).setIfInBounds 1 (.int .u32 (iv x)) = stc mk { s with a := x } rest n := by
  unfold stc
  rw [Array.append_assoc, Array.setIfInBounds_append_left (by simp), Array.append_assoc]
  rfl
theorem stc_set2 (mk : Bool) (s : St) (rest : List UInt8) (n : Nat) (x : W) : (stc mk s rest n).setIfInBounds 2 (.int .u32 (iv x)) = stc mk { s with b := x } rest n := by
  unfold stc
  rw [Array.append_assoc, Array.setIfInBounds_append_left (by simp), Array.append_assoc]
  rfl
theorem stc_set3 (mk : Bool) (s : St) (rest : List UInt8) (n : Nat) (x : W) : (stc mk s rest n).setIfInBounds 3 (.int .u32 (iv x)) = stc mk { s with c := x } rest n := by
  unfold stc
  rw [Array.append_assoc, Array.setIfInBounds_append_left (by simp), Array.append_assoc]
  rfl
theorem stc_set4 (mk : Bool) (s : St) (rest : List UInt8) (n : Nat) (x : W) : (stc mk s rest n).setIfInBounds 4 (.int .u32 (iv x)) = stc mk { s with d := x } rest n := by
  unfold stc
  rw [Array.append_assoc, Array.setIfInBounds_append_left (by simp), Array.append_assoc]
  rfl
theorem stc_set5 (mk : Bool) (s : St) (rest : List UInt8) (n : Nat) (x : W) : (stc mk s rest n).setIfInBounds 5 (.int .u32 (iv x)) = stc mk { s with e := x } rest n := by
  unfold stc
  rw [Array.append_assoc, Array.setIfInBounds_append_left (by simp), Array.append_assoc]
  rfl
theorem stc_set6 (mk : Bool) (s : St) (rest : List UInt8) (n : Nat) (x : W) : (stc mk s rest n).setIfInBounds 6 (.int .u32 (iv x)) = stc mk { s with f := x } rest n := by
  unfold stc
  rw [Array.append_assoc, Array.setIfInBounds_append_left (by simp), Array.append_assoc]
  rfl
theorem stc_set7 (mk : Bool) (s : St) (rest : List UInt8) (n : Nat) (x : W) : (stc mk s rest n).setIfInBounds 7 (.int .u32 (iv x)) = stc mk { s with g := x } rest n := by
  unfold stc
  rw [Array.append_assoc, Array.setIfInBounds_append_left (by simp), Array.append_assoc]
  rfl
theorem stc_set8 (mk : Bool) (s : St) (rest : List UInt8) (n : Nat) (x : W) : (stc mk s rest n).setIfInBounds 8 (.int .u32 (iv x)) = stc mk { s with h := x } rest n := by
  unfold stc
  rw [Array.append_assoc, Array.setIfInBounds_append_left (by simp), Array.append_assoc]
  rfl
theorem wp_still_tail {P : Program} {id : Nat} {Q : Exit → Act → World → Prop} {a : Act} {w : World} {l : List Oper} (n : Nat) (hm : P.follows .mixedOrders = true) (hB : Region.lexTailB .any l.toArray n = true)
    (h : wpStill P l.toArray w.drew (fun a' => wpList P l.toArray Q (l.drop n) a' w.drew) (l.take n) a) : (Code.region id l.toArray true).wp P Q a w := wp_region_still_tail n hm hB h
theorem wp_still {P : Program} {id : Nat} {Q : Exit → Act → World → Prop} {a : Act} {w : World} {l : List Oper} (hm : P.follows .mixedOrders = true) (hB : Region.lexB .any l.toArray = true)
    (h : wpStill P l.toArray w.drew (fun a' => Q .normal a' w.drew) l a) : (Code.region id l.toArray true).wp P Q a w := wp_region_still_lit hm hB h
def Drawn (w w' : World) : Prop := ∃ n, w' = w.drewN n
theorem Drawn.refl (w : World) : Drawn w w := ⟨0, rfl⟩
theorem Drawn.drewN {w w' : World} (h : Drawn w w') (n : Nat) : Drawn w (w'.drewN n) := by
  obtain ⟨m, rfl⟩ := h
  exact ⟨m + n, by simp [World.drewN, Nat.add_assoc]⟩
theorem Drawn.drew {w w' : World} (h : Drawn w w') : Drawn w w'.drew := h.drewN 1
theorem Drawn.heap {w w' : World} (h : Drawn w w') : w'.heap = w.heap := by
  obtain ⟨m, rfl⟩ := h; rfl
theorem Drawn.cell {w w' : World} (h : Drawn w w') (a : Addr) : w'.cell? a = w.cell? a := by
  obtain ⟨m, rfl⟩ := h; rfl
theorem bS1_still (X : W) (w : World) : Calls Tryd.prog 71 #[.int .u32 (iv X)] w fun e w' => e = .returned (.int .u32 (iv (bS1 X))) ∧ w' = w := (bS1_iv X w).mono fun _ _ ⟨h, k⟩ => ⟨h, k.symm⟩

set_option maxRecDepth 100000 in
set_option maxHeartbeats 2000000 in
theorem press_walk (gs g o cap T : Nat) (mk : Bool) (s : St) (rest : List UInt8) (n : Nat) (bs : List UInt8) (w : World) (hb : bs.length = 64) (hc : 64 ≤ cap) (hB : BytesAt w g o bs)
    (hS : w.heap[gs]? = some (.cells (stc mk s rest n) T (0, 0))) (hK : KAt w) :
    Calls Tryd.prog 53 #[.pointer (some ⟨gs, 0, none⟩), .slice (some ⟨g, o, none⟩) 64 cap] w fun e w' => e = .returned (.tuple #[]) ∧ Only gs w w' ∧ w'.heap[gs]? = some (.cells (stc mk (compress s bs) rest n) T (0, 0)) := by
  have HS := Lib.hid hS
  have HB := Lib.hid hb
  clear hS hb
  go_enter Tryd.func53, Tryd.ntmps53
  go_wp2_with fail
  refine (sched_walk g o cap bs _ HB.out hc hB).mono ?_
  rintro e w1 ⟨rfl, hb1⟩
  have hi : (Tryd.prog.info? 59).map (·.size) = some (wcells (sched bs)).size := by rw [wcells_size, sched, schedL_length]; kernel_rfl
  go_wp2_with (refine wpList_store_row rfl 59 _ _ rfl w1.heap.size (wcells (sched bs)) rfl rfl 59 _ (heap_alloc_new _ _) hi (by rw [wcells_size, sched, schedL_length]; rfl) (wcells_one _) ?_)
  rw [World.setRow_alloc_new]
  go_frame
  generalize hw2 : World.alloc w1 _ = w2
  have hg := HB.out
  have hS1 : w1.heap[gs]? = some (.cells (stc mk s rest n) T (0, 0)) := by rw [hb1.block gs (by exact (Array.getElem?_eq_some_iff.1 HS.out).1)]; exact HS.out
  have hS2 : w2.heap[gs]? = some (.cells (stc mk s rest n) T (0, 0)) := by rw [← hw2, Below.heap_alloc _ _ _ (Array.getElem?_eq_some_iff.1 hS1).1]; exact hS1
  have hO : Only gs w w2 := by rw [← hw2]; exact (Only.of_below hb1).alloc _
  have hK2 : KAt w2 := fun i hi => by
    have h0 := hK i hi
    have h1 := block_lt_of_cell h0
    have : w1.cell? ⟨2, i, none⟩ = some (.int .u32 (iv (kl.getD i 0#32))) := by rw [hb1.cell (p := ⟨2, i, none⟩) h1]; exact h0
    rw [← hw2]
    rw [World.cell?_of_block (w := w1) (Below.heap_alloc _ _ _ (block_lt_of_cell this))]; exact this
  have hW2 : ∀ i, i < 64 → w2.cell? ⟨w1.heap.size, i, none⟩ = some (.int .u32 (iv ((sched bs).getD i 0#32))) := fun i hi => by
    rw [← hw2, cell_of_row _ _ _ _ _ _ (heap_alloc_new _ _), wcells_at _ _ (by rw [sched, schedL_length]; exact hi)]
  have HW := Lib.hid hW2
  generalize w1.heap.size = gw at *
  clear hS1 hw2 hb1 hg hi hW2
  have ca := (cell_of_row w2 gs 1 _ _ _ hS2).trans (stc_low mk s rest n 1 (by omega))
  have cb := (cell_of_row w2 gs 2 _ _ _ hS2).trans (stc_low mk s rest n 2 (by omega))
  have cc := (cell_of_row w2 gs 3 _ _ _ hS2).trans (stc_low mk s rest n 3 (by omega))
  have cd := (cell_of_row w2 gs 4 _ _ _ hS2).trans (stc_low mk s rest n 4 (by omega))
  have ce := (cell_of_row w2 gs 5 _ _ _ hS2).trans (stc_low mk s rest n 5 (by omega))
  have cf := (cell_of_row w2 gs 6 _ _ _ hS2).trans (stc_low mk s rest n 6 (by omega))
  have cg := (cell_of_row w2 gs 7 _ _ _ hS2).trans (stc_low mk s rest n 7 (by omega))
  have ch := (cell_of_row w2 gs 8 _ _ _ hS2).trans (stc_low mk s rest n 8 (by omega))
  replace ca : w2.cell? ⟨gs, 1, none⟩ = some (.int .u32 (iv s.a)) := ca
  replace cb : w2.cell? ⟨gs, 2, none⟩ = some (.int .u32 (iv s.b)) := cb
  replace cc : w2.cell? ⟨gs, 3, none⟩ = some (.int .u32 (iv s.c)) := cc
  replace cd : w2.cell? ⟨gs, 4, none⟩ = some (.int .u32 (iv s.d)) := cd
  replace ce : w2.cell? ⟨gs, 5, none⟩ = some (.int .u32 (iv s.e)) := ce
  replace cf : w2.cell? ⟨gs, 6, none⟩ = some (.int .u32 (iv s.f)) := cf
  replace cg : w2.cell? ⟨gs, 7, none⟩ = some (.int .u32 (iv s.g)) := cg
  replace ch : w2.cell? ⟨gs, 8, none⟩ = some (.int .u32 (iv s.h)) := ch
  have HS2 := Lib.hid hS2
  clear hS2 HS
  go_quiet (fail)
  go_wp2_with fail
  go_quiet (fail)
  go_wp2_with fail
  go_loopw [5, 6, 7, 8, 9, 10, 11, 12, 58] (fun va vb vc vd ve vf vg vh i wr => ∃ k : Nat, k ≤ 64 ∧ i = .int .i64 k ∧ va = .int .u32 (iv (rnds kl (sched bs) s k).a) ∧ vb = .int .u32 (iv (rnds kl (sched bs) s k).b) ∧ vc = .int .u32 (iv (rnds kl (sched bs) s k).c) ∧ vd = .int .u32 (iv (rnds kl (sched bs) s k).d) ∧ ve = .int .u32 (iv (rnds kl (sched bs) s k).e) ∧ vf = .int .u32 (iv (rnds kl (sched bs) s k).f) ∧ vg = .int .u32 (iv (rnds kl (sched bs) s k).g) ∧ vh = .int .u32 (iv (rnds kl (sched bs) s k).h) ∧ Drawn w2 wr) (fun _ _ _ _ _ _ _ _ i _ => 64 - (intOf i).toNat)
  case atStart => exact ⟨0, by omega, rfl, rfl, rfl, rfl, rfl, rfl, rfl, rfl, rfl, (Drawn.refl _).drewN _ |>.drewN _⟩
  case round =>
    obtain ⟨k, hk, rfl, rfl, rfl, rfl, rfl, rfl, rfl, rfl, rfl, hd⟩ := hrel
    by_cases hlt : k < 64
    · have hw := HW.out k hlt
      have hkk := hK2 k hlt
      rw [← hd.cell] at hw hkk
      have HE : Hid (rnds kl (sched bs) s (k + 1) = rnd (rnds kl (sched bs) s k) (kl.getD k 0#32) ((sched bs).getD k 0#32)) := rfl
      clear ca cb cc cd ce cf cg ch
      generalize rnds kl (sched bs) s k = q at *
      have hlt' : (k : Int) < 64 := by omega
      go_wp2_with fail
      refine wp_region_still_lit (by kernel_rfl) (by kernel_rfl) ?_
      change wpStill _ _ wr.drew (fun a' => _) _ _
      repeat (first | still_step | still_call (bS1_still _ _))
      refine wpStill_nil ?_
      show Exit.then _ _ _ _ wr.drew
      go_wp2_with (go_at_call 72; refine (bS0_iv _ _).mono ?_; rintro e w' ⟨rfl, rfl⟩)
      refine ⟨⟨k + 1, by omega, by go_num, ?_⟩, by simp [intOf]; omega⟩
      rw [HE.out]
      exact ⟨rfl, rfl, rfl, rfl, rfl, rfl, rfl, rfl, hd.drew⟩
    · have : k = 64 := by omega
      subst this
      have HR0 : Hid (wr.heap[gs]? = some (.cells (stc mk s rest n) T (0, 0))) := by rw [hd.heap]; exact HS2.out
      have HP0 : Hid (Only gs w wr) := by obtain ⟨m, rfl⟩ := hd; exact hO.drewN m
      have HE : Hid (compress s bs = s.plus (rnds kl (sched bs) s 64)) := Lib.hid rfl
      generalize rnds kl (sched bs) s 64 = q at *
      clear HS2 HW hK hB hO hd hK2 ca cb cc cd ce cf cg ch hlt hk HB hc
      have c1 : wr.cell? ⟨gs, 1, none⟩ = some (.int .u32 (iv s.a)) := (cell_of_row wr gs 1 _ _ _ HR0.out).trans (stc_low _ _ _ _ 1 (by omega))
      have f1 : wr.frozen? ⟨gs, 1, none⟩ = false := frozen_of_row _ _ _ _ _ HR0.out
      go_wp2_with fail
      go_region
      go_wp2_with fail
      generalize hw1 : World.drew (World.setCell wr ⟨gs, 1, none⟩ (.int .u32 (iv (s.a + q.a)))) = v1
      have HR1 : Hid (v1.heap[gs]? = some (.cells (stc mk ⟨s.a + q.a, s.b, s.c, s.d, s.e, s.f, s.g, s.h⟩ rest n) T (0, 0))) := by rw [← hw1]; exact (heap_setCell_same _ _ _ _ _ _ HR0.out).trans (by rw [stc_set1])
      have HP1 : Hid (Only gs w v1) := by rw [← hw1]; exact (HP0.out.setCell _ _).drew
      clear c1 f1 hw1 HR0 HP0
      have c2 : v1.cell? ⟨gs, 2, none⟩ = some (.int .u32 (iv s.b)) := (cell_of_row v1 gs 2 _ _ _ HR1.out).trans (stc_low _ _ _ _ 2 (by omega))
      have f2 : v1.frozen? ⟨gs, 2, none⟩ = false := frozen_of_row _ _ _ _ _ HR1.out
      go_region
      go_wp2_with fail
      generalize hw2 : World.drew (World.setCell v1 ⟨gs, 2, none⟩ (.int .u32 (iv (s.b + q.b)))) = v2
      have HR2 : Hid (v2.heap[gs]? = some (.cells (stc mk ⟨s.a + q.a, s.b + q.b, s.c, s.d, s.e, s.f, s.g, s.h⟩ rest n) T (0, 0))) := by rw [← hw2]; exact (heap_setCell_same _ _ _ _ _ _ HR1.out).trans (by rw [stc_set2])
      have HP2 : Hid (Only gs w v2) := by rw [← hw2]; exact (HP1.out.setCell _ _).drew
      clear c2 f2 hw2 HR1 HP1
      clear v1
      have c3 : v2.cell? ⟨gs, 3, none⟩ = some (.int .u32 (iv s.c)) := (cell_of_row v2 gs 3 _ _ _ HR2.out).trans (stc_low _ _ _ _ 3 (by omega))
      have f3 : v2.frozen? ⟨gs, 3, none⟩ = false := frozen_of_row _ _ _ _ _ HR2.out
      go_region
      go_wp2_with fail
      generalize hw3 : World.drew (World.setCell v2 ⟨gs, 3, none⟩ (.int .u32 (iv (s.c + q.c)))) = v3
      have HR3 : Hid (v3.heap[gs]? = some (.cells (stc mk ⟨s.a + q.a, s.b + q.b, s.c + q.c, s.d, s.e, s.f, s.g, s.h⟩ rest n) T (0, 0))) := by rw [← hw3]; exact (heap_setCell_same _ _ _ _ _ _ HR2.out).trans (by rw [stc_set3])
      have HP3 : Hid (Only gs w v3) := by rw [← hw3]; exact (HP2.out.setCell _ _).drew
      clear c3 f3 hw3 HR2 HP2
      clear v2
      have c4 : v3.cell? ⟨gs, 4, none⟩ = some (.int .u32 (iv s.d)) := (cell_of_row v3 gs 4 _ _ _ HR3.out).trans (stc_low _ _ _ _ 4 (by omega))
      have f4 : v3.frozen? ⟨gs, 4, none⟩ = false := frozen_of_row _ _ _ _ _ HR3.out
      go_region
      go_wp2_with fail
      generalize hw4 : World.drew (World.setCell v3 ⟨gs, 4, none⟩ (.int .u32 (iv (s.d + q.d)))) = v4
      have HR4 : Hid (v4.heap[gs]? = some (.cells (stc mk ⟨s.a + q.a, s.b + q.b, s.c + q.c, s.d + q.d, s.e, s.f, s.g, s.h⟩ rest n) T (0, 0))) := by rw [← hw4]; exact (heap_setCell_same _ _ _ _ _ _ HR3.out).trans (by rw [stc_set4])
      have HP4 : Hid (Only gs w v4) := by rw [← hw4]; exact (HP3.out.setCell _ _).drew
      clear c4 f4 hw4 HR3 HP3
      clear v3
      have c5 : v4.cell? ⟨gs, 5, none⟩ = some (.int .u32 (iv s.e)) := (cell_of_row v4 gs 5 _ _ _ HR4.out).trans (stc_low _ _ _ _ 5 (by omega))
      have f5 : v4.frozen? ⟨gs, 5, none⟩ = false := frozen_of_row _ _ _ _ _ HR4.out
      go_region
      go_wp2_with fail
      generalize hw5 : World.drew (World.setCell v4 ⟨gs, 5, none⟩ (.int .u32 (iv (s.e + q.e)))) = v5
      have HR5 : Hid (v5.heap[gs]? = some (.cells (stc mk ⟨s.a + q.a, s.b + q.b, s.c + q.c, s.d + q.d, s.e + q.e, s.f, s.g, s.h⟩ rest n) T (0, 0))) := by rw [← hw5]; exact (heap_setCell_same _ _ _ _ _ _ HR4.out).trans (by rw [stc_set5])
      have HP5 : Hid (Only gs w v5) := by rw [← hw5]; exact (HP4.out.setCell _ _).drew
      clear c5 f5 hw5 HR4 HP4
      clear v4
      have c6 : v5.cell? ⟨gs, 6, none⟩ = some (.int .u32 (iv s.f)) := (cell_of_row v5 gs 6 _ _ _ HR5.out).trans (stc_low _ _ _ _ 6 (by omega))
      have f6 : v5.frozen? ⟨gs, 6, none⟩ = false := frozen_of_row _ _ _ _ _ HR5.out
      go_region
      go_wp2_with fail
      generalize hw6 : World.drew (World.setCell v5 ⟨gs, 6, none⟩ (.int .u32 (iv (s.f + q.f)))) = v6
      have HR6 : Hid (v6.heap[gs]? = some (.cells (stc mk ⟨s.a + q.a, s.b + q.b, s.c + q.c, s.d + q.d, s.e + q.e, s.f + q.f, s.g, s.h⟩ rest n) T (0, 0))) := by rw [← hw6]; exact (heap_setCell_same _ _ _ _ _ _ HR5.out).trans (by rw [stc_set6])
      have HP6 : Hid (Only gs w v6) := by rw [← hw6]; exact (HP5.out.setCell _ _).drew
      clear c6 f6 hw6 HR5 HP5
      clear v5
      have c7 : v6.cell? ⟨gs, 7, none⟩ = some (.int .u32 (iv s.g)) := (cell_of_row v6 gs 7 _ _ _ HR6.out).trans (stc_low _ _ _ _ 7 (by omega))
      have f7 : v6.frozen? ⟨gs, 7, none⟩ = false := frozen_of_row _ _ _ _ _ HR6.out
      go_region
      go_wp2_with fail
      generalize hw7 : World.drew (World.setCell v6 ⟨gs, 7, none⟩ (.int .u32 (iv (s.g + q.g)))) = v7
      have HR7 : Hid (v7.heap[gs]? = some (.cells (stc mk ⟨s.a + q.a, s.b + q.b, s.c + q.c, s.d + q.d, s.e + q.e, s.f + q.f, s.g + q.g, s.h⟩ rest n) T (0, 0))) := by rw [← hw7]; exact (heap_setCell_same _ _ _ _ _ _ HR6.out).trans (by rw [stc_set7])
      have HP7 : Hid (Only gs w v7) := by rw [← hw7]; exact (HP6.out.setCell _ _).drew
      clear c7 f7 hw7 HR6 HP6
      clear v6
      have c8 : v7.cell? ⟨gs, 8, none⟩ = some (.int .u32 (iv s.h)) := (cell_of_row v7 gs 8 _ _ _ HR7.out).trans (stc_low _ _ _ _ 8 (by omega))
      have f8 : v7.frozen? ⟨gs, 8, none⟩ = false := frozen_of_row _ _ _ _ _ HR7.out
      go_region
      go_wp2_with fail
      generalize hw8 : World.drew (World.setCell v7 ⟨gs, 8, none⟩ (.int .u32 (iv (s.h + q.h)))) = v8
      have HR8 : Hid (v8.heap[gs]? = some (.cells (stc mk ⟨s.a + q.a, s.b + q.b, s.c + q.c, s.d + q.d, s.e + q.e, s.f + q.f, s.g + q.g, s.h + q.h⟩ rest n) T (0, 0))) := by rw [← hw8]; exact (heap_setCell_same _ _ _ _ _ _ HR7.out).trans (by rw [stc_set8])
      have HP8 : Hid (Only gs w v8) := by rw [← hw8]; exact (HP7.out.setCell _ _).drew
      clear c8 f8 hw8 HR7 HP7
      clear v7
      go_end0
      rw [HE.out]
      exact ⟨rfl, HP8.out, HR8.out⟩
end Go.Proofs.YtdkajbhhmgmohaaDoor
