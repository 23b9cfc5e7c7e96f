/-
  The contracts of sha.New and (*sha.State).Sum.
-/
import Derived.Test.YtdkajbhhmgmohaaDoorDigest
namespace Go.Proofs.YtdkajbhhmgmohaaDoor
open Go.RowKit Sha

def z0 : St := ⟨0, 0, 0, 0, 0, 0, 0, 0⟩
/-- H0 to H7 where the program keeps them. -/
def HAt (w : World) : Prop := w.rangeAt 0 0 (hcells h0)
theorem built55 : Tryd.prog.built 55 [(0, .bool true), (1, .agg (hcells h0).toArray)] = some (stc true h0 (List.replicate 64 0) 0) := by kernel_rfl
theorem zero55 : (Tryd.prog.info? 55).map (fun i => (i.zero, i.size)) = some (some (.agg (stc false z0 (List.replicate 64 0) 0)), 74) := by kernel_rfl

set_option maxRecDepth 100000 in
set_option maxHeartbeats 400000 in
theorem usable_walk (gs T : Nat) (mk : Bool) (s : St) (rest : List UInt8) (n : Nat) (w : World) (hS : w.heap[gs]? = some (.cells (stc mk s rest n) T (0, 0))) :
    Calls Tryd.prog 33 #[.pointer (some ⟨gs, 0, none⟩)] w fun e w' => e = .returned (.bool mk) ∧ w = w' := by
  have c0 : w.cell? ⟨gs, 0, none⟩ = some (.bool mk) := (cell_of_row _ _ _ _ _ _ hS).trans (stc_low _ _ _ _ 0 (by omega))
  clear hS
  go_enter Tryd.func33, Tryd.ntmps33
  go_wp2_with fail
  go_ret
  exact ⟨rfl, rfl⟩

theorem newCells : List.foldl (fun (cs : Array Value) x => cs.setIfInBounds (1 + x.snd) x.fst) (Tryd.zeroCells55.setIfInBounds 0 (Value.bool true)) (hcells h0).zipIdx = stc true h0 (List.replicate 64 0) 0 := by kernel_rfl
set_option maxRecDepth 100000 in
set_option maxHeartbeats 400000 in
theorem new_walk (w : World) (hH : HAt w) :
    Calls Tryd.prog 17 #[] w fun e w' => e = .returned (.pointer (some ⟨w.heap.size, 0, none⟩)) ∧ w' = w.alloc (.cells (stc true h0 (List.replicate 64 0) 0) 55) := by
  go_enter Tryd.func17, Tryd.ntmps17
  go_wp2_with (refine wpList_load_mid rfl 52 _ rfl 0 0 rfl (hcells h0) _ hH Tryd.underlying52 rfl size52 ?_)
  go_ret
  exact ⟨rfl, by rw [newCells]⟩

/-- The digest of bytes. -/
def pad (msg : List UInt8) : List UInt8 := msg ++ endTo msg.length 8
def shaL (msg : List UInt8) : List UInt8 := dig (blocksTo h0 (pad msg) ((pad msg).length / 64))
theorem size55 : (Tryd.prog.info? 55).map (·.size) = some 74 := by kernel_rfl
theorem stc_one (mk : Bool) (s : St) (rest : List UInt8) (n : Nat) : (stc mk s rest n).all (·.oneCell') = true := by
  simp [stc, bcells, Value.oneCell']
def SumPost (msg : List UInt8) (w : World) (e : Ending) (w' : World) : Prop := e = .returned (.agg (bcells (shaL msg))) ∧ Below w.heap.size w w'
theorem Below.of_only {g : Nat} {w w' : World} {B : Nat} (h : Only g w w') (hB : B ≤ g) (hs : B ≤ w.heap.size) : Below B w w' :=
  ⟨h.os, h.tape, h.output, h.size, fun k hk => h.block k (by omega) (by omega)⟩

structure Prep (w w3 : World) (cs : Array Value) : Prop where
  below : Below w.heap.size w w3
  res : RowT 25 w3 w.heap.size (List.replicate 32 0)
  row : w3.heap[w.heap.size + 1]? = some (.cells cs 55 (0, 0))
  size : w3.heap.size = w.heap.size + 2
theorem wpList_store_rowX {w : World} {ops : Array Oper} {rest : List Oper} {o : Oper} {a : Act} {Q : Exit → Act → World → Prop} (hgd : o.guard = none) (ty : TypeId) (x y : Operand) (ho : o.op = .store ty x y)
    (g : Nat) (cells : Array Value) (hx : a.eval x = .pointer (some ⟨g, 0, none⟩)) (hy : a.eval y = .agg cells)
    (t : TypeId) (old : Array Value) (hg : w.heap[g]? = some (.cells old t (0, 0))) (hi : (Tryd.prog.info? ty).map (·.size) = some cells.size)
    (hold : old.size = cells.size) (h1 : cells.all (·.oneCell') = true)
    (h : ∀ w3, w3.heap[g]? = some (.cells cells t (0, 0)) → Only g w w3 → w3.heap.size = w.heap.size → wpList Tryd.prog ops Q rest (a.put o.dst undef) w3) : wpList Tryd.prog ops Q (o :: rest) a w :=
  wpList_store_row hgd ty x y ho g cells hx hy t old hg hi hold h1 (h _ (setRow_heap _ _ _ _ _ _ hg) (Only.setRow _ _ _) (by simp))
theorem prep {w w3 : World} {A B : Obj} {cs : Array Value} (hrow : w3.heap[w.heap.size + 1]? = some (.cells cs 55 (0, 0))) (h : Only (w.heap.size + 1) ((w.alloc A).alloc B) w3) (hs : w3.heap.size = ((w.alloc A).alloc B).heap.size)
    (hA : A = .cells (bcells (List.replicate 32 0)) 25 (0, 0)) : Prep w w3 cs := by
  subst hA
  refine ⟨(((Below.refl _ _).alloc (Nat.le_refl _) _).alloc (by simp) _).trans (Below.of_only h (Nat.le_succ _) (by simp; omega)), ?_, hrow, by simpa using hs⟩
  exact (h.block w.heap.size (by simp; omega) (by simp)).trans (heap_alloc2_old _ _ _)
theorem zc55 : Tryd.zeroCells55.size = 74 := by kernel_rfl

set_option maxRecDepth 100000 in
set_option maxHeartbeats 400000 in
theorem stsum_walk (gs T : Nat) (msg : List UInt8) (w : World) (hS : StAt gs T w msg) (hK : KAt w) (hlen : msg.length ≤ 549755813888) :
    Calls Tryd.prog 20 #[.pointer (some ⟨gs, 0, none⟩)] w (SumPost msg w) := by
  obtain ⟨s, rest, hM, hrow⟩ := hS
  have hg := (Array.getElem?_eq_some_iff.1 hrow).1
  have HR := Lib.hid hrow
  clear hrow
  go_enter Tryd.func20, Tryd.ntmps20
  go_wp2_with fail
  refine (usable_walk gs T true s rest msg.length _ ((Below.heap_alloc _ _ _ hg).trans HR.out)).mono ?_
  rintro e w' ⟨rfl, rfl⟩
  have HI : Hid ((Tryd.prog.info? 55).map (·.size) = some (stc true s rest msg.length).size) := Lib.hid (by rw [stc_size, hM.len]; exact size55)
  have HO : Hid (Tryd.zeroCells55.size = (stc true s rest msg.length).size) := Lib.hid (by rw [stc_size, hM.len, zc55])
  go_wp2_with (first | (refine wpList_load_row rfl 55 _ rfl gs rfl T (stc true s rest msg.length) (0, 0) _ ((Below.heap_alloc _ _ _ hg).trans HR.out) Tryd.underlying55 rfl HI.out ?_) | (refine wpList_store_rowX rfl 55 _ _ rfl (w.heap.size + 1) (stc true s rest msg.length) rfl rfl 55 _ (heap_alloc2_new _ _ _) HI.out HO.out (stc_one _ _ _ _) ?_; intro w3 hrow3 ho3 hs3; have hP := prep hrow3 ho3 hs3 rfl; clear hrow3 ho3 hs3; have c73 : w3.cell? ⟨gs, 73, none⟩ = some (.int .u64 (msg.length : Int)) := by rw [hP.below.cell (p := ⟨gs, 73, none⟩) hg]; exact (cell_of_row _ _ _ _ _ _ HR.out).trans (stc_count _ _ _ _ hM.len)))
  refine (ending_walk msg.length _ (by omega)).mono ?_
  rintro e w4 ⟨rfl, hrow4, hb4⟩
  have hK2 : 2 < w.heap.size := block_lt_of_cell (hK 0 (by omega))
  have hsz := hP.size
  have hbel4 : Below w.heap.size w w4 := hP.below.trans (hb4.mono (by omega))
  have hst4 : StAt (w.heap.size + 1) 55 w4 msg := ⟨s, rest, hM, (hb4.block _ (by omega)).trans hP.row⟩
  have hres4 : RowT 25 w4 w.heap.size (List.replicate 32 0) := hP.res.below hb4 (by omega)
  have hK4 : KAt w4 := fun i hi => by rw [hbel4.cell (p := ⟨2, i, none⟩) hK2]; exact hK i hi
  have hv4 : SlB (w.heap.size + 1) w4 (.slice (some ⟨w3.heap.size, 0, none⟩) (wholeOf msg.length) (wholeOf msg.length)) (endTo msg.length 8) :=
    .inl ⟨w3.heap.size, 0, wholeOf msg.length, by rw [endTo_length], by rw [endTo_length]; exact Nat.le_refl _, fun _ => by omega, hrow4.bytes⟩
  have hsz4 := hb4.size
  have hwb := wholeOf_bounds msg.length
  have hlen4 : msg.length + (endTo msg.length 8).length ≤ 1099511627776 := by rw [endTo_length]; omega
  have HV4 := Lib.hid hv4
  have HL4 := Lib.hid hlen4
  clear hv4 hlen4 c73 hrow4 hwb hsz hP hb4
  go_wp2_with fail
  refine (take_walk (w.heap.size + 1) 55 msg _ _ _ HV4.out hst4 hK4 (by omega) HL4.out).mono ?_
  rintro e w5 ⟨rfl, ho5, hst5⟩
  have hbel5 : Below w.heap.size w w5 := hbel4.trans (Below.of_only ho5 (Nat.le_succ _) hbel4.size)
  have hres5 : RowT 25 w5 w.heap.size (List.replicate 32 0) := hres4.only ho5 (by omega)
  obtain ⟨s5, rest5, hM5, hrow5⟩ := hst5
  have HR5 := Lib.hid hrow5
  have hsz5 : w.heap.size + 1 < w5.heap.size := (Array.getElem?_eq_some_iff.1 hrow5).1
  clear hrow5 hst4 hK4 HV4 HL4 hres4 ho5
  go_wp2_with fail
  refine (digest_walk (w.heap.size + 1) 55 true s5 rest5 _ _ HR5.out).mono ?_
  rintro e w6 ⟨rfl, hb6⟩
  have hbel6 : Below w.heap.size w w6 := hbel5.trans (hb6.mono (by omega))
  have HR6 : Hid (w6.heap[w.heap.size]? = some (.cells (bcells (List.replicate 32 0)) 25 (0, 0))) := Lib.hid (hres5.below hb6 (by omega))
  have HE : Hid (shaL msg = dig s5) := Lib.hid (by rw [shaL, pad, hM5.hash])
  have HI6 : Hid ((Tryd.prog.info? 25).map (·.size) = some (bcells (dig s5)).size) := Lib.hid (by rw [bcells_size, dig_length]; exact size25)
  have HO6 : Hid ((bcells (List.replicate 32 0)).size = (bcells (dig s5)).size) := Lib.hid (by rw [bcells_size, bcells_size, dig_length]; rfl)
  clear hb6 HR5 hM5 hres5
  generalize dig s5 = D at *
  go_wp2_with (refine wpList_store_row rfl 25 _ _ rfl w.heap.size (bcells D) rfl rfl 25 _ HR6.out HI6.out HO6.out (bcells_one _) ?_)
  refine bodyPost_ret (v := .agg (bcells (shaL msg))) ?_ rfl ⟨rfl, below_setRow hbel6 (Nat.le_refl _) _⟩
  rw [HE.out]
  exact results_cell_row (p := 2) (ty := 25) rfl _ _ w.heap.size 25 _ (0, 0) _ rfl (setRow_heap _ _ _ _ _ _ HR6.out) Tryd.underlying25 rfl HI6.out
end Go.Proofs.YtdkajbhhmgmohaaDoor
