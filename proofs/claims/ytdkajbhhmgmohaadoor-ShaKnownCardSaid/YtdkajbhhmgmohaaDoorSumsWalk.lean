/-
  The law ShaSums walked: for every slice of bytes the call returns true and turns nothing that was there.
-/
import Derived.Test.YtdkajbhhmgmohaaDoorRefSum
import Derived.ChangeKeysEq
import Derived.Lib.MinMax
namespace Go.Proofs.YtdkajbhhmgmohaaDoor
open Go.RowKit Sha

theorem part5 (l : List UInt8) (i : Nat) (hi : i < l.length) (w : World) : (part 5 (bcells l) (i * 1)).run Tryd.prog w = .ok (.int .u8 (bi (l.getD i 0))) w := by
  have h5 : (isAgg 5).run Tryd.prog w = .ok false w := by kernel_rfl
  simp only [part, Sem.run_bind, h5, Result.andThen_ok, Nat.mul_one, bcells_at l i hi]
  rfl
theorem items5 (a : List UInt8) (w : World) : ∀ (is : List Nat), (∀ i ∈ is, i < a.length) → (Op.eqItems 9999 5 1 (bcells a) (bcells a) is).run Tryd.prog w = .ok true w
  | [], _ => rfl
  | i :: is, h => by
    have hi := h i (by simp)
    have e : (Op.equalIn 9999 5 (.int .u8 (bi (a.getD i 0))) (.int .u8 (bi (a.getD i 0)))).run Tryd.prog w = .ok true w := by
      rw [run_equalIn_int w 9998 5 .u8 .u8 _ _ Tryd.underlying5]; simp
    simp only [Op.eqItems, Sem.run_bind, part5 a i hi w, e, Result.andThen_ok]
    exact items5 a w is (fun j hj => h j (by simp [hj]))
theorem same25 (a : List UInt8) (ha : a.length = 32) (w : World) : (Op.equalIn 10000 25 (.agg (bcells a)) (.agg (bcells a))).run Tryd.prog w = .ok true w := by
  obtain ⟨i0, hi, hz0, hz1, hz2⟩ := info_parts info5
  rw [run_equalIn_array w 9999 _ _ Tryd.underlying25 hi]
  have e : Tryd.prog.cellsOf 5 = 1 := by kernel_rfl
  rw [e]
  exact items5 a w _ (fun i hi => by have := List.mem_range.1 hi; omega)
set_option maxHeartbeats 400000 in
theorem equal_walk (w : World) (a b : Value) (bs : List UInt8) (ha : SlW w a bs) (hb : SlW w b bs) : Calls Tryd.prog 11 #[a, b] w fun e w' => e = .returned (.bool true) ∧ w = w' := by
  have c1 := run_toString ha
  have c2 := run_toString hb
  clear ha hb
  go_enter Tryd.func11, Tryd.ntmps11
  go_wp2_with fail
  go_ret
  exact ⟨rfl, rfl⟩
theorem own_empty (w : World) : OwnB w.heap.size (w.alloc (.cells #[] 5 (0, 0))) (.slice (some ⟨w.heap.size, 0, none⟩) 0 0) [] :=
  ⟨by simp [bl], .inr ⟨w.heap.size, 0, #[], rfl, Nat.le_refl _, heap_alloc_new _ _, Nat.le_refl _, by decide, rfl, by simp [bl]⟩⟩
def ClonePost (bs : List UInt8) (w : World) (e : Ending) (w' : World) : Prop := ∃ v', e = .returned v' ∧ OwnB w.heap.size w' v' bs ∧ Below w.heap.size w w'
set_option maxRecDepth 100000 in
set_option maxHeartbeats 400000 in
theorem clone_walk (w : World) (v : Value) (bs : List UInt8) (hv : SlW w v bs) (hlen : bs.length ≤ 549755813888) : Calls Tryd.prog 8 #[v] w (ClonePost bs w) := by
  have e1 := fun (w : World) (a : Option Addr) (n c : Nat) => Lib.run_eql_slice_nil (P := Tryd.prog) w 22 5 a n c 0 0 Tryd.underlying22
  rcases hv with ⟨g, o, cap, rfl, h2, h3⟩ | ⟨p, rfl, rfl⟩
  · have hs : SlW w (.slice (some ⟨g, o, none⟩) bs.length cap) bs := .inl ⟨g, o, cap, rfl, h2, h3⟩
    clear h2 h3
    have hb0 : Below w.heap.size w (w.alloc (.cells #[] 5 (0, 0))) := (Below.refl _ _).alloc (Nat.le_refl _) _
    generalize hn : bs.length = n at *
    have HN := Lib.hid hn
    clear hn
    go_enter Tryd.func8, Tryd.ntmps8
    go_wp2_with (first | (refine wpList_appB rfl (.tmp 5) (.tmp 6) rfl w.heap.size _ _ [] bs rfl rfl (own_empty w) (hs.below hb0 (Nat.le_refl _)) (by simp) (by rw [HN.out]; simp; omega) ?_; intro v1 w1 hown1 hg1) | fail)
    go_ret
    exact ⟨v1, rfl, hown1, hb0.trans (grown_below hg1 (by simp) (fun k hk => ((own_empty w).lt k hk).1))⟩
  · cases p with
    | none =>
      go_enter Tryd.func8, Tryd.ntmps8
      go_wp2_with fail
      go_ret
      exact ⟨_, rfl, OwnB.nil _ _, Below.refl _ _⟩
    | some a =>
      have hs : SlW w (.slice (some a) 0 0) [] := .inr ⟨some a, rfl, rfl⟩
      have hb0 : Below w.heap.size w (w.alloc (.cells #[] 5 (0, 0))) := (Below.refl _ _).alloc (Nat.le_refl _) _
      go_enter Tryd.func8, Tryd.ntmps8
      go_wp2_with (first | (refine wpList_appB rfl (.tmp 5) (.tmp 6) rfl w.heap.size _ _ [] [] rfl rfl (own_empty w) (hs.below hb0 (Nat.le_refl _)) (by simp) (by simp) ?_; intro v1 w1 hown1 hg1) | fail)
      go_ret
      exact ⟨v1, rfl, hown1, hb0.trans (grown_below hg1 (by simp) (fun k hk => ((own_empty w).lt k hk).1))⟩

def SumsPost (w : World) (e : Ending) (w' : World) : Prop := e = .returned (.bool true) ∧ Below w.heap.size w w'
set_option maxRecDepth 100000 in
set_option maxHeartbeats 1000000 in
theorem law_some (w : World) (g o len cap : Nat) (zs : List UInt8) (hz : zs.length = len) (hc : len ≤ cap) (hB : BytesAt w g o zs) (hK : KAt w) (hH : HAt w) :
    Calls Tryd.prog 3 #[.slice (some ⟨g, o, none⟩) len cap] w (SumsPost w) := by
  have hK2 : 2 < w.heap.size := block_lt_of_cell (hK 0 (by omega))
  obtain ⟨m, hm⟩ : ∃ m, m = min len 2000 := ⟨_, rfl⟩
  have hs : SlW w (.slice (some ⟨g, o, none⟩) m cap) (zs.take m) := .inl ⟨g, o, cap, by rw [List.length_take, hz, hm]; congr 1; omega, by simp; omega, hB.take m⟩
  have hmi : min (len : Int) 2000 = (m : Int) := by omega
  have HS := Lib.hid hs
  have HL : Hid ((zs.take m).length ≤ 549755813888) := Lib.hid (by simp; omega)
  have hm1 : m ≤ len := by omega
  have hm2 : (m : Int) ≤ (cap : Int) := by omega
  clear hs hB hm
  go_enter Tryd.func3, Tryd.ntmps3
  go_wp2_with fail
  refine (clone_walk w _ (zs.take m) HS.out HL.out).mono ?_
  rintro e w1 ⟨v1, rfl, hown1, hb1⟩
  have hz1 := hb1.size
  have hsl1 := hown1.toW
  go_wp2_with fail
  refine (sum_walk w1 v1 (zs.take m) hsl1 (hK.below hb1 hK2) (hH.below hb1 (by omega)) HL.out).mono ?_
  rintro e w2 ⟨rfl, hb2⟩
  have hz2 := hb2.size
  have hb02 : Below w.heap.size w w2 := hb1.trans (hb2.mono hz1)
  have HS2 := Lib.hid (HS.out.below hb02 (Nat.le_refl _))
  have hown2 := hown1.below hb2 (fun k hk => (hown1.lt k hk).2)
  go_wp2_with fail
  refine (rsum_walk w2 _ (zs.take m) HS2.out HL.out).mono ?_
  rintro e w3 ⟨rfl, hb3⟩
  have hz3 := hb3.size
  have hb03 : Below w.heap.size w w3 := hb02.trans (hb3.mono (by omega))
  have HS3 := Lib.hid (HS.out.below hb03 (Nat.le_refl _))
  have hown3 := hown2.below hb3 (fun k hk => (hown2.lt k hk).2)
  have hsm := same25 _ (shaL_length (zs.take m))
  have hgd : Tryd.prog.eqGuardType Tryd.prog.depth 25 = false := by kernel_rfl
  obtain ⟨D, hD⟩ : ∃ D, D = shaL (zs.take m) := ⟨_, rfl⟩
  rw [← hD] at hsm
  rw [← hD]
  clear hD
  go_wp2_with fail
  refine (equal_walk w3 _ _ _ hown3.toW HS3.out).mono ?_
  rintro e w' ⟨rfl, rfl⟩
  go_wp2_with fail
  refine (wakes_walk w3 (hK.below hb03 hK2) (hH.below hb03 (by omega))).mono ?_
  rintro e w4 ⟨rfl, hb4⟩
  go_wp2_with fail
  go_ret
  exact ⟨rfl, hb03.trans (hb4.mono (by omega))⟩
set_option maxRecDepth 100000 in
set_option maxHeartbeats 1000000 in
theorem law_nil (w : World) (hK : KAt w) (hH : HAt w) :
    Calls Tryd.prog 3 #[.slice none 0 0] w (SumsPost w) := by
  have hK2 : 2 < w.heap.size := block_lt_of_cell (hK 0 (by omega))
  have HS : Hid (SlW w (.slice none 0 0) []) := Lib.hid (.inr ⟨none, rfl, rfl⟩)
  have HL : Hid (([] : List UInt8).length ≤ 549755813888) := Lib.hid (by simp)
  go_enter Tryd.func3, Tryd.ntmps3
  go_wp2_with fail
  refine (clone_walk w _ [] HS.out HL.out).mono ?_
  rintro e w1 ⟨v1, rfl, hown1, hb1⟩
  have hz1 := hb1.size
  have hsl1 := hown1.toW
  go_wp2_with fail
  refine (sum_walk w1 v1 [] hsl1 (hK.below hb1 hK2) (hH.below hb1 (by omega)) HL.out).mono ?_
  rintro e w2 ⟨rfl, hb2⟩
  have hz2 := hb2.size
  have hb02 : Below w.heap.size w w2 := hb1.trans (hb2.mono hz1)
  have HS2 := Lib.hid (HS.out.below hb02 (Nat.le_refl _))
  have hown2 := hown1.below hb2 (fun k hk => (hown1.lt k hk).2)
  go_wp2_with fail
  refine (rsum_walk w2 _ [] HS2.out HL.out).mono ?_
  rintro e w3 ⟨rfl, hb3⟩
  have hz3 := hb3.size
  have hb03 : Below w.heap.size w w3 := hb02.trans (hb3.mono (by omega))
  have HS3 := Lib.hid (HS.out.below hb03 (Nat.le_refl _))
  have hown3 := hown2.below hb3 (fun k hk => (hown2.lt k hk).2)
  have hsm := same25 _ (shaL_length [])
  have hgd : Tryd.prog.eqGuardType Tryd.prog.depth 25 = false := by kernel_rfl
  obtain ⟨D, hD⟩ : ∃ D, D = shaL [] := ⟨_, rfl⟩
  rw [← hD] at hsm
  rw [← hD]
  clear hD
  go_wp2_with fail
  refine (equal_walk w3 _ _ _ hown3.toW HS3.out).mono ?_
  rintro e w' ⟨rfl, rfl⟩
  go_wp2_with fail
  refine (wakes_walk w3 (hK.below hb03 hK2) (hH.below hb03 (by omega))).mono ?_
  rintro e w4 ⟨rfl, hb4⟩
  go_wp2_with fail
  go_ret
  exact ⟨rfl, hb03.trans (hb4.mono (by omega))⟩
end Go.Proofs.YtdkajbhhmgmohaaDoor
