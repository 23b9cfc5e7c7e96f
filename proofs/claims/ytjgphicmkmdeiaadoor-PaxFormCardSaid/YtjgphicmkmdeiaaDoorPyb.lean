/-
  slices.Backward over a slice of records, which may be left early.
-/
import Derived.Test.YtjgphicmkmdeiaaDoorPya
import Derived.Test.YtjgphicmkmdeiaaDoorPu
namespace Go.Proofs.YtjgphicmkmdeiaaDoor
open Go.RowKit Go.Maps
attribute [local go_sem] Oper.semAt_some

theorem only_put {S : Nat → Prop} (W : World) (l : Nat) (o : Obj) (h : S l) : OnlyS S W (W.putObj l o) :=
  ⟨rfl, rfl, rfl, by simp, fun k _ hk => World.putObj_heap_other (fun e => hk (by rw [e]; exact h))⟩
/-- What the k-th round is handed, from the last place on. -/
def encR (l : List Px.Rec) (k : Nat) : Array Value := #[.int .i64 ((l.length - 1 - k : Nat) : Int), .agg #[.string ⟨(l.getD (l.length - 1 - k) ([], [])).1.toArray⟩, .string ⟨(l.getD (l.length - 1 - k) ([], [])).2.toArray⟩]]
set_option maxRecDepth 100000 in
set_option maxHeartbeats 2000000 in
theorem back1_in (n : Nat) (hn : 1 ≤ n) (S : Nat → Prop) (l Bs cap : Nat) (p : Option Addr) (rs : List Px.Rec) (hreach : rs.length ≤ 1000000) (J Jx : Nat → World → Prop) (w1 W : World) (hSb : ∀ q, q < w1.heap.size → S q → False) (hW : Below w1.heap.size w1 W)
    (hY : ∀ k W1, J k W1 → k < rs.length → YieldAt Fence.wide (n - 1) Tryd.prog l (encR rs k) W1 fun e W' => (e = .returned (.bool true) ∧ J (k + 1) W' ∧ OnlyS S W1 W') ∨ (e = .returned (.bool false) ∧ Jx k W'))
    (hBs : w1.cell? ⟨Bs, 0, none⟩ = some (.slice p rs.length cap)) (hc : SlR w1 (.slice p rs.length cap) rs) (h0 : J 0 W) :
    CallsIn Fence.wide n Tryd.prog 36 #[.func (.yield l) #[] #[], .pointer (some ⟨Bs, 0, none⟩)] W fun e W' => (∃ v, e = .returned v) ∧ (J rs.length W' ∨ ∃ k, k < rs.length ∧ Jx k W') := by
  refine callsIn_of_wp Tryd.func36 rfl trivial ?_ rfl
  obtain ⟨len, hlen⟩ : ∃ len, len = rs.length := ⟨_, rfl⟩
  rw [← hlen] at hY hBs hreach hc ⊢
  have HN := Lib.hid hlen
  have HC := Lib.hid hc
  have HS := Lib.hid hSb
  have hbl := block_lt_of_cell hBs
  replace hBs := (hW.cell (p := ⟨Bs, 0, none⟩) hbl).trans hBs
  clear hlen hc hSb
  simp only [Tryd.ntmps36, List.size_toArray, List.length_cons, List.length_nil, Nat.reduceAdd, Nat.reduceSub, Array.replicate_succ, Array.replicate_zero, List.push_toArray, List.append_toArray, List.nil_append, List.cons_append]
  gi_wp2
  gi_loopw [3] (fun v3 wr => ∃ j : Nat, j ≤ len ∧ v3 = .int .i64 ((j : Int) - 1) ∧ J (len - j) wr ∧ OnlyS S W wr)
    (fun v3 _ => (intOf v3 + 1).toNat)
  case atStart => exact ⟨len, Nat.le_refl _, rfl, by rw [Nat.sub_self]; exact h0, OnlyS.refl _ _⟩
  case round =>
    obtain ⟨j, hj, rfl, hJs, hnx⟩ := hrel
    have hbs := hnx.cell hBs (fun h => HS.out _ hbl h)
    by_cases h00 : 0 < j
    · obtain ⟨i, rfl⟩ : ∃ i, j = i + 1 := ⟨j - 1, by omega⟩
      have hji : (((i + 1 : Nat) : Int) - 1) = (i : Int) := by omega
      rw [hji]
      have hil : i < rs.length := by rw [← HN.out]; omega
      obtain ⟨g, o, rfl, hcap2, hcell⟩ := HC.out.at (by omega)
      obtain ⟨r, hr⟩ : ∃ r, rs[i]? = some r := ⟨_, List.getElem?_eq_getElem hil⟩
      obtain ⟨e0, e1⟩ := hcell i r hr
      have f0 := hnx.cell ((hW.cell (p := ⟨g, o + i * 2, none⟩) (block_lt_of_cell e0)).trans e0) (fun h => HS.out _ (block_lt_of_cell e0) h)
      have f1 := hnx.cell ((hW.cell (p := ⟨g, o + i * 2 + 1, none⟩) (block_lt_of_cell e1)).trans e1) (fun h => HS.out _ (block_lt_of_cell e1) h)
      obtain ⟨fn, tmps, assign, body, hy, hR⟩ := hY (len - (i + 1)) wr hJs (by omega)
      have he : encR rs (len - (i + 1)) = #[.int .i64 (i : Int), .agg #[.string ⟨r.1.toArray⟩, .string ⟨r.2.toArray⟩]] := by
        unfold encR
        rw [show rs.length - 1 - (len - (i + 1)) = i by have := HN.out; omega, List.getD_eq_getElem?_getD, hr]; rfl
      rw [he] at hy
      have HR := Lib.hid hR
      clear e0 e1 hcell hr he hR
      generalize (⟨r.1.toArray⟩ : ByteArray) = u at *
      generalize (⟨r.2.toArray⟩ : ByteArray) = u2 at *
      have hii : (i : Int) < (len : Int) := by omega
      gi_wp2
      refine HR.out.mono ?_
      rintro e W3 (⟨rfl, hJ3, hk3⟩ | ⟨rfl, hJx3⟩)
      · gi_wp2
        go_roundw
        case rel => exact ⟨i, by omega, by go_num, by rw [show len - i = (len - (i + 1)) + 1 by omega]; exact hJ3, hnx.trans hk3⟩
        case measure => simp [intOf]
      · gi_wp2
        refine bodyPost_ret (results_none rfl _ _ _) rfl ?_
        exact ⟨⟨_, rfl⟩, .inr ⟨len - (i + 1), by omega, hJx3⟩⟩
    · obtain rfl : j = 0 := by omega
      have hz : (((0 : Nat) : Int) - 1) = -1 := rfl
      rw [hz]
      gi_wp2
      go_end0
      exact ⟨⟨_, rfl⟩, .inl hJs⟩
set_option maxHeartbeats 1000000 in
/-- slices.Backward: the slice is boxed; the function value holds the box. -/
theorem backward_walk (a : Option Addr) (len cap : Nat) (w : World) :
    Calls Tryd.prog 27 #[.slice a len cap] w fun e w' => e = .returned (.func (.func 36) #[] #[.pointer (some ⟨w.heap.size, 0, none⟩)]) ∧ w' = w.alloc (.cells #[.slice a len cap] 22) := by
  go_enter Tryd.func27, Tryd.ntmps27
  go_wp2_with fail
  go_ret
  exact ⟨rfl, rfl⟩
end Go.Proofs.YtjgphicmkmdeiaaDoor
