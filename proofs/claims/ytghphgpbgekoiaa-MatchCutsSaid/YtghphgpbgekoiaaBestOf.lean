/-
  row.ahead, Best.
-/
import Derived.Test.YtghphgpbgekoiaaLast
namespace Go.Proofs.Ytghphgpbgekoiaa
open Go.RowKit
set_option maxRecDepth 100000 in
set_option maxHeartbeats 1000000 in
theorem lastindex_walk (w : World) (v u : Value) (b : List UInt8) (p : Nat) (hb : p + 3 ≤ b.length) (hb2 : b.length ≤ 32768) (hv : SlV w v (bl (b.take (p + 2)))) (hu : SlV w u (bl (tr b p))) :
    Calls Try.prog 34 #[v, u] w (QPost (.int .i64 (Mt.ahead b p)) w) := by
  rw [ahead_hd]
  have hvl : (bl (b.take (p + 2))).length = p + 2 := by simp; omega
  have hul : (bl (tr b p)).length = 3 := rfl
  have heq := equal_walk w v u _ _ hv hu
  have hv0 := hv
  have hu0 := hu
  obtain ⟨p1, cap, rfl⟩ := hv.shape
  obtain ⟨p2, cap2, rfl⟩ := hu.shape
  rw [hvl] at hv hv0 heq ⊢
  rw [hul] at hu hu0 heq ⊢
  have HV := Lib.hid hv
  have HU := Lib.hid hu
  clear hv hu hv0 hu0 hvl hul
  match p, hb with
  | 0, hb =>
    clear heq
    go_enter Try.func34, Try.ntmps34
    go_wp2_with fail
    go_ret
    exact ⟨rfl, 0, rfl⟩
  | 1, hb =>
    have e1 : b.take (1 + 2) = tr b 0 := by
      have := tr_is b 0 (by omega)
      simpa using this
    rw [e1, tr_eq] at heq
    have HCH : Hid (hd (Mt.chain b 1 1) = if Mt.same3 b 0 1 then 0 else -1) := Lib.hid (by
      unfold Mt.chain
      cases Mt.same3 b 0 1 <;> rfl)
    go_enter Try.func34, Try.ntmps34
    go_wp2_with fail
    refine heq.mono ?_
    rintro e w' ⟨rfl, rfl⟩
    generalize Mt.same3 b 0 1 = x at *
    cases x
    · go_wp2_with fail
      go_ret
      exact ⟨by rw [HCH.out]; rfl, 0, rfl⟩
    · go_wp2_with fail
      go_ret
      exact ⟨by rw [HCH.out]; rfl, 0, rfl⟩
  | q + 2, hb =>
    clear heq
    have hrk := rk_walk w _ _ b (q + 1) (by omega) (by omega) hb2 HV.out HU.out
    go_enter Try.func34, Try.ntmps34
    go_wp2_with fail
    refine hrk.mono ?_
    rintro e w' ⟨rfl, nn, rfl⟩
    go_wp2_with fail
    go_ret
    exact ⟨rfl, nn, rfl⟩
set_option maxRecDepth 100000 in
set_option maxHeartbeats 1000000 in
theorem rahead_walk (w : World) (v : Value) (b : List UInt8) (p : Nat) (hb : p + 3 ≤ b.length) (hb2 : b.length ≤ 32768) (hv : SlV w v (bl b)) :
    Calls Try.prog 23 #[v, .int .i64 (p : Int)] w (QPost (.int .i64 (Mt.ahead b p)) w) := by
  obtain ⟨p1, cap, rfl⟩ := hv.shape
  rw [bl_length] at hv ⊢
  have ht := to57 hv (p + 2) (by omega)
  have hvt := hv.take (p + 2) (by omega)
  obtain ⟨p3, hc, hvc⟩ := cut57 hv p (p + 3) (by omega) (by omega)
  rw [Nat.add_sub_cancel_left] at hc hvc
  rw [bl_take] at hvt
  rw [bl_drop, bl_take, tr_is b p hb] at hvc
  rw [Int.natCast_add] at ht hc
  have hc : ∀ w', Sem.run Try.prog (Instr.sliceAt 57 _ _ (some (.int .i64 ((p : Int) + 3))) none) w' = _ := hc
  have ht : ∀ w', Sem.run Try.prog (Instr.sliceAt 57 _ none (some (.int .i64 ((p : Int) + 2))) none) w' = _ := ht
  have HLI : Hid (∀ j, Calls Try.prog 34 #[.slice p1 (p + 2) cap, .slice p3 3 (cap - p)] (w.drewN j) (QPost (.int .i64 (Mt.ahead b p)) (w.drewN j))) := Lib.hid (fun j =>
    lastindex_walk (w.drewN j) _ _ b p hb hb2 (hvt.below (below_drewN (Below.refl _ _) j) (Nat.le_refl _)) (hvc.below (below_drewN (Below.refl _ _) j) (Nat.le_refl _)))
  clear hv hvt hvc
  generalize b.length = n at *
  have hw1 : IntKind.i64.wrap ((p : Int) + 3) = (p : Int) + 3 := IntWalk.i64_in _ (by omega)
  have hw2 : IntKind.i64.wrap ((p : Int) + 3 - 1) = (p : Int) + 2 := by rw [IntWalk.i64_in _ (by omega)]; omega
  go_enter Try.func23, Try.ntmps23
  go_wp2_with fail
  go_quiet (first | (go_at_call 34; exact Calls.quiet_of (HLI.out _)))
  go_wp2_with fail
  go_ret
  exact ⟨rfl, nq, rfl⟩
theorem enters23 : ∀ args w, (callFunc 23 args).run Try.prog w = .ok (.enter 23 args) w := fun _ _ => rfl
theorem results_cell_tmp {P : Program} {fn : Func} {p q : Tmp} {ty : TypeId} (h : fn.results = #[.cell p ty, .tmp q]) (tmps : Array Value) (w : World) (g : Nat) (t : TypeId) (cs : Array Value) (fr : Nat × Nat) (d : TypeDesc) (x : Value)
    (hp : tmps.getD p undef = .pointer (some ⟨g, 0, none⟩)) (hq : tmps.getD q undef = x) (hg : w.heap[g]? = some (.cells cs t fr))
    (hu : P.underlying ty = some d) (hd : (match d with | .struct _ | .array _ _ => true | _ => false) = true) (hi : (P.info? ty).map (·.size) = some cs.size) :
    (results fn tmps).run P w = .ok (.tuple #[.agg cs, x]) w := by
  have hp' : tmps[p]?.getD undef = .pointer (some ⟨g, 0, none⟩) := by simpa using hp
  have hq' : tmps[q]?.getD undef = x := by simpa using hq
  simp [results, h, hp', hq', asAddr, run_loadVar_row w g t ty cs fr d hg hu hd hi]
/-- What Best tells. -/
def bestOf (b : List UInt8) (k d : Int) : Nat × Nat := if 0 ≤ k ∧ k < (b.length : Int) then Mt.best b k.toNat d.toNat else (0, 0)
set_option maxRecDepth 100000 in
set_option maxHeartbeats 4000000 in
theorem Best_walk (w : World) (v : Value) (b : List UInt8) (k d : Int) (hv : SlV w v (bl b)) (hb : b.length ≤ 32768) (hd1 : d ≤ 9223372036854775807) :
    Calls Try.prog 10 #[v, .int .i64 k, .int .i64 d] w fun e w' => e = .returned (.tuple #[stv (bestOf b k d), .bool (decide (0 < (bestOf b k d).1))]) ∧ Below w.heap.size w w' := by
  have hmf : ∀ (fn : Fn) (first cap : Array Value) (w : World), (Instr.makeFunc fn first cap).run Try.prog w = .ok (.func fn first cap) w := fun _ _ _ _ => rfl
  obtain ⟨p1, cap, rfl⟩ := hv.shape
  obtain ⟨n, hn⟩ : ∃ n, n = b.length := ⟨_, rfl⟩
  rw [bl_length, ← hn] at hv ⊢
  have HN := Lib.hid hn
  have HV := Lib.hid hv
  have HB := Lib.hid hb
  have HD := Lib.hid hd1
  rw [← hn] at hb
  clear hv hn hd1
  have HBAD : Hid (¬ (0 ≤ k ∧ k < (n : Int)) → bestOf b k d = (0, 0)) := Lib.hid (fun h => by unfold bestOf; rw [← HN.out, if_neg h])
  go_enter Try.func10, Try.ntmps10
  by_cases h0 : k < 0
  · have HR := Lib.hid (HBAD.out (by omega))
    go_wp2_with fail
    refine bodyPost_ret (results_cell_tmp (p := 6) (q := 7) (ty := 32) rfl _ _ w.heap.size 32 _ (0, 0) _ _ rfl rfl (heap_alloc_new w _) Try.underlying32 rfl info32s) rfl ⟨?_, (Below.refl _ _).alloc (Nat.le_refl _) _⟩
    rw [HR.out]; rfl
  · have h0' : decide (k < 0) = false := decide_eq_false h0
    by_cases h1 : (n : Int) ≤ k
    · have HR := Lib.hid (HBAD.out (by omega))
      have h1' : decide ((n : Int) ≤ k) = true := decide_eq_true h1
      go_wp2_with fail
      refine bodyPost_ret (results_cell_tmp (p := 6) (q := 7) (ty := 32) rfl _ _ w.heap.size 32 _ (0, 0) _ _ rfl rfl (heap_alloc_new w _) Try.underlying32 rfl info32s) rfl ⟨?_, (Below.refl _ _).alloc (Nat.le_refl _) _⟩
      rw [HR.out]; rfl
    · have h1' : decide ((n : Int) ≤ k) = false := decide_eq_false h1
      obtain ⟨i, rfl⟩ : ∃ i : Nat, k = (i : Int) := ⟨k.toNat, by omega⟩
      have HR : Hid (bestOf b (i : Int) d = Mt.best b i d.toNat) := Lib.hid (by unfold bestOf; rw [← HN.out, if_pos (by omega), Int.toNat_natCast])
      obtain ⟨p2, hs2, hv2⟩ := from22 HV.out 0 (Nat.zero_le _)
      rw [Nat.sub_zero, List.drop_zero] at hv2
      rw [Nat.sub_zero, Nat.sub_zero] at hs2
      rw [Nat.sub_zero] at hv2
      have hs2 : ∀ w', Sem.run Try.prog (Instr.sliceAt 22 _ (some (.int .i64 0)) none none) w' = _ := hs2
      have hmx : max ((i : Int) - 32768) 0 = 0 := by omega
      have hmn : min (i : Int) 32768 = (i : Int) := by omega
      have hB1 : Below w.heap.size w (w.alloc (.cells #[.int .i64 0, .int .i64 0, .int .u8 0] 32)) := (Below.refl _ _).alloc (Nat.le_refl _) _
      have hbw := best_walk 23 (.slice p2 n cap) _ _ b i d (hv2.below hB1 (Nat.le_refl _)) (by rw [← HN.out]; omega) HB.out HD.out enters23 (fun w' hw p hp => rahead_walk w' _ b p hp HB.out ((hv2.below hB1 (Nat.le_refl _)).below hw (Nat.le_refl _)))
      obtain ⟨x, y, hxy⟩ : ∃ x y, Mt.best b i d.toNat = (x, y) := ⟨_, _, rfl⟩
      rw [hxy] at hbw HR
      rw [HR.out]
      have HR1 := Lib.hid (heap_alloc_new w (.cells #[.int .i64 0, .int .i64 0, .int .u8 0] 32))
      have HB1 := Lib.hid hB1
      clear hv2 hxy hB1 HBAD
      go_wp2_with fail
      refine hbw.mono ?_
      rintro e w2 ⟨rfl, hb2⟩
      generalize w.alloc (.cells #[.int .i64 0, .int .i64 0, .int .u8 0] 32) = w1 at *
      have HB2 := Lib.hid hb2
      have HR2 := Lib.hid ((hb2.block w.heap.size (Array.getElem?_eq_some_iff.1 HR1.out).1).trans HR1.out)
      have hlt2 := (Array.getElem?_eq_some_iff.1 HR2.out).1
      clear hbw hb2
      unfold stv stc
      have hr3 := (heap_alloc_old w2 (.cells #[.int .i64 (x : Int), .int .i64 (y : Int), .int .u8 0] 32) hlt2).trans HR2.out
      have HB3 : Hid (Below w.heap.size w (w2.alloc (.cells #[.int .i64 (x : Int), .int .i64 (y : Int), .int .u8 0] 32))) := Lib.hid ((bt HB1.out HB2.out).alloc (bt HB1.out HB2.out).size _)
      have hr4 := heap_alloc_new w2 (.cells #[.int .i64 (x : Int), .int .i64 (y : Int), .int .u8 0] 32)
      have hne : w2.heap.size ≠ w.heap.size := by omega
      obtain ⟨y0, y1, y2, yf0, yf1, yf2⟩ := row3 hr3
      obtain ⟨z0, z1, z2, zf0, zf1, zf2⟩ := row3 hr4
      have HR3 := Lib.hid hr3
      clear hr3 hr4
      go_wp2_with fail
      generalize w2.alloc (.cells #[.int .i64 (x : Int), .int .i64 (y : Int), .int .u8 0] 32) = w3 at *
      go_region
      have hrr := set3 (y0 := .int .i64 (x : Int)) (y1 := .int .i64 (y : Int)) (y2 := .int .u8 0) HR3.out
      go_wp2_with fail
      exact bodyPost_ret (results_cell_tmp (p := 6) (q := 7) (ty := 32) rfl _ _ w.heap.size 32 _ (0, 0) _ _ rfl rfl hrr Try.underlying32 rfl info32s) rfl ⟨rfl, (below3 HB3.out (Nat.le_refl _) _ _ _).trans ⟨rfl, rfl, rfl, Nat.le_refl _, fun _ _ => rfl⟩⟩
end Go.Proofs.Ytghphgpbgekoiaa
