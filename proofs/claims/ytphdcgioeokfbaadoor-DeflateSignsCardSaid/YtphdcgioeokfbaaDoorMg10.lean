/-
  Merged, in the order in which they build: Backward.
-/
import Derived.RangeFuncNested
import Derived.RangeFuncBound
import Derived.RangeFuncCalls
import Derived.RangeFuncLeaves
import Derived.RangeFuncBox
import Derived.RangeFuncWrites
import Derived.Shelf.Abstract
import Derived.OwnWalkIn
import Derived.TacticsInMore
import Derived.LoopNIn
import Derived.LoopIn
import Derived.Test.YtphdcgioeokfbaaDoorMg9
/-
  slices.Backward over a slice of lists: what its iterator hands on.
-/
namespace Go.Proofs.YtphdcgioeokfbaaDoor
open Go.RowKit Hf
attribute [local go_sem] Oper.semAt_some

/-- What the k-th round is handed, from the last place on. -/
def encB (vs : List Value) (k : Nat) : Array Value := #[.int .i64 ((vs.length - 1 - k : Nat) : Int), vs.getD (vs.length - 1 - k) undef]
/-- An iterator whose rounds come in one row, known ahead: N of them, none of them stopped. -/
def SeqRow (F : Fence) (n : Nat) (P : Program) (g : Nat) (lb : Array Value) (encs : Nat → Array Value) (Kp : World → World → Prop) (N : Nat) (W : World) : Prop :=
  ∀ (l : Nat) (J : Nat → World → Prop),
    (∀ k W1, J k W1 → k < N → YieldAt F (n - 1) P l (encs k) W1 fun e W' => e = .returned (.bool true) ∧ J (k + 1) W' ∧ Kp W1 W') →
    J 0 W → CallsIn F n P g (#[.func (.yield l) #[] #[]] ++ lb) W fun e W' => (∃ v, e = .returned v) ∧ J N W'
/-- What a round owes: nothing of the loop's own book-keeping has turned. -/
def rowPost (B : Nat) (Kp : World → World → Prop) (I : Nat → World → Prop) (k : Nat) (W : World) : Exit → Act → World → Prop
  | .normal, _, W' => KeepsFrom B W W' ∧ Kp W W' ∧ I (k + 1) W'
  | _, _, _ => False
/-- THE LOOP OVER SUCH AN ITERATOR: each round is asked at its own place alone. -/
theorem wpIn_rangeRow {F : Fence} {n : Nat} {P : Program} {g : Operand} {ps : Array Tmp} {assign body : Code} {Q : Exit → Act → World → Prop} {a : Act} {w : World}
    (hro : F.round = none) (h1 : 1 ≤ n) {gf : Nat} {lb : Array Value} (hg : a.eval g = .func (.func gf) #[] lb) (hFg : F.fn gf) (eg : ∀ args w, (callFunc gf args).run P w = .ok (.enter gf args) w)
    {encs : Nat → Array Value} {Kp : World → World → Prop} {N : Nat} (hseq : ∀ W, Below w.heap.size w W → SeqRow F (n - 1) P gf lb encs Kp N W)
    (hKt : ∀ {A B C : World}, Kp A B → Kp B C → Kp A C) (hKb : ∀ (W : World) (l : Nat) (o' : Obj), w.heap.size ≤ l → Kp W (W.putObj l o')) (hps : ∀ k, (encs k).size = ps.size)
    (I : Nat → World → Prop) (hI : OwnFrom w.heap.size I) (h0 : I 0 w) (a₁ : Nat → Act)
    (hassign : ∀ (l k : Nat) (W : World) (K : Act → World → Prop), k < N → K (a₁ k) W →
      assign.wpIn (F.inRound l) (n - 1 - 1) P (Exit.then K (fun _ _ _ => False)) { tmps := (ps.zip (encs k)).foldl (fun t (p, v) => t.setIfInBounds p v) a.tmps, defers := [] } W)
    (hbody : ∀ (l k : Nat) (W : World), I k W → k < N → body.wpIn (F.inRound l) (n - 1 - 1) P (rowPost w.heap.size Kp I k W) (a₁ k) W)
    (hdone : ∀ (D : Nat) (W : World), w.heap.size ≤ D → I N W → W.heap[D]? = some (.deferred (some [])) → Q .normal { a with defers := { target := .collected D, args := #[] } :: a.defers } W) :
    (Code.rangeFunc g ps assign body).wpIn F n P Q a w := by
  refine wpIn_rangeFunc fun fn hfn => ?_
  rw [hro]
  let rec_ : LoopState → Loop := fun st => { state := st, pending := none, fn, tmps := a.tmps, params := ps, assign, body, defers := w.heap.size }
  let l := w.heap.size + 1
  let W1 := (w.alloc (.deferred (some []))).alloc (.loop (rec_ .ready))
  have hl1 : W1.heap[l]? = some (.loop (rec_ .ready)) := by
    have := World.alloc_heap_new (w.alloc (.deferred (some []))) (.loop (rec_ .ready)); rwa [World.size_alloc] at this
  have hd1 : W1.heap[w.heap.size]? = some (.deferred (some [])) := (Below.heap_alloc _ _ _ (by simp)).trans (World.alloc_heap_new w _)
  have hi1 : I 0 W1 := hI.alloc _ (hI.alloc _ h0)
  have hB1 : Below w.heap.size w W1 := ((Below.refl _ w).alloc (Nat.le_refl _) _).alloc (by simp) _
  have hno : ∀ st, (Obj.loop (rec_ st)).isCells = false := fun _ => rfl
  refine ⟨l, [{ target := .collected w.heap.size, args := #[] }], W1, { target := .fn (.func gf) lb, args := #[.func (.yield l) #[] #[]] }, W1, gf, #[.func (.yield l) #[] #[]] ++ lb, W1,
    run_enterLoop_outer _ _ _ _ _, by simp only [resolve, hg]; simp [go_sem], fun f' hf' => by simp [Target.leads] at hf'; subst hf'; exact hFg, by simp [invoke, go_sem, eg], fun _ => h1, ?_⟩
  refine (hseq W1 hB1 l (fun k W => I k W ∧ W.heap[l]? = some (.loop (rec_ .ready)) ∧ W.heap[w.heap.size]? = some (.deferred (some []))) ?_ ⟨hi1, hl1, hd1⟩).mono ?_
  · rintro k W ⟨hi, hl, hd⟩ hk
    have hsz : l < W.heap.size := (Array.getElem?_eq_some_iff.1 hl).1
    refine ⟨fn, _, assign, body, run_yield (P := P) (args := encs k) hl (hps k), roundIn_of_wpIn hfn (hassign l k W _ hk ⟨_, run_beginRound hl rfl, ?_⟩)⟩
    have hl2 : (W.putObj l (.loop (rec_ .busy))).heap[l]? = some (.loop (rec_ .busy)) := World.putObj_heap_same hsz
    have hd2 : (W.putObj l (.loop (rec_ .busy))).heap[w.heap.size]? = some (.deferred (some [])) := (World.putObj_heap_other (by omega)).trans hd
    refine wpIn_mono (hbody l k _ (hI.putObj _ hi (by omega) hl (hno _)) hk) ?_
    rintro e a3 W3 hp
    cases e with
    | normal =>
      obtain ⟨hk3, hkp, hi3⟩ := hp
      have hl3 := hk3.same _ _ (by omega) hl2 (hno _)
      refine ⟨_, _, run_endRound (P := P) none hl3, rfl, ⟨hI.putObj _ hi3 (by omega) hl3 (hno _), World.putObj_heap_same (Array.getElem?_eq_some_iff.1 hl3).1, ?_⟩, hKt (hKt (hKb _ _ _ (by omega)) hkp) (hKb _ _ _ (by omega))⟩
      exact (World.putObj_heap_other (by omega)).trans (hk3.same _ _ (Nat.le_refl _) hd2 rfl)
    | _ => exact hp.elim
  · rintro e W2 ⟨⟨v, rfl⟩, hi, hl, hd⟩
    exact ⟨none, _, run_endLoop (P := P) hl (by show LoopState.ready ≠ _; simp), hdone _ _ (Nat.le_refl _) (hI.putObj _ hi (by omega) hl (hno _)) ((World.putObj_heap_other (by omega)).trans hd)⟩
set_option maxRecDepth 100000 in
set_option maxHeartbeats 2000000 in
theorem back1_in (F : Fence) (n : Nat) (h8 : F.fn 88) (hro : F.round = none) (hn : 1 ≤ n) (S : Nat → Prop) (l Bs b cap : Nat) (vs : List Value) (hreach : vs.length ≤ 64) (hb : ¬ S b) (hBn : ¬ S Bs) (J : Nat → World → Prop)
    (hY : ∀ k W, J k W → k < vs.length → YieldAt F (n - 1) Tryd.prog l (encB vs k) W fun e W' => e = .returned (.bool true) ∧ J (k + 1) W' ∧ OnlyS S W W')
    (W : World) (hBs : W.cell? ⟨Bs, 0, none⟩ = some (.slice (some ⟨b, 0, none⟩) vs.length cap)) (hc : ∀ j u, vs[j]? = some u → W.cell? ⟨b, j, none⟩ = some u) (h0 : J 0 W) :
    CallsIn F n Tryd.prog 88 #[.func (.yield l) #[] #[], .pointer (some ⟨Bs, 0, none⟩)] W fun e W' => (∃ v, e = .returned v) ∧ J vs.length W' := by
  refine callsIn_of_wp Tryd.func88 rfl h8 ?_ hro
  obtain ⟨len, hlen⟩ : ∃ len, len = vs.length := ⟨_, rfl⟩
  rw [← hlen] at hY hBs hreach ⊢
  have HN := Lib.hid hlen
  clear hlen
  simp only [Tryd.ntmps88, List.size_toArray, List.length_cons, List.length_nil, Nat.reduceAdd, Nat.reduceSub, Array.replicate_succ, Array.replicate_zero, List.push_toArray, List.append_toArray, List.nil_append, List.cons_append]
  gi_wp2
  gi_loopw [3] (fun v3 wr => ∃ j : Nat, j ≤ len ∧ v3 = .int .i64 ((j : Int) - 1) ∧ J (len - j) wr ∧ OnlyS S W wr)
    (fun v3 _ => (intOf v3 + 1).toNat)
  case atStart => exact ⟨len, Nat.le_refl _, rfl, by rw [Nat.sub_self]; exact h0, OnlyS.refl _ _⟩
  case round =>
    obtain ⟨j, hj, rfl, hJs, hnx⟩ := hrel
    have hbs := hnx.cell hBs hBn
    by_cases h00 : 0 < j
    · obtain ⟨i, rfl⟩ : ∃ i, j = i + 1 := ⟨j - 1, by omega⟩
      have hji : (((i + 1 : Nat) : Int) - 1) = (i : Int) := by omega
      rw [hji]
      have hil : i < vs.length := by rw [← HN.out]; omega
      have hcx := hnx.cell (hc i _ (List.getElem?_eq_getElem hil)) hb
      obtain ⟨fn, tmps, assign, body, hy, hR⟩ := hY (len - (i + 1)) wr hJs (by omega)
      have he : encB vs (len - (i + 1)) = #[.int .i64 (i : Int), vs[i]] := by unfold encB; rw [show vs.length - 1 - (len - (i + 1)) = i by have := HN.out; omega]; simp [hil]
      rw [he] at hy
      generalize vs[i] = u at *
      have hii : (i : Int) < (len : Int) := by omega
      gi_wp2
      refine hR.mono ?_
      rintro e W3 ⟨rfl, hJ3, hk3⟩
      gi_wp2
      go_roundw
      case rel => exact ⟨i, by omega, by go_num, by rw [show len - i = (len - (i + 1)) + 1 by omega]; exact hJ3, hnx.trans hk3⟩
      case measure => simp [intOf]
    · obtain rfl : j = 0 := by omega
      have hz : (((0 : Nat) : Int) - 1) = -1 := rfl
      rw [hz]
      gi_wp2
      go_end0
      exact ⟨⟨_, rfl⟩, hJs⟩
set_option maxHeartbeats 1000000 in
/-- slices.Backward: the slice is boxed; the function value holds the box. -/
theorem backward_in (F : Fence) (n : Nat) (h6 : F.fn 77) (hro : F.round = none) (a : Option Addr) (len cap : Nat) (w : World) :
    CallsIn F n Tryd.prog 77 #[.slice a len cap] w fun e w' => e = .returned (.func (.func 88) #[] #[.pointer (some ⟨w.heap.size, 0, none⟩)]) ∧ w' = w.alloc (.cells #[.slice a len cap] 126) := by
  refine callsIn_of_wp Tryd.func77 rfl h6 ?_ hro
  simp only [Tryd.ntmps77, List.size_toArray, List.length_cons, List.length_nil, Nat.reduceAdd, Nat.reduceSub, Array.replicate_succ, Array.replicate_zero, List.push_toArray, List.append_toArray, List.nil_append, List.cons_append]
  gi_wp2
  go_ret
  exact ⟨rfl, rfl⟩
theorem back_row (F : Fence) (n : Nat) (h8 : F.fn 88) (hro : F.round = none) (hn : 1 ≤ n) (S : Nat → Prop) (Bs b cap : Nat) (vs : List Value) (hreach : vs.length ≤ 64) (w : World) (hBs : ¬ S Bs) (hb : ¬ S b)
    (hc : w.cell? ⟨Bs, 0, none⟩ = some (.slice (some ⟨b, 0, none⟩) vs.length cap)) (hI : ∀ j u, vs[j]? = some u → w.cell? ⟨b, j, none⟩ = some u) (W : World) (hW : Below w.heap.size w W) :
    SeqRow F n Tryd.prog 88 #[.pointer (some ⟨Bs, 0, none⟩)] (encB vs) (OnlyS S) vs.length W := fun l J hY h0 =>
  back1_in F n h8 hro hn S l Bs b cap vs hreach hb hBs J hY W ((hW.cell (p := ⟨Bs, 0, none⟩) (block_lt_of_cell hc)).trans hc) (fun j u hu => (hW.cell (p := ⟨b, j, none⟩) (block_lt_of_cell (hI j u hu))).trans (hI j u hu)) h0
end Go.Proofs.YtphdcgioeokfbaaDoor
