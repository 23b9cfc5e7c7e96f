/-
  Merged, in the order in which they build: Dor SignsProof.
-/
import Derived.Test.YtphdcgioeokfbaaDoorTie
import Derived.Test.YtphdcgioeokfbaaDoorCards
import Derived.ProofKit
import Derived.LaidMore
import Derived.OpenShut
import Derived.ShutString
import Derived.ChangeOld
import Derived.Below
import Derived.Stop.Joined
import Derived.Lib.LaidTab
import Derived.SevenTiedAt
import Derived.Deep.MidRow
import Derived.Lay
import Derived.Test.YtphdcgioeokfbaaDoorMg47
import Derived.Test.YtphdcgioeokfbaaDoorMg48
import Derived.Test.YtphdcgioeokfbaaDoorMg51
/-
  From the rows' memory to the walks' words: what the three listed variables hold.
-/
namespace Go.Proofs.YtphdcgioeokfbaaDoor
open Go.ChangeShapes Go.WideShapes Go.ChangeAt Go.RowKit

theorem own : ownKnob Tryd.prog.godebug = none := by kernel_rfl
theorem laidOut : laidOutB Tryd.prog = true := by kernel_rfl
def laid3 : List (String × DataW Unit) := [("portolan/deflate.order", Rows.laid_portolan_deflate_order), ("portolan/deflate.longs", Rows.laid_portolan_deflate_longs), ("portolan/deflate.fars", Rows.laid_portolan_deflate_fars)]
def ordI : List Int := Inf.order.map Int.ofNat
/-- A table of pairs as a row lists it. -/
def pairData (zs : List (Nat × Nat)) : DataW Unit := .agg (zs.map fun z => .agg [.lit (.int .i64 (z.1 : Int)), .lit (.int .i64 (z.2 : Int))])
theorem dOrd : (Rows.laid_portolan_deflate_order : DataW Unit) = Lib.tabData .i64 ordI := by kernel_rfl
theorem dLongs : (Rows.laid_portolan_deflate_longs : DataW Unit) = pairData Df.longs := by kernel_rfl
theorem dFars : (Rows.laid_portolan_deflate_fars : DataW Unit) = pairData Df.fars := by kernel_rfl
theorem gOrd : Tryd.prog.globalNamed "portolan/deflate.order" = some 2 := by kernel_rfl
theorem tOrd : (Tryd.prog.globals[2]?).map (·.type) = some 99 := by kernel_rfl
theorem gLongs : Tryd.prog.globalNamed "portolan/deflate.longs" = some 0 := by kernel_rfl
theorem tLongs : (Tryd.prog.globals[0]?).map (·.type) = some 31 := by kernel_rfl
theorem gFars : Tryd.prog.globalNamed "portolan/deflate.fars" = some 1 := by kernel_rfl
theorem tFars : (Tryd.prog.globals[1]?).map (·.type) = some 33 := by kernel_rfl
/-- The cells of a table of pairs. -/
theorem cells_of_pairs {w : World} {base : Nat} {sp : Nat → Bool} {held : Bool} {fuel : Nat} {t e : TypeId} {n : Nat} {f0 f1 : Field} {cs : List Value} {zs : List (Nat × Nat)} {p : List MemPlace}
    (ht : Tryd.prog.underlying t = some (.array n e)) (he : Tryd.prog.underlying e = some (.struct #[f0, f1])) (hce : Tryd.prog.cellsOf e = 2) (h30 : Tryd.prog.underlying f0.type = some (.int .i64)) (h31 : Tryd.prog.underlying f1.type = some (.int .i64)) (c30 : Tryd.prog.cellsOf f0.type = 1) (c31 : Tryd.prog.cellsOf f1.type = 1) (o0 : f0.offset = 0) (o1 : f1.offset = 1)
    (h : DataW.trod (fun _ => ()) Tryd.prog w base sp held fuel t cs = some (pairData zs, p)) (k : Nat) (hk : k < zs.length) : cs[k * 2]? = some (.int .i64 ((zs.getD k (0, 0)).1 : Int)) ∧ cs[k * 2 + 1]? = some (.int .i64 ((zs.getD k (0, 0)).2 : Int)) := by
  cases fuel with
  | zero => simp [DataW.trod] at h
  | succ fuel =>
    unfold DataW.trod at h
    rw [ht] at h
    simp only [hce] at h
    split at h
    · rename_i hl
      obtain ⟨xs, hm, hx⟩ := Option.map_eq_some_iff.1 h
      have hxs : xs.map (·.1) = zs.map fun z => (DataW.agg [.lit (.int .i64 (z.1 : Int)), .lit (.int .i64 (z.2 : Int))] : DataW Unit) := by
        have := congrArg Prod.fst hx
        simpa [pairData] using this
      have hxl : xs.length = n := by simpa using Lib.mapM_length hm
      have hzl : zs.length = n := by
        have := congrArg List.length hxs
        simp at this
        omega
      obtain ⟨b, hb, hf⟩ := Lib.mapM_at hm k k (List.getElem?_range (by omega))
      obtain ⟨y0, y1, m, hbe, _, d0, d1⟩ := trod_struct2 he hf
      rw [o0, c30] at d0
      rw [o1, c31] at d1
      obtain ⟨z0, hc0, rfl, _⟩ := DataW.trod_int h30 d0
      obtain ⟨z1, hc1, rfl, _⟩ := DataW.trod_int h31 d1
      have h2 : (xs.map (·.1))[k]? = some b.1 := by simp [hb]
      rw [hxs, hbe] at h2
      rw [List.getElem?_map, List.getElem?_eq_getElem hk] at h2
      simp only [Option.map_some, Option.some.injEq, DataW.agg.injEq, List.cons.injEq, DataW.lit.injEq, Lit.int.injEq, true_and, and_true] at h2
      obtain ⟨e0, e1⟩ := h2
      have g0 : cs[k * 2]? = some (.int .i64 z0) := by
        have := congrArg (·[0]?) hc0
        simpa [List.getElem?_take, List.getElem?_drop] using this
      have g1 : cs[k * 2 + 1]? = some (.int .i64 z1) := by
        have := congrArg (·[0]?) hc1
        simpa [List.getElem?_take, List.getElem?_drop, Nat.add_comm] using this
      have hg : zs.getD k (0, 0) = zs[k] := by rw [List.getD_eq_getElem?_getD, List.getElem?_eq_getElem hk]; rfl
      rw [g0, g1, hg, e0, e1]
      exact ⟨rfl, rfl⟩
    · cases h
theorem tab_at {W : World} {g t : Nat} {name : String} {n : Nat} {e : TypeId} {f0 f1 : Field} {cs : Array Value} {zs : List (Nat × Nat)} {fuel : Nat} {p : List MemPlace} (hg : Tryd.prog.globalNamed name = some g) (hv : W.var? Tryd.prog name = some cs) 
    (ht : Tryd.prog.underlying t = some (.array n e)) (he : Tryd.prog.underlying e = some (.struct #[f0, f1])) (hce : Tryd.prog.cellsOf e = 2) (h30 : Tryd.prog.underlying f0.type = some (.int .i64)) (h31 : Tryd.prog.underlying f1.type = some (.int .i64)) (c30 : Tryd.prog.cellsOf f0.type = 1) (c31 : Tryd.prog.cellsOf f1.type = 1) (o0 : f0.offset = 0) (o1 : f1.offset = 1)
    (h : DataW.trod (fun _ => ()) Tryd.prog W 0 (fun _ => true) false fuel t cs.toList = some (pairData zs, p)) : TabAt g zs W := fun k hk => by
  obtain ⟨h0, h1⟩ := cells_of_pairs ht he hce h30 h31 c30 c31 o0 o1 h k hk
  rw [World.var?_cell hg hv, World.var?_cell hg hv, ← Array.getElem?_toList, ← Array.getElem?_toList]
  exact ⟨h0, h1⟩
theorem of_laid3 {W : World} (h : laidMetH Tryd.prog laid3 W) : Glb W W.heap.size := by
  rw [MakeChecks.laidMetH_plain _ _ _ (by kernel_rfl)] at h
  obtain ⟨ps, ⟨g0, t0, cs0, f0, p0, q0, hg0, ht0, hv0, hd0, ⟨g1, t1, cs1, f1, p1, q1, hg1, ht1, hv1, hd1, ⟨g2, t2, cs2, f2, p2, q2, hg2, ht2, hv2, hd2, _⟩, _⟩, _⟩, _, _⟩ := h
  obtain rfl := Option.some.inj (gOrd.symm.trans hg0)
  obtain rfl := Option.some.inj (tOrd.symm.trans ht0)
  obtain rfl := Option.some.inj (gLongs.symm.trans hg1)
  obtain rfl := Option.some.inj (tLongs.symm.trans ht1)
  obtain rfl := Option.some.inj (gFars.symm.trans hg2)
  obtain rfl := Option.some.inj (tFars.symm.trans ht2)
  rw [dOrd] at hd0
  rw [dLongs] at hd1
  rw [dFars] at hd2
  have hL : TabAt 0 Df.longs W := tab_at hg1 hv1 Tryd.underlying31 Tryd.underlying30 (by kernel_rfl) (by kernel_rfl) (by kernel_rfl) (by kernel_rfl) (by kernel_rfl) rfl rfl hd1
  have hF : TabAt 1 Df.fars W := tab_at hg2 hv2 Tryd.underlying33 Tryd.underlying30 (by kernel_rfl) (by kernel_rfl) (by kernel_rfl) (by kernel_rfl) (by kernel_rfl) rfl rfl hd2
  have hO : OrdAt W := by
    have e0 := Lib.cells_of_tab Tryd.underlying99 Tryd.underlying3 (by kernel_rfl) (by kernel_rfl) hd0
    intro i hi
    have := World.var?_cell hg0 hv0 i
    rw [this, ← Array.getElem?_toList, e0]
    unfold ordI
    have hl : i < Inf.order.length := hi
    rw [List.getElem?_map, List.getElem?_map, List.getElem?_eq_getElem hl, List.getD_eq_getElem?_getD, List.getElem?_eq_getElem hl]
    rfl
  exact ⟨⟨hL, hF⟩, hO, ⟨block_lt_of_cell (hL 0 (by decide)).1, block_lt_of_cell (hF 0 (by decide)).1, block_lt_of_cell (hO 0 (by decide))⟩⟩
end Go.Proofs.YtphdcgioeokfbaaDoor
/-
  Proved: for any two numbers, what Long and Far tell of them is as the law asks, and the package wakes
  Conditions: the three tables that the row names (the spans of lengths and of distances, the order) hold what the program's text lays (the card ties them).
-/
namespace Go.Proofs.YtphdcgioeokfbaaDoor
open Go.ChangeShapes Go.WideShapes Go.ChangeAt Go.RowKit

set_option maxRecDepth 100000 in
theorem signs_lifted (os : Os) (started : os.Started) (H : Type) (enc : TypeId × Value → H) :
    ReturnsInHanded {} Tryd.checked os 3 .any (fun w args => (Rows.deflateSignsSpec.pre enc Tryd.prog Tryd.f3 [] false w args ∧ laidMetH Tryd.prog laid3 w) ∧ sizedMet enc Tryd.prog Tryd.f3 (OpenSpec.ofChange Rows.deflateSignsSpec) false w args)
      (Rows.deflateSignsSpec.post enc Tryd.prog Tryd.f3 false true false false) := by
  refine returnsInHanded_of_change_and (C := Tryd.checked) (X := fun w _ => laidMetH Tryd.prog laid3 w) (fun _ _ _ hh h => h.of_heap hh) own started (by kernel_rfl) Tryd.func3
    (ChangeSpec.witness_shaped (enc := enc) (C := Tryd.checked) (os := os) (X := fun w _ => laidMetH Tryd.prog laid3 w) false (World.laidAll Tryd.prog os laid3) #[.int .i64 0, .int .i64 0] 8 (World.laidAll_os _ _ _) (World.shaped_of_ZipB (by kernel_rfl) (by kernel_rfl)) (by kernel_rfl) (by kernel_rfl) (by kernel_rfl) (by rw [MakeChecks.laidMetH_plain _ _ _ (by kernel_rfl)]; exact laidMet_laidAll _ (by kernel_rfl) (by kernel_rfl))) ?_
  intro W base args ds gs before hval0 hW _ _ hL _
  have hval : ∀ (j : Nat) t v, Tryd.f3.params[j]? = some t → args[j]? = some v → Value.okWide Tryd.prog W .any base t v := hval0
  have hW' := hW
  obtain ⟨p, q, hA0, hV, rfl, hfz, hnd⟩ := hW
  have hA : DataW.TrodAll enc Tryd.prog W 0 (fun _ => true) true Tryd.f3.params.toList args.toList ds p := hA0
  rw [Tryd.params3] at hA hval
  obtain ⟨v0, vs0, d0, ds0, p0, q0, hargs, rfl, rfl, h0, r0⟩ := trodAll_cons hA
  obtain ⟨v1, vs1, d1, ds1, p1, q1, rfl, rfl, rfl, h1, r1⟩ := trodAll_cons r0
  obtain ⟨rfl, rfl, rfl⟩ := trodAll_nil r1
  obtain rfl : args = #[v0, v1] := by cases args; simp_all
  obtain ⟨rfl, rfl⟩ := trodVars_none hV
  have lt : ∀ {t v d p}, DataW.Trod enc Tryd.prog W 0 (fun _ => true) true t v d p → ∀ x ∈ p, x.block < W.heap.size := fun h => by obtain ⟨m, hm⟩ := h; exact DataW.trod_lt m _ _ _ hm
  have hP := of_laid3 hL
  have hwalk : Calls Tryd.prog 3 #[v0, v1] W fun e w' => e = .returned (.bool true) ∧ OnlyS (fun _ => False) W w' := by
    obtain ⟨n, rfl, _, _, _⟩ := open_int Tryd.underlying3 (hval 0 3 v0 rfl rfl) h0
    obtain ⟨m, rfl, _, _, _⟩ := open_int Tryd.underlying3 (hval 1 3 v1 rfl rfl) h1
    exact signs_walk W n m hP
  clear hA0 hval0
  refine hwalk.mono fun e W' ⟨he, ho⟩ => ?_
  subst he
  have bel : Below W.heap.size W W' := ho.below (Nat.le_refl _) (fun _ h => h.elim)
  exact ⟨_, rfl, _, _, _, [], _, [], hW', trodAll_mk1 (shut_bool Tryd.underlying4 _), (trodAll_cons_mk (Below.trod laidOut (by kernel_rfl) (of_decide_eq_true (by kernel_rfl)) h0 bel (lt h0)) (trodAll_cons_mk (Below.trod laidOut (by kernel_rfl) (of_decide_eq_true (by kernel_rfl)) h1 bel (lt h1)) trodAll_mk0)), rfl, bel.frame _, fun h => by cases h⟩

theorem signs_holds : Rows.DeflateSignsSaid :=
  OpenClaim.holds_of_wide 3 Tryd.f3 rfl rfl rfl rfl rfl rfl rfl ⟨rfl, rfl, rfl, rfl, rfl⟩ rfl rfl rfl rfl rfl (by kernel_rfl) Tryd.func3 (by kernel_rfl)
    (of_decide_eq_true (by kernel_rfl)) (by unfold Func.isWrapper; first | (rw [if_pos (by decide +kernel)]; kernel_rfl) | (rw [if_neg (by decide +kernel)]; exact ⟨rfl, rfl⟩))
    (fun os started H enc _ => signs_lifted os started H enc)

theorem signs_card : Rows.DeflateSignsCardSaid :=
  Claim7.holds_tied_plain_at .later [] [.data, .data, .data] true (true, "5b3542337f0b5506e8b7c8c4d787e5b3a90387193bc32684dcea6113725730a4") false
    signs_holds (fun _ h => by cases h) (by kernel_rfl) (fun _ h => by cases h) deflateSigns_row_tie rfl ⟨rfl, rfl⟩ (by kernel_rfl) rfl
    (fun f fn hf hfn => by
      obtain rfl : f = 3 := Option.some.inj ((show Tryd.prog.funcNamed "portolan/portolanlaw07.DeflateSigns" = some 3 by kernel_rfl).symm.trans hf) |>.symm
      obtain rfl : fn = Tryd.f3 := (Option.some.inj (Tryd.func3.symm.trans hfn)).symm
      exact ⟨by kernel_rfl, fun j t ht => by
        rw [Tryd.params3] at ht
        have h3 : t = 3 := by
          rcases j with _ | _ | j
          · simpa using ht.symm
          · simpa using ht.symm
          · simp at ht
        subst h3
        exact (show Tryd.prog.wantsStandIn 3 = false by kernel_rfl)⟩)
    (by kernel_rfl)
#print axioms signs_card
end Go.Proofs.YtphdcgioeokfbaaDoor
