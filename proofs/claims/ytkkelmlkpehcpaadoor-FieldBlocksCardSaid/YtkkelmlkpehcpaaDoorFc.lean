/-
  Blocks: the same bytes; Zero, hasMagic, Check.
-/
import Derived.Test.YtkkelmlkpehcpaaDoorFs
import Derived.ChangeKeysEq
namespace Go.Proofs.YtkkelmlkpehcpaaDoor
open Go.RowKit

theorem part5 (l : List UInt8) (i : Nat) (hi : i < l.length) (w : World) : (part 5 (bl l).toArray (i * 1)).run Tryd.prog w = .ok (.int .u8 (bi (l.getD i 0))) w := by
  have h5 : (isAgg 5).run Tryd.prog w = .ok false w := by kernel_rfl
  have hat : (bl l).toArray[i]? = some (.int .u8 (bi (l.getD i 0))) := by simp [bl, hi]
  simp only [part, Sem.run_bind, h5, Result.andThen_ok, Nat.mul_one, hat]
  rfl
theorem items5 (a b : List UInt8) (w : World) : ∀ (is : List Nat), (∀ i ∈ is, i < a.length ∧ i < b.length) → (Op.eqItems 9999 5 1 (bl a).toArray (bl b).toArray is).run Tryd.prog w = .ok (is.all fun i => a.getD i 0 == b.getD i 0) w
  | [], _ => rfl
  | i :: is, h => by
    have hi := h i (by simp)
    have e : (Op.equalIn 9999 5 (.int .u8 (bi (a.getD i 0))) (.int .u8 (bi (b.getD i 0)))).run Tryd.prog w = .ok (a.getD i 0 == b.getD i 0) w := by
      rw [run_equalIn_int w 9998 5 .u8 .u8 _ _ Tryd.underlying5]
      have : (bi (a.getD i 0) == bi (b.getD i 0)) = (a.getD i 0 == b.getD i 0) := by
        rw [Bool.eq_iff_iff]; simp [bi_inj]
      rw [this]
    simp only [Op.eqItems, Sem.run_bind, part5 a i hi.1 w, part5 b i hi.2 w, e, Result.andThen_ok]
    cases hc : (a.getD i 0 == b.getD i 0)
    · rw [List.all_cons, hc]; rfl
    · simp only [List.all_cons, hc, Bool.true_and]
      exact items5 a b w is (fun j hj => h j (by simp [hj]))
theorem all_same (a b : List UInt8) (n : Nat) (ha : a.length = n) (hb : b.length = n) : ((List.range n).all fun i => a.getD i 0 == b.getD i 0) = (a == b) := by
  rw [Bool.eq_iff_iff, List.all_eq_true]
  simp only [List.mem_range, beq_iff_eq]
  constructor
  · intro h
    apply List.ext_getElem (by rw [ha, hb])
    intro i h1 h2
    have := h i (by omega)
    simpa [h1, h2] using this
  · intro h; subst h; simp
theorem same512 (a b : List UInt8) (ha : a.length = 512) (hb : b.length = 512) (w : World) : (Op.equalIn 10000 40 (.agg (bl a).toArray) (.agg (bl b).toArray)).run Tryd.prog w = .ok (a == b) w := by
  obtain ⟨i0, hi, hz0, hz1, hz2⟩ := info_parts info5
  rw [run_equalIn_array w 9999 _ _ Tryd.underlying40 hi]
  have e : Tryd.prog.cellsOf 5 = 1 := by kernel_rfl
  rw [e, items5 a b w _ (fun i hi => by have := List.mem_range.1 hi; omega), all_same a b 512 ha hb]
theorem wpList_wanted {P : Program} {ops : Array Oper} {rest : List Oper} {o : Oper} {a : Act} {w : World} {Q : Exit → Act → World → Prop} (hg : Region.wanted o (yielded ops a.tmps) = true)
    (h : ∀ K : Act → World → Prop, (∀ a w, wpList P ops Q rest a w → K a w) → o.wp P a w K Q) : wpList P ops Q (o :: rest) a w :=
  wpList_step fun K hK => by rw [hg]; simp only [if_true]; exact h K hK
theorem wpList_load_rowG {P : Program} {ops : Array Oper} {rest : List Oper} {o : Oper} {a : Act} {w : World} {Q : Exit → Act → World → Prop} (hgd : Region.wanted o (yielded ops a.tmps) = true) (ty : TypeId) (x : Operand) (ho : o.op = .load ty x)
    (g : Nat) (hx : a.eval x = .pointer (some ⟨g, 0, none⟩)) (t : TypeId) (cs : Array Value) (fr : Nat × Nat) (d : TypeDesc) (hg : w.heap[g]? = some (.cells cs t fr))
    (hu : P.underlying ty = some d) (hd : (match d with | .struct _ | .array _ _ => true | _ => false) = true) (hi : (P.info? ty).map (·.size) = some cs.size)
    (h : wpList P ops Q rest (a.put o.dst (.agg cs)) w) : wpList P ops Q (o :: rest) a w :=
  wpList_wanted hgd fun _ hK => wp_load_row ty x ho g hx t cs fr d hg hu hd hi (hK _ _ h)
theorem wpList_buildXG {P : Program} {w : World} {ops : Array Oper} {rest : List Oper} {o : Oper} {a : Act} {Q : Exit → Act → World → Prop} (hg : Region.wanted o (yielded ops a.tmps) = true) (t : TypeId) (parts : Array (Nat × Operand)) (ho : o.op = .build t parts)
    (cs : Array Value) (hf : P.built t (parts.map fun (i, x) => (i, a.eval x)).toList = some cs)
    (h : wpList P ops Q rest (a.put o.dst (.agg cs)) w) : wpList P ops Q (o :: rest) a w :=
  wpList_wanted hg fun _ hK => wp_build t parts ho (by rw [hf]; rfl) (hK _ _ (by rw [hf]; exact h))
theorem built512 : Tryd.prog.built 40 [] = some (bl (List.replicate 512 0)).toArray := by kernel_rfl
theorem guard512 : Tryd.prog.eqGuardType Tryd.prog.depth 40 = false := by kernel_rfl
set_option maxRecDepth 100000 in
set_option maxHeartbeats 1000000 in
theorem zero_walk (w : World) (g : Nat) (l : List UInt8) (h : BlkAt w g l) : Calls Tryd.prog 28 #[.pointer (some ⟨g, 0, none⟩)] w fun e w' => e = .returned (.bool (l == List.replicate 512 0)) ∧ w = w' := by
  have H := Lib.hid h
  have HI := Lib.hid (bl_size l h.len)
  have hgd := guard512
  have hs : ∀ w, (Op.equalIn 10000 40 (.agg (bl l).toArray) (.agg Tryd.zeroCells40)).run Tryd.prog w = .ok (l == List.replicate 512 0) w := fun w => by rw [zero512]; exact same512 l (List.replicate 512 0) h.len (by simp) w
  clear h
  go_enter Tryd.func28, Tryd.ntmps28
  go_wp2_with ((refine wpList_load_rowG rfl 40 _ rfl g rfl 40 (bl l).toArray (0, 0) _ H.out.row Tryd.underlying40 rfl HI.out ?_))
  go_ret
  exact ⟨rfl, rfl⟩
/-- Whether ustar's magic stands there. -/
def magicB (l : List UInt8) : Bool := fpart l 257 6 == [117, 115, 116, 97, 114, 0] || fpart l 257 6 == [117, 115, 116, 97, 114, 32]
theorem place_mag : place [109, 97, 103, 105, 99] = some (257, 6) := by decide
set_option maxRecDepth 100000 in
set_option maxHeartbeats 1000000 in
theorem magic_walk (w : World) (g : Nat) (l : List UInt8) (h : BlkAt w g l) : Calls Tryd.prog 42 #[.pointer (some ⟨g, 0, none⟩)] w fun e w' => e = .returned (.bool (magicB l)) ∧ Below w.heap.size w w' := by
  have H := Lib.hid h
  have HC := Lib.hid (part_some w g ⟨#[109, 97, 103, 105, 99]⟩ (by decide) 257 6 place_mag)
  clear h
  go_enter Tryd.func42, Tryd.ntmps42
  go_wp2_with ((with_reducible refine HC.out.mono ?_); rintro e w1 ⟨rfl, hb⟩; have HB := Lib.hid hb; clear hb; have c1 := run_toString ((H.out.below HB.out H.out.lt).piece 257 6 255 (by decide) (by decide)))
  all_goals
    first
      | (go_ret; exact ⟨rfl, HB.out⟩)
      | (have e : magicB l = true := (by unfold magicB fpart; simp [*]); rw [e]; go_ret; exact ⟨rfl, HB.out⟩)
/-- The answer of Check. -/
def checkF (l : List UInt8) : Int := if (Fx.num (fpart l 148 8)).2 ≠ 0 ∨ magicB l = false then 5 else if (Fx.num (fpart l 148 8)).1 ≠ (sumF l : Int) then 21 else 0
def CheckPost (l : List UInt8) (w : World) (e : Ending) (w' : World) : Prop := e = .returned (.int .i64 (checkF l)) ∧ Below w.heap.size w w'
set_option maxRecDepth 100000 in
set_option maxHeartbeats 1000000 in
theorem check_walk (w : World) (g : Nat) (l : List UInt8) (h : BlkAt w g l) : Calls Tryd.prog 26 #[.pointer (some ⟨g, 0, none⟩)] w (CheckPost l w) := by
  have H := Lib.hid h
  have HC := Lib.hid (part_some w g ⟨#[99, 104, 107, 115, 117, 109]⟩ (by decide) 148 8 place_chk)
  have hfl : (fpart l 148 8).length = 8 := by simp [fpart, h.len]
  have HFL := Lib.hid hfl
  obtain ⟨x, e, he⟩ : ∃ x e, Fx.num (fpart l 148 8) = (x, e) := ⟨_, _, rfl⟩
  have HE := Lib.hid he
  clear h he hfl
  have tail : ∀ w1, Below w.heap.size w w1 → BlkAt w1 g l ∧ SlV w1 (.slice (some ⟨g, 148, none⟩) 8 364) (bl (fpart l 148 8)) := fun w1 hb => ⟨H.out.below hb H.out.lt, (H.out.below hb H.out.lt).piece 148 8 364 (by decide) (by decide)⟩
  have HT := Lib.hid tail
  clear tail
  by_cases h1 : e = 0
  · subst h1
    cases hm : magicB l with
    | false =>
      have HK : Hid (checkF l = 5) := Lib.hid (if_pos (.inr hm))
      have HM := Lib.hid hm
      unfold CheckPost
      rw [HK.out]
      clear hm
      go_enter Tryd.func26, Tryd.ntmps26
      go_wp2_with (first
        | ((with_reducible refine HC.out.mono ?_); rintro e w1 ⟨rfl, hb⟩; have HB := Lib.hid hb; clear hb; have HS := Lib.hid (HT.out w1 HB.out))
        | ((with_reducible refine (number_walk w1 _ _ HS.out.2 (by rw [HFL.out]; decide)).mono ?_); rw [HE.out]; rintro e w2 ⟨rfl, rfl⟩)
        | ((with_reducible refine (magic_walk w1 g l HS.out.1).mono ?_); rw [HM.out]; rintro e w3 ⟨rfl, hb3⟩; have HB3 := Lib.hid hb3; clear hb3))
      go_ret
      exact ⟨rfl, HB.out.trans (HB3.out.mono HB.out.size)⟩
    | true =>
      have HM := Lib.hid hm
      clear hm
      by_cases hx : x = (sumF l : Int)
      · subst hx
        have HK : Hid (checkF l = 0) := Lib.hid (by unfold checkF; rw [if_neg (by rw [HE.out, HM.out]; simp), if_neg (by rw [HE.out]; simp)])
        unfold CheckPost
        rw [HK.out]
        go_enter Tryd.func26, Tryd.ntmps26
        go_wp2_with (first
          | ((with_reducible refine HC.out.mono ?_); rintro e w1 ⟨rfl, hb⟩; have HB := Lib.hid hb; clear hb; have HS := Lib.hid (HT.out w1 HB.out))
          | ((with_reducible refine (number_walk w1 _ _ HS.out.2 (by rw [HFL.out]; decide)).mono ?_); rw [HE.out]; rintro e w2 ⟨rfl, rfl⟩)
          | ((with_reducible refine (magic_walk w1 g l HS.out.1).mono ?_); rw [HM.out]; rintro e w3 ⟨rfl, hb3⟩; have HB3 := Lib.hid (HB.out.trans (hb3.mono HB.out.size)); clear hb3)
          | ((with_reducible refine (sum_walk w3 g l (HT.out w3 HB3.out).1).mono ?_); rintro e w4 ⟨rfl, hb4⟩; have HB4 := Lib.hid (HB3.out.trans (hb4.mono HB3.out.size)); clear hb4))
        go_ret
        exact ⟨rfl, HB4.out⟩
      · have HK : Hid (checkF l = 21) := Lib.hid (by unfold checkF; rw [if_neg (by rw [HE.out, HM.out]; simp), if_pos (by rw [HE.out]; exact hx)])
        have t1 : (x == (sumF l : Int)) = false := by rw [beq_eq_false_iff_ne]; exact hx
        have t2 : (x != (sumF l : Int)) = true := by rw [bne_iff_ne]; exact hx
        have t3 : decide (x = (sumF l : Int)) = false := decide_eq_false hx
        unfold CheckPost
        rw [HK.out]
        clear hx
        go_enter Tryd.func26, Tryd.ntmps26
        go_wp2_with (first
          | ((with_reducible refine HC.out.mono ?_); rintro e w1 ⟨rfl, hb⟩; have HB := Lib.hid hb; clear hb; have HS := Lib.hid (HT.out w1 HB.out))
          | ((with_reducible refine (number_walk w1 _ _ HS.out.2 (by rw [HFL.out]; decide)).mono ?_); rw [HE.out]; rintro e w2 ⟨rfl, rfl⟩)
          | ((with_reducible refine (magic_walk w1 g l HS.out.1).mono ?_); rw [HM.out]; rintro e w3 ⟨rfl, hb3⟩; have HB3 := Lib.hid (HB.out.trans (hb3.mono HB.out.size)); clear hb3)
          | ((with_reducible refine (sum_walk w3 g l (HT.out w3 HB3.out).1).mono ?_); rintro e w4 ⟨rfl, hb4⟩; have HB4 := Lib.hid (HB3.out.trans (hb4.mono HB3.out.size)); clear hb4))
        go_ret
        exact ⟨rfl, HB4.out⟩
  · have HK : Hid (checkF l = 5) := Lib.hid (if_pos (.inl (by rw [HE.out]; exact h1)))
    have t1 : (e == 0) = false := by rw [beq_eq_false_iff_ne]; exact h1
    have t2 : (e != 0) = true := by rw [bne_iff_ne]; exact h1
    have t3 : decide (e = 0) = false := decide_eq_false h1
    unfold CheckPost
    rw [HK.out]
    clear h1
    go_enter Tryd.func26, Tryd.ntmps26
    go_wp2_with (first
      | ((with_reducible refine HC.out.mono ?_); rintro e9 w1 ⟨rfl, hb⟩; have HB := Lib.hid hb; clear hb; have HS := Lib.hid (HT.out w1 HB.out))
      | ((with_reducible refine (number_walk w1 _ _ HS.out.2 (by rw [HFL.out]; decide)).mono ?_); rw [HE.out]; rintro e9 w2 ⟨rfl, rfl⟩))
    go_ret
    exact ⟨rfl, HB.out⟩
end Go.Proofs.YtkkelmlkpehcpaaDoor
