/-
  The map of fields' places; a field's bytes in a block.
-/
import Derived.Test.YtkkelmlkpehcpaaDoorFk
import Derived.Maps.OwnOps
import Derived.OpenShut
import Derived.StringKeys
import Derived.Carry
namespace Go.Proofs.YtkkelmlkpehcpaaDoor
open Go.RowKit Go.Maps

/-- How a pair reads. -/
def R2 (v : Value) : Option (DataW Unit × List MemPlace) := match v with
  | .agg cs => match cs.toList with
    | [.int .i64 a, .int .i64 b] => some (.agg [.lit (.int .i64 a), .lit (.int .i64 b)], [])
    | _ => none
  | _ => none
theorem R2_inv {v : Value} {a b : Int} {ps : List MemPlace} (h : R2 v = some (.agg [.lit (.int .i64 a), .lit (.int .i64 b)], ps)) : v = .agg #[.int .i64 a, .int .i64 b] := by
  unfold R2 at h
  split at h
  · rename_i cs
    split at h
    · rename_i x y e
      simp only [Option.some.injEq, Prod.mk.injEq, DataW.agg.injEq, List.cons.injEq, DataW.lit.injEq, Lit.int.injEq, true_and, and_true] at h
      obtain ⟨⟨rfl, rfl⟩, _⟩ := h
      congr 1
      exact Array.ext' e
    · cases h
  · cases h
/-- The fields, each with its place and length. -/
abbrev Tab := List (List UInt8 × Nat × Nat)
def Tab.find (t : Tab) (s : List UInt8) : Option (Nat × Nat) := match t with
  | [] => none
  | (k, x) :: r => if k = s then some x else Tab.find r s
/-- The map tells what the table tells. -/
structure MapAt (w0 w : World) (b : Nat) (t : Tab) : Prop where
  below : Below w0.heap.size w0 w
  ge : w0.heap.size ≤ b
  own : ∃ D : DataW Unit, w.ownsMap Tryd.prog 9 R2 b t.length D ∧ ∀ s : List UInt8, match t.find s with
    | some (p, l) => Maps.has D (.string s) = true ∧ D.atKey (.string s) (.agg [.lit (.int .i64 0), .lit (.int .i64 0)]) = .agg [.lit (.int .i64 (p : Int)), .lit (.int .i64 (l : Int))]
    | none => Maps.has D (.string s) = false ∧ D.atKey (.string s) (.agg [.lit (.int .i64 0), .lit (.int .i64 0)]) = .agg [.lit (.int .i64 0), .lit (.int .i64 0)]
theorem key9 : Keyed Tryd.prog 9 := string_keyed Tryd.underlying9
theorem MapAt.start (w : World) : MapAt w (w.alloc (.map #[] 0)) w.heap.size [] :=
  ⟨(Below.refl _ _).alloc (Nat.le_refl _) _, Nat.le_refl _, .map [], World.ownsMap_made _ _ _ _, fun _ => ⟨rfl, rfl⟩⟩
theorem MapAt.step {w0 w : World} {b : Nat} {t : Tab} (h : MapAt w0 w b t) (s : ByteArray) (hs : s.size ≤ 100) (p l : Nat) (ht : t.length ≤ 100) :
    ∃ w', (Instr.mapUpdate 90 (.map (some b)) (.string s) (.agg #[.int .i64 (p : Int), .int .i64 (l : Int)])).run Tryd.prog w = .ok () w' ∧ MapAt w0 w' b ((s.data.toList, p, l) :: t) := by
  obtain ⟨D, ho, htell⟩ := h.own
  have hkey : keyOf Tryd.prog 9 (.string s) = some (.string s.data.toList) := WideMaps.keyOf_string_mk Tryd.underlying9 (by unfold maxLen; omega)
  obtain ⟨w', hrun, ho', htu⟩ := ho.store key9 Tryd.underlying90 (by unfold maxLen; omega) hkey (val := .agg #[.int .i64 (p : Int), .int .i64 (l : Int)]) (d := .agg [.lit (.int .i64 (p : Int)), .lit (.int .i64 (l : Int))]) (ps := []) rfl
  refine ⟨w', hrun, h.below.grown htu.grown h.below.size (fun k hk => by cases hk; exact h.ge), h.ge, _, ho', fun x => ?_⟩
  have hM := ho.isMap
  have hk := key9.key hkey
  by_cases hx : s.data.toList = x
  · rw [Tab.find, if_pos hx, ← hx]
    exact ⟨Maps.has_put_same hM hk _, Maps.atKey_put_same hM hk _ _⟩
  · rw [Tab.find, if_neg hx]
    have hne : (Lit.string x) ≠ .string s.data.toList := fun h => hx (Lit.string.inj h).symm
    rw [Maps.has_put_other hne, Maps.atKey_put_other hne]
    exact htell x
theorem wpList_ins {w0 w : World} {ops : Array Oper} {rest : List Oper} {o : Oper} {a : Act} {Q : Exit → Act → World → Prop} (hgd : o.guard = none) (m k v : Operand) (ho : o.op = .insert 90 m k v)
    (b : Nat) (t : Tab) (h : MapAt w0 w b t) (s : ByteArray) (hs : s.size ≤ 100) (p l : Nat) (ht : t.length ≤ 100) (hm : a.eval m = .map (some b)) (hk : a.eval k = .string s) (hv : a.eval v = .agg #[.int .i64 (p : Int), .int .i64 (l : Int)])
    (hK : ∀ w', MapAt w0 w' b ((s.data.toList, p, l) :: t) → wpList Tryd.prog ops Q rest (a.put o.dst undef) w') : wpList Tryd.prog ops Q (o :: rest) a w := by
  refine wpList_plain hgd fun K' hK' => ?_
  obtain ⟨w', hrun, r1⟩ := h.step s hs p l ht
  unfold Oper.wp
  simp [execOp, ho, hm, hk, hv, hrun, Result.andThen]
  exact hK' _ _ (hK w' r1)
def fields : Tab := [([110, 97, 109, 101], 0, 100), ([109, 111, 100, 101], 100, 8), ([117, 105, 100], 108, 8), ([103, 105, 100], 116, 8), ([115, 105, 122, 101], 124, 12), ([109, 116, 105, 109, 101], 136, 12), ([99, 104, 107, 115, 117, 109], 148, 8), ([116, 121, 112, 101], 156, 1),
  ([108, 105, 110, 107, 110, 97, 109, 101], 157, 100), ([109, 97, 103, 105, 99], 257, 6), ([118, 101, 114, 115, 105, 111, 110], 263, 2), ([117, 110, 97, 109, 101], 265, 32), ([103, 110, 97, 109, 101], 297, 32), ([100, 101, 118, 109, 97, 106, 111, 114], 329, 8), ([100, 101, 118, 109, 105, 110, 111, 114], 337, 8), ([112, 114, 101, 102, 105, 120], 345, 155)]
def PlacesPost (w : World) (e : Ending) (w' : World) : Prop := ∃ b, e = .returned (.map (some b)) ∧ MapAt w w' b fields.reverse
set_option maxRecDepth 100000 in
set_option maxHeartbeats 1000000 in
theorem places_walk (w : World) : Calls Tryd.prog 55 #[] w (PlacesPost w) := by
  have hm := MapAt.start w
  have hmm := @run_makeMap Tryd.prog
  go_enter Tryd.func55, Tryd.ntmps55
  go_wp2_with (refine wpList_ins rfl _ _ _ rfl w.heap.size _ hm _ (by decide) _ _ (by decide) rfl rfl rfl ?_; clear hm; intro w' hm)
  go_ret
  exact ⟨_, rfl, hm⟩
/-- Where a field stands, and how long it is. -/
def place (s : List UInt8) : Option (Nat × Nat) := Tab.find fields.reverse s
theorem place_in (s : List UInt8) (p l : Nat) (h : place s = some (p, l)) : p + l ≤ 500 ∧ p < 500 ∧ 0 < l := by
  have key : ∀ t : Tab, (∀ x ∈ t, x.2.1 + x.2.2 ≤ 500 ∧ x.2.1 < 500 ∧ 0 < x.2.2) → Tab.find t s = some (p, l) → p + l ≤ 500 ∧ p < 500 ∧ 0 < l := by
    intro t
    induction t with
    | nil => intro _ h; cases h
    | cons x r ih =>
      intro hx h
      unfold Tab.find at h
      split at h
      · have := hx x (List.mem_cons_self)
        rw [Option.some.inj h] at this
        exact this
      · exact ih (fun y hy => hx y (List.mem_cons_of_mem _ hy)) h
  exact key _ (by decide) h
def partV (g : Nat) (s : List UInt8) : Value := match place s with
  | some (p, l) => .slice (some ⟨g, p, none⟩) l (512 - p)
  | none => .slice none 0 0
def PartPost (g : Nat) (s : List UInt8) (w : World) (e : Ending) (w' : World) : Prop := e = .returned (.tuple #[partV g s, .bool (place s).isSome]) ∧ Below w.heap.size w w'
theorem arr512 : Tryd.prog.arrayLen 40 = 512 := by kernel_rfl
theorem elm512 : Tryd.prog.elem 40 = 5 := by kernel_rfl
/-- The look-up. -/
theorem MapAt.look {w0 w : World} {b : Nat} (h : MapAt w0 w b fields.reverse) (s : ByteArray) (hs : s.size ≤ maxLen) :
    ∃ p l : Nat, (Instr.lookup 90 (.map (some b)) (.string s) true).run Tryd.prog w = .ok (.tuple #[.agg #[.int .i64 (p : Int), .int .i64 (l : Int)], .bool (place s.data.toList).isSome]) w ∧ ∀ x, place s.data.toList = some x → x = (p, l) := by
  obtain ⟨D, ho, htell⟩ := h.own
  have hkey : keyOf Tryd.prog 9 (.string s) = some (.string s.data.toList) := WideMaps.keyOf_string_mk Tryd.underlying9 hs
  have hz : (zeroValue 88).run Tryd.prog w = .ok (.agg #[.int .i64 0, .int .i64 0]) w := by kernel_rfl
  obtain ⟨v, ps, hrun, hv⟩ := ho.look_ok key9 Tryd.underlying90 hz (zd := .agg [.lit (.int .i64 0), .lit (.int .i64 0)]) (zp := []) rfl hkey
  have ht := htell s.data.toList
  change match place s.data.toList with | some (p, l) => _ | none => _ at ht
  cases hp : place s.data.toList with
  | none =>
    rw [hp] at ht
    obtain ⟨t1, t2⟩ := ht
    rw [t2] at hv
    obtain rfl := R2_inv hv
    rw [t1] at hrun
    exact ⟨0, 0, hrun, fun x hx => by cases hx⟩
  | some x =>
    obtain ⟨p, l⟩ := x
    rw [hp] at ht
    obtain ⟨t1, t2⟩ := ht
    rw [t2] at hv
    obtain rfl := R2_inv hv
    rw [t1] at hrun
    exact ⟨p, l, hrun, fun x hx => by cases hx; rfl⟩
theorem MapAt.look0 {w0 w : World} {b : Nat} (h : MapAt w0 w b fields.reverse) (s : ByteArray) (hs : s.size ≤ maxLen) (hp : place s.data.toList = none) :
    ∃ p l : Nat, (Instr.lookup 90 (.map (some b)) (.string s) true).run Tryd.prog w = .ok (.tuple #[.agg #[.int .i64 (p : Int), .int .i64 (l : Int)], .bool false]) w := by
  obtain ⟨p, l, h1, _⟩ := h.look s hs
  rw [hp] at h1
  exact ⟨p, l, h1⟩
theorem MapAt.look1 {w0 w : World} {b : Nat} (h : MapAt w0 w b fields.reverse) (s : ByteArray) (hs : s.size ≤ maxLen) (p l : Nat) (hp : place s.data.toList = some (p, l)) :
    (Instr.lookup 90 (.map (some b)) (.string s) true).run Tryd.prog w = .ok (.tuple #[.agg #[.int .i64 (p : Int), .int .i64 (l : Int)], .bool true]) w := by
  obtain ⟨p', l', h1, h2⟩ := h.look s hs
  have := h2 _ hp
  rw [hp] at h1
  cases this
  exact h1
set_option maxRecDepth 100000 in
set_option maxHeartbeats 1000000 in
theorem part_none (w : World) (g : Nat) (s : ByteArray) (hs : s.size ≤ maxLen) (hp : place s.data.toList = none) :
    Calls Tryd.prog 40 #[.pointer (some ⟨g, 0, none⟩), .string s] w fun e w' => e = .returned (.tuple #[.slice none 0 0, .bool false]) ∧ Below w.heap.size w w' := by
  have HS := Lib.hid hs
  have HP := Lib.hid hp
  clear hs hp
  go_enter Tryd.func40, Tryd.ntmps40
  go_wp2_with ((with_reducible refine (places_walk _).mono ?_); rintro e w' ⟨b, rfl, hM⟩; have HM := Lib.hid hM; clear hM; obtain ⟨p, l, hlook⟩ := HM.out.look0 s HS.out HP.out)
  go_ret2
  exact ⟨rfl, HM.out.below.alloc HM.out.below.size _⟩
set_option maxRecDepth 100000 in
set_option maxHeartbeats 1000000 in
theorem part_some (w : World) (g : Nat) (s : ByteArray) (hs : s.size ≤ maxLen) (p l : Nat) (hp : place s.data.toList = some (p, l)) :
    Calls Tryd.prog 40 #[.pointer (some ⟨g, 0, none⟩), .string s] w fun e w' => e = .returned (.tuple #[.slice (some ⟨g, p, none⟩) l (512 - p), .bool true]) ∧ Below w.heap.size w w' := by
  obtain ⟨b1, b2, b3⟩ := place_in _ _ _ hp
  have HS := Lib.hid hs
  have HP := Lib.hid hp
  have hsl := slice_lh (t := 40) Tryd.underlying40 arr512 elm512 g p (p + l) (by omega) (by omega) (by omega)
  rw [show p + l - p = l by omega] at hsl
  have hsl1 : ∀ w, (Instr.sliceAt 40 (.pointer (some ⟨g, 0, none⟩)) (some (.int .i64 (p : Int))) (some (.int .i64 ((p : Int) + (l : Int)))) none).run Tryd.prog w = .ok (.slice (some ⟨g, p, none⟩) l (512 - p)) w := fun w => by rw [← Int.natCast_add]; exact hsl w
  have HB := Lib.hid (And.intro b1 (And.intro b2 b3))
  have b4 : (p : Int) + (l : Int) ≤ 512 := by omega
  clear hs hp b1 b2 b3 hsl
  go_enter Tryd.func40, Tryd.ntmps40
  go_wp2_with ((with_reducible refine (places_walk _).mono ?_); rintro e w' ⟨b, rfl, hM⟩; have HM := Lib.hid hM; clear hM; have hlook := HM.out.look1 s HS.out p l HP.out)
  have hc0 : (w'.alloc (.cells #[.int .i64 (p : Int), .int .i64 (l : Int)] 88)).cell? ⟨w'.heap.size, 0, none⟩ = some (.int .i64 (p : Int)) := cell_of_row _ _ 0 _ _ _ (heap_alloc_new _ _)
  have hc1 : (w'.alloc (.cells #[.int .i64 (p : Int), .int .i64 (l : Int)] 88)).cell? ⟨w'.heap.size, 1, none⟩ = some (.int .i64 (l : Int)) := cell_of_row _ _ 1 _ _ _ (heap_alloc_new _ _)
  clear hlook
  go_quiet (fail)
  go_wp2_with fail
  go_ret2
  exact ⟨rfl, below_drewN (HM.out.below.alloc HM.out.below.size _) _⟩
end Go.Proofs.YtkkelmlkpehcpaaDoor
