/-
  The four calls of package strings that the law ShaBack makes, at a name; a guarded load and a guarded comparison in a list of operations.
-/
import Derived.Test.YtdkajbhhmgmohaaDoorBack0
import Derived.Test.YtdkajbhhmgmohaaDoorKinds
namespace Go.Proofs.YtdkajbhhmgmohaaDoor
open Go.RowKit Sha Inv
theorem pval_none : pval none = .tuple #[.agg (bcells (List.replicate 32 0)), .int .i64 5] := rfl
def upL (d : List UInt8) : List UInt8 := (hexL d).map Lib.upperB
theorem upL_length (d : List UInt8) (hd : d.length = 32) : (upL d).length = 64 := by rw [upL, List.length_map, hexL_length, hd]
theorem up_walk (d : List UInt8) (hd : d.length = 32) (w : World) : Calls Tryd.prog 23 #[.string ⟨(nameL d).toArray⟩] w (StrPost (SHAL ++ upL d) w) := by
  refine (Tryd.strings_ToUpper_ascii ⟨(nameL d).toArray⟩ w (by show (nameL d).length ≤ _; rw [name_length d hd]; decide) (fun j b h => name_ascii d b (List.mem_of_getElem? h))).mono ?_
  rintro e w' ⟨rfl, hb⟩
  exact ⟨by show Ending.returned (.string ⟨(Lib.toUpperA (nameL d)).toArray⟩) = _; rw [up_name]; rfl, hb⟩
theorem trim_walk (d : List UInt8) (w : World) : Calls Tryd.prog 24 #[.string ⟨(SHAL ++ upL d).toArray⟩, .string ⟨#[83, 72, 65, 50, 53, 54, 58]⟩] w fun e w' => e = .returned (.string ⟨(upL d).toArray⟩) ∧ w' = w := by
  refine (Tryd.strings_TrimPrefix ⟨(SHAL ++ upL d).toArray⟩ ⟨#[83, 72, 65, 50, 53, 54, 58]⟩ w).mono ?_
  rintro e w' ⟨rfl, rfl⟩
  refine ⟨?_, rfl⟩
  have h := trim_up d
  rw [up_name] at h
  show Ending.returned (.string ⟨(Lib.trimPrefix (SHAL ++ upL d) SHAL).toArray⟩) = _
  rw [show Lib.trimPrefix (SHAL ++ upL d) SHAL = upL d from h]
theorem low_walk (d : List UInt8) (hd : d.length = 32) (w : World) : Calls Tryd.prog 25 #[.string ⟨(nameL d).toArray⟩] w (StrPost (nameL d) w) := by
  refine (Tryd.strings_ToLower_ascii ⟨(nameL d).toArray⟩ w (by show (nameL d).length ≤ _; rw [name_length d hd]; decide) (fun j b h => name_ascii d b (List.mem_of_getElem? h))).mono ?_
  rintro e w' ⟨rfl, hb⟩
  exact ⟨by show Ending.returned (.string ⟨(Lib.toLowerA (nameL d)).toArray⟩) = _; rw [low_name], hb⟩
theorem any_walk (d : List UInt8) (hd : d.length = 32) (w : World) : Calls Tryd.prog 26 #[.string ⟨(hexL d).toArray⟩, .string ⟨#[97, 98, 99, 100, 101, 102]⟩] w fun e w' => e = .returned (.bool (Lib.containsAny (hexL d) abcL)) ∧ Below w.heap.size w w' := by
  refine (Tryd.strings_ContainsAny_laid ⟨(hexL d).toArray⟩ ⟨#[97, 98, 99, 100, 101, 102]⟩ w (by show (hexL d).length < _; rw [hexL_length, hd]; decide) (by decide) (fun j b h => name_ascii d b (List.mem_append_right _ (List.mem_of_getElem? h))) (fun j b h => ?_)).mono ?_
  · have : ∀ b ∈ abcL, b.toNat < 128 := by decide +kernel
    exact this b (List.mem_of_getElem? h)
  rintro e w' ⟨rfl, hb⟩
  exact ⟨rfl, hb⟩
theorem up_told (d : List UInt8) (hd : d.length = 32) : ∃ (A : List UInt8) (E : Int), A.length = 32 ∧ pval (parseL (preL ++ upL d)) = .tuple #[.agg (bcells A), .int .i64 E] ∧ (Lib.containsAny (hexL d) abcL = true ∧ E = 5 ∨ Lib.containsAny (hexL d) abcL = false ∧ E = 0) := by
  cases h : Lib.containsAny (hexL d) abcL
  · obtain ⟨a, ha, hl⟩ := parse_small d hd h
    exact ⟨a, 0, hl, by rw [upL, ha, pval_some], .inr ⟨rfl, rfl⟩⟩
  · exact ⟨List.replicate 32 0, 5, by simp, by rw [upL, parse_great d hd h, pval_none], .inl ⟨rfl, rfl⟩⟩
/-- A guarded operation that is wanted. -/
theorem wpList_wanted {P : Program} {ops : Array Oper} {rest : List Oper} {o : Oper} {a : Act} {w : World} {Q : Exit → Act → World → Prop} (hg : Region.wanted o (yielded ops a.tmps) = true)
    (h : ∀ K : Act → World → Prop, (∀ a w, wpList P ops Q rest a w → K a w) → o.wp P a w K Q) : wpList P ops Q (o :: rest) a w :=
  wpList_step fun K hK => by rw [hg]; simp only [if_true]; exact h K hK
theorem wpList_load_rowG {P : Program} {ops : Array Oper} {rest : List Oper} {o : Oper} {a : Act} {w : World} {Q : Exit → Act → World → Prop} (hgd : Region.wanted o (yielded ops a.tmps) = true) (ty : TypeId) (x : Operand) (ho : o.op = .load ty x)
    (g : Nat) (hx : a.eval x = .pointer (some ⟨g, 0, none⟩)) (t : TypeId) (cs : Array Value) (fr : Nat × Nat) (d : TypeDesc) (hg : w.heap[g]? = some (.cells cs t fr))
    (hu : P.underlying ty = some d) (hd : (match d with | .struct _ | .array _ _ => true | _ => false) = true) (hi : (P.info? ty).map (·.size) = some cs.size)
    (h : wpList P ops Q rest (a.put o.dst (.agg cs)) w) : wpList P ops Q (o :: rest) a w :=
  wpList_wanted hgd fun _ hK => wp_load_row ty x ho g hx t cs fr d hg hu hd hi (hK _ _ h)
theorem wpList_buildXG {w : World} {ops : Array Oper} {rest : List Oper} {o : Oper} {a : Act} {Q : Exit → Act → World → Prop} (hg : Region.wanted o (yielded ops a.tmps) = true) (t : TypeId) (parts : Array (Nat × Operand)) (ho : o.op = .build t parts)
    (cs : Array Value) (hf : Tryd.prog.built t (parts.map fun (i, x) => (i, a.eval x)).toList = some cs)
    (h : wpList Tryd.prog ops Q rest (a.put o.dst (.agg cs)) w) : wpList Tryd.prog ops Q (o :: rest) a w :=
  wpList_wanted hg fun _ hK => wp_build t parts ho (by rw [hf]; rfl) (hK _ _ (by rw [hf]; exact h))
end Go.Proofs.YtdkajbhhmgmohaaDoor
