/-
  Split: strings.Split at a slash; rows of texts in memory.
-/
import Derived.Test.YtgdnemjlmhmhhaaDoorHn
namespace Go.Proofs.YtgdnemjlmhmhhaaDoor
open Go.RowKit Go.Maps

theorem first_spec (l : List UInt8) (c : UInt8) : (c ∉ l ∧ Lib.indexByte l c = -1) ∨ ∃ a b, l = a ++ c :: b ∧ c ∉ a ∧ Lib.indexByte l c = a.length := by
  induction l with
  | nil => exact .inl ⟨by simp, rfl⟩
  | cons x t ih =>
    unfold Lib.indexByte
    by_cases hx : x = c
    · subst hx
      exact .inr ⟨[], t, rfl, by simp, by simp⟩
    · have hx' : (x == c) = false := beq_eq_false_iff_ne.2 hx
      rw [if_neg (by simp [hx'])]
      rcases ih with ⟨h1, h2⟩ | ⟨a, b, h1, h2, h3⟩
      · exact .inl ⟨by rw [List.mem_cons, not_or]; exact ⟨fun e => hx e.symm, h1⟩, by rw [h2]; rfl⟩
      · refine .inr ⟨x :: a, b, by rw [h1]; rfl, by rw [List.mem_cons, not_or]; exact ⟨fun e => hx e.symm, h2⟩, ?_⟩
        rw [h3, if_neg (by simp)]
        simp
theorem parts_cons (x : UInt8) (t : List UInt8) : Pt.parts (x :: t) = if x = 47 then [] :: Pt.parts t else match Pt.parts t with | [] => [[x]] | a :: r => (x :: a) :: r := by
  rw [Pt.parts]
  by_cases h : x = 47
  · rw [if_pos h, if_pos h]
  · rw [if_neg h, if_neg h]; cases Pt.parts t <;> rfl
theorem parts_none (l : List UInt8) (h : 47 ∉ l) : Pt.parts l = [l] := by
  induction l with
  | nil => rfl
  | cons x t ih =>
    rw [List.mem_cons, not_or] at h
    unfold Pt.parts
    rw [if_neg (fun e => h.1 e.symm), ih h.2]
theorem parts_at (a b : List UInt8) (h : 47 ∉ a) : Pt.parts (a ++ 47 :: b) = a :: Pt.parts b := by
  induction a with
  | nil => show Pt.parts (47 :: b) = _; rw [parts_cons, if_pos rfl]
  | cons x t ih =>
    rw [List.mem_cons, not_or] at h
    show Pt.parts (x :: (t ++ 47 :: b)) = _
    rw [parts_cons, if_neg (fun e => h.1 e.symm), ih h.2]
theorem idx_one (l : List UInt8) (c : UInt8) : Lib.index l [c] = Lib.indexByte l c := by
  induction l with
  | nil => rfl
  | cons x t ih =>
    unfold Lib.index Lib.indexByte
    rw [ih]
    have : List.isPrefixOf [c] (x :: t) = (x == c) := by
      simp only [List.isPrefixOf, Bool.and_true]
      by_cases h : x = c
      · subst h; rfl
      · rw [beq_eq_false_iff_ne.2 h, beq_eq_false_iff_ne.2 (fun e => h e.symm)]
    rw [this]
theorem splitK_parts : ∀ (k : Nat) (l : List UInt8), l.count 47 ≤ k → Lib.splitK [47] 0 k l = Pt.parts l
  | 0, l, h => by
    rw [parts_none l (List.count_eq_zero.1 (Nat.le_zero.1 h))]
    rfl
  | k + 1, l, h => by
    unfold Lib.splitK
    rw [idx_one]
    rcases first_spec l 47 with ⟨h1, h2⟩ | ⟨a, b, rfl, h2, h3⟩
    · rw [h2, parts_none l h1]
      rfl
    · rw [h3, if_neg (by simp), parts_at a b h2]
      have e1 : ((a.length : Int)).toNat = a.length := by omega
      rw [e1]
      have hc : b.count 47 ≤ k := by
        rw [List.count_append, List.count_cons_self] at h
        omega
      rw [← splitK_parts k b hc]
      congr 1
      · simp
      · congr 1
        rw [List.length_singleton, List.drop_append, List.drop_eq_nil_of_le (by omega)]
        simp
theorem parts_len (l : List UInt8) : (Pt.parts l).length = l.count 47 + 1 := by
  induction l with
  | nil => rfl
  | cons x t ih =>
    unfold Pt.parts
    by_cases hx : x = 47
    · subst hx
      rw [if_pos rfl, List.length_cons, ih, List.count_cons_self]
    · rw [if_neg hx]
      rw [List.count_cons_of_ne hx]
      split
      · rename_i h; rw [h] at ih; simp at ih
      · rename_i a r h; rw [h] at ih; simpa using ih
/-- Texts, as cells. -/
def sl (l : List (List UInt8)) : List Value := l.map fun x => Value.string (sb x)
@[simp] theorem sl_length (l : List (List UInt8)) : (sl l).length = l.length := by simp [sl]
theorem sl_take (l : List (List UInt8)) (k : Nat) : (sl l).take k = sl (l.take k) := by simp [sl, List.map_take]
theorem sl_append (a b : List (List UInt8)) : sl (a ++ b) = sl a ++ sl b := by simp [sl]
theorem sl_one (l : List (List UInt8)) : ∀ v ∈ sl l, v.oneCell' = true := by
  intro v hv; simp [sl] at hv; obtain ⟨x, _, rfl⟩ := hv; rfl
theorem RowAt.sl {w : World} {g o : Nat} {l : List (List UInt8)} (h : RowAt w g o (sl l)) (i : Nat) (hi : i < l.length) : w.cell? ⟨g, o + i, none⟩ = some (.string (sb (l.getD i []))) := by
  refine h i _ ?_
  simp [YtgdnemjlmhmhhaaDoor.sl, hi]
theorem info9 : (Tryd.prog.info? 9).map (fun i => (i.zero, i.size, i.bytes)) = some (some (.string ByteArray.empty), 1, 16) := by kernel_rfl
theorem count_walk (s : ByteArray) (w : World) : Calls Tryd.prog 68 #[.string s, .string ⟨#[47]⟩] w fun e w' => e = .returned (.int .i64 (Lib.countB s ⟨#[47]⟩)) ∧ w' = w := by
  refine (Any.strings_Count_one (P := Tryd.prog) { Tryd.laysSp with } s 47 w).mono fun e w' ⟨he, hw⟩ => ⟨?_, hw⟩
  rw [he]
  show _ = Ending.returned (Value.int .i64 ((Lib.count s.data.toList [47] : Nat) : Int))
  rw [Lib.count_one]
  rfl
theorem index_walk (s : ByteArray) (w : World) : Calls Tryd.prog 59 #[.string s, .string ⟨#[47]⟩] w fun e w' => e = .returned (.int .i64 (Lib.indexByte s.data.toList 47)) ∧ w' = w := Any.strings_Index_one (P := Tryd.prog) { Tryd.laysSp with } s 47 w
set_option maxHeartbeats 1000000 in
theorem ssplit_walk (l : List UInt8) (hl : l.length ≤ 100000) (w : World) : Calls Tryd.prog 46 #[.string (sb l), .string ⟨#[47]⟩] w fun e w' =>
    e = .returned (.slice (some ⟨w.heap.size, 0, none⟩) (Pt.parts l).length (Pt.parts l).length) ∧ w' = w.alloc (.cells (sl (Pt.parts l)).toArray 9) := by
  have hsz := sb_size l
  have hN : Lib.countB (sb l) ⟨#[47]⟩ = l.count 47 := by
    show Lib.count l [47] = _
    rw [Lib.count_one]
  have hpl := parts_len l
  have hsp : Lib.splitB ⟨#[47]⟩ 0 (l.count 47) (sb l) = (Pt.parts l).map sb := by
    have h1 := Lib.splitB_data ⟨#[47]⟩ 0 (l.count 47) (sb l)
    rw [show (⟨#[47]⟩ : ByteArray).data.toList = [47] from rfl, sb_data, splitK_parts _ l (Nat.le_refl _)] at h1
    rw [← h1, List.map_map]
    conv => lhs; rw [← List.map_id (Lib.splitB _ _ _ _)]
    apply List.map_congr_left
    intro x _
    exact (sb_of x).symm
  have hcl : l.count 47 ≤ l.length := List.count_le_length
  have c := Any.strings_genSplit_core (P := Tryd.prog) { Tryd.laysSp with } info9 (sb l) ⟨#[47]⟩ 0 (-1) (l.count 47 + 1) w (by omega) (by decide) (by decide)
    (fun x c _ => (index_walk x _).mono fun e w' ⟨he, hw⟩ => ⟨by rw [he]; show _ = Ending.returned (Value.int .i64 (Lib.index _ [47])); rw [idx_one], hw⟩) (count_walk (sb l) w) (by decide) (by decide) (by rw [if_pos (by decide), hN]; omega)
  rw [Nat.add_sub_cancel, hsp, List.length_map, ← hpl] at c
  have e2 : Lib.cellsOf ((Pt.parts l).map sb) (Pt.parts l).length = (sl (Pt.parts l)).toArray := by
    have := Lib.cellsOf_full ((Pt.parts l).map sb)
    rw [List.length_map] at this
    rw [this, List.map_map]; rfl
  rw [e2] at c
  have HC : Hid (Calls Tryd.prog 64 #[.string (sb l), .string ⟨#[47]⟩, .int .i64 0, .int .i64 (-1)] w _) := Lib.hid c
  generalize (Pt.parts l).length = K at *
  generalize (sl (Pt.parts l)).toArray = V at *
  generalize sb l = b at *
  clear c e2 hsp hpl hN hsz
  go_enter Tryd.func46, Tryd.ntmps46
  go_wp2_with ((with_reducible refine HC.out.mono ?_); rintro e w' ⟨rfl, hw⟩; rw [hw]; clear hw)
  go_ret
  exact ⟨rfl, rfl⟩
def SlPost (l : List (List UInt8)) (w : World) (e : Ending) (w' : World) : Prop := ∃ v, e = .returned v ∧ SlV w' v (sl l) ∧ Below w.heap.size w w'
theorem slv_new (w : World) (vs : List Value) (t : TypeId) : SlV (w.alloc (.cells vs.toArray t)) (.slice (some ⟨w.heap.size, 0, none⟩) vs.length vs.length) vs := slv_lit w vs t
set_option maxHeartbeats 1000000 in
theorem split_walk (p : List UInt8) (hp : p.length ≤ 100000) (w : World) : Calls Tryd.prog 17 #[.string (sb p)] w (SlPost (Pt.split p) w) := by
  unfold Pt.split
  have h1 : ((sb p).toList == []) = (p == []) := by rw [sb_list]
  by_cases h : p = []
  · rw [if_pos h]
    rw [show (p == []) = true by rw [h]; rfl] at h1
    clear h hp
    generalize sb p = b at *
    go_enter Tryd.func17, Tryd.ntmps17
    go_wp2_with fail
    go_ret
    exact ⟨_, rfl, .inr ⟨none, rfl, rfl⟩, Below.refl _ _⟩
  · rw [if_neg h]
    rw [show (p == []) = false by simpa using h] at h1
    have HC := Lib.hid (ssplit_walk p hp w)
    have HS := Lib.hid (slv_new w (sl (Pt.parts p)) 9)
    rw [sl_length] at HS
    generalize Pt.parts p = L at *
    generalize sb p = b at *
    clear h hp
    go_enter Tryd.func17, Tryd.ntmps17
    go_wp2_with ((with_reducible refine HC.out.mono ?_); rintro e w' ⟨rfl, hw⟩; rw [hw]; clear hw)
    go_ret
    exact ⟨_, rfl, HS.out, (Below.refl _ _).alloc (Nat.le_refl _) _⟩
end Go.Proofs.YtgdnemjlmhmhhaaDoor
