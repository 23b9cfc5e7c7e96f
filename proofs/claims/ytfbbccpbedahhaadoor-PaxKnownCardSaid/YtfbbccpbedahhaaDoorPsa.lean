/-
  The law: a size counts itself.
-/
import Derived.Test.YtfbbccpbedahhaaDoorPta
namespace Go.Proofs.YtfbbccpbedahhaaDoor
open Go.RowKit Go.Maps

theorem conv_str (b : ByteArray) (w : World) : (convert 9 26 (.string b)).run Tryd.prog w = .ok (.slice (some ⟨w.heap.size, 0, none⟩) b.size (grownCap w b.size 0 5)) (Lib.bytesWorld w 5 b) :=
  Lib.run_convert_string_bytes (P := Tryd.prog) w 9 26 5 b Tryd.underlying9 Tryd.underlying26 Tryd.underlying5
/-- An own row whose address is known. -/
def OwnG (B g cap : Nat) (w : World) (l : List UInt8) : Prop := B ≤ g ∧ l.length ≤ cap ∧ cap ≤ maxLen ∧ ∃ cur fr, w.heap[g]? = some (.cells cur 5 fr) ∧ (fr = (0, 0) ∨ fr = (cap, cap + 1)) ∧ cur.size = cap ∧ cur.toList.take l.length = bl l
theorem OwnG.conv (w : World) (b : ByteArray) (l : List UInt8) (hb : b.data.toList = l) (hl : l.length ≤ 1099511627776) : OwnG w.heap.size w.heap.size (grownCap w b.size 0 5) (Lib.bytesWorld w 5 b) l := by
  obtain rfl : b = ⟨l.toArray⟩ := by rw [← hb]
  have hsz : (⟨l.toArray⟩ : ByteArray).size = l.length := by simp [ByteArray.size]
  rw [hsz]
  rcases OwnM.conv w l hl with ⟨h, _⟩ | ⟨g, cap, cur, fr, h, h2, h3, h4, h5, h6, h7, h8⟩
  · cases h
  · obtain ⟨h9, _, rfl⟩ := Value.slice.inj h
    obtain rfl : w.heap.size = g := by simpa using h9
    exact ⟨Nat.le_refl _, h5, h6, cur, fr, h3, h4, h7, h8⟩
theorem OwnG.toV {B g cap : Nat} {w : World} {l : List UInt8} (h : OwnG B g cap w l) : SlV w (.slice (some ⟨g, 0, none⟩) l.length cap) (bl l) := by
  obtain ⟨h1, h2, h3, cur, fr, h4, h5, h6, h7⟩ := h
  exact OwnM.toV (base := B) (.inr ⟨g, cap, cur, fr, rfl, h1, h4, h5, h2, h3, h6, h7⟩)
theorem OwnG.cell {B g cap : Nat} {w : World} {l : List UInt8} (h : OwnG B g cap w l) (i : Nat) (hi : i < l.length) : w.cell? ⟨g, i, none⟩ = some (.int .u8 (bi (l.getD i 0))) := by
  rcases h.toV with ⟨g', o', c', he, _, hr⟩ | ⟨p, he, h0⟩
  · obtain ⟨hp, _, _⟩ := Value.slice.inj he
    obtain ⟨rfl, rfl⟩ : g = g' ∧ 0 = o' := by simpa using hp
    have := hr.bl i hi
    rwa [Nat.zero_add] at this
  · rw [show l = [] by simpa [bl] using h0] at hi; simp at hi
theorem OwnG.free {B g cap : Nat} {w : World} {l : List UInt8} (h : OwnG B g cap w l) (i : Nat) (hi : i < l.length) : w.frozen? ⟨g, i, none⟩ = false := by
  obtain ⟨h1, h2, h3, cur, fr, h4, h5, h6, h7⟩ := h
  rcases h5 with rfl | rfl
  · simp [World.frozen?, h4]
  · simp [World.frozen?, h4]; omega
theorem OwnG.set {B g cap : Nat} {w : World} {l : List UInt8} (h : OwnG B g cap w l) (i : Nat) (x : UInt8) : OwnG B g cap (w.setCell ⟨g, i, none⟩ (.int .u8 (bi x))) (l.set i x) := by
  obtain ⟨h1, h2, h3, cur, fr, h4, h5, h6, h7⟩ := h
  refine ⟨h1, by simpa using h2, h3, cur.setIfInBounds i (.int .u8 (bi x)), fr, ?_, h5, by simpa using h6, ?_⟩
  · rw [setCell_eq_setRow w g i cur 5 fr _ h4]
    exact setRow_heap w g cur _ 5 fr h4
  · rw [List.length_set, Array.toList_setIfInBounds, List.take_set, h7]
    unfold bl
    rw [List.map_set]
theorem OwnG.later {B g cap : Nat} {w w' : World} {l : List UInt8} (h : OwnG B g cap w l) {C : Nat} (hb : Below C w w') (hC : w.heap.size ≤ C) : OwnG B g cap w' l := by
  obtain ⟨h1, h2, h3, cur, fr, h4, h5⟩ := h
  exact ⟨h1, h2, h3, cur, fr, (hb.block g (Nat.lt_of_lt_of_le (Array.getElem?_eq_some_iff.1 h4).1 hC)).trans h4, h5⟩
/-- A byte that a key may have. -/
def fxc (c : UInt8) : UInt8 := if Px.okB c then c else 120
def fxk (k : List UInt8) (j : Nat) : List UInt8 := (k.take j).map fxc ++ k.drop j
theorem fxk_length (k : List UInt8) (j : Nat) : (fxk k j).length = k.length := by
  unfold fxk; simp; omega
theorem fxk_at (k : List UInt8) (j : Nat) (h : j < k.length) : (fxk k j).getD j 0 = k[j] := by
  unfold fxk
  have hl : ((k.take j).map fxc).length = j := by simp; omega
  rw [List.getD_eq_getElem?_getD, List.getElem?_append_right (by omega), hl, Nat.sub_self, List.getElem?_drop]
  simp [h]
theorem fxk_step (k : List UInt8) (j : Nat) (h : j < k.length) : (fxk k j).set j (fxc k[j]) = fxk k (j + 1) := by
  unfold fxk
  have hl : ((k.take j).map fxc).length = j := by simp; omega
  rw [List.set_append_right _ _ (by omega), hl, Nat.sub_self, List.drop_eq_getElem_cons h, List.set_cons_zero, List.take_add_one, List.getElem?_eq_getElem h, Option.toList_some, List.map_append, List.append_assoc]
  rfl
theorem fxk_same (k : List UInt8) (j : Nat) (h : j < k.length) (ho : Px.okB k[j] = true) : fxk k j = fxk k (j + 1) := by
  rw [← fxk_step k j h]
  have e : fxc k[j] = k[j] := by unfold fxc; rw [if_pos ho]
  rw [e, ← fxk_at k j h]
  apply List.ext_getElem?
  intro i
  rw [List.getElem?_set]
  by_cases hij : j = i
  · subst hij
    have : j < (fxk k j).length := by rw [fxk_length]; exact h
    simp [this]
  · rw [if_neg hij]
theorem fxk_ok (k : List UInt8) (hk : k ≠ []) (hl : k.length ≤ 255) : Px.okK (fxk k k.length) = true := by
  unfold fxk Px.okK
  rw [List.take_length, List.drop_length, List.append_nil]
  have hall : (k.map fxc).all Px.okB = true := by
    rw [List.all_eq_true]
    intro c hc
    rw [List.mem_map] at hc
    obtain ⟨x, _, rfl⟩ := hc
    unfold fxc
    split
    · assumption
    · decide
  rw [hall]
  cases k with
  | nil => exact absurd rfl hk
  | cons a t => simpa using hl
set_option maxRecDepth 100000 in
set_option maxHeartbeats 2000000 in
theorem size_none (v : ByteArray) (w : World) : Calls Tryd.prog 15 #[.agg #[.string ⟨#[]⟩, .string v]] w fun e w' =>
    e = .returned (.int .i64 0) ∧ Below w.heap.size w w' := by
  have hA : Below w.heap.size w (w.alloc (.cells #[.string ⟨#[]⟩, .string v] 37)) := (Below.refl _ _).alloc (Nat.le_refl _) _
  have HA := Lib.hid hA
  have HK : Hid (Calls Tryd.prog 28 #[.string ⟨#[]⟩] (w.alloc (.cells #[.string ⟨#[]⟩, .string v] 37)) fun e w' => e = .returned (.bool false) ∧ _) := Lib.hid (isKey_walk [] ⟨#[]⟩ rfl (w.alloc (.cells #[.string ⟨#[]⟩, .string v] 37)))
  clear hA
  go_enter Tryd.func15, Tryd.ntmps15
  go_wp2_with ((with_reducible refine HK.out.mono ?_); rintro e w1 ⟨rfl, hb⟩; have HB1 : Hid (Below w.heap.size w w1) := Lib.hid (HA.out.trans (hb.mono HA.out.size)); clear hb)
  go_ret
  exact ⟨rfl, HB1.out⟩
end Go.Proofs.YtfbbccpbedahhaaDoor
