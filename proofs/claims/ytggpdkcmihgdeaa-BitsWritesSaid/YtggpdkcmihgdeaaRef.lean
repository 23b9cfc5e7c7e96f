/-
  Slices of bools; the contracts of the document's own small functions: Number, Bits, Reverse.
-/
import Derived.Test.YtggpdkcmihgdeaaHas
namespace Go.Proofs.Ytggpdkcmihgdeaa
open Go.RowKit Bt

def BoolsAt (w : World) (g o : Nat) (bs : List Bool) : Prop := ∀ i, i < bs.length → w.cell? ⟨g, o + i, none⟩ = some (.bool (bs.getD i false))
/-- A slice value reads as these bools. -/
def SlL (w : World) (v : Value) (bs : List Bool) : Prop :=
  (∃ g o cap, v = .slice (some ⟨g, o, none⟩) bs.length cap ∧ bs.length ≤ cap ∧ BoolsAt w g o bs) ∨ (∃ p, v = .slice p 0 0 ∧ bs = [])
theorem SlL.shape {w : World} {v : Value} {bs : List Bool} (h : SlL w v bs) : ∃ p cap, v = .slice p bs.length cap := by
  rcases h with ⟨g, o, cap, h, _⟩ | ⟨p, h, rfl⟩
  · exact ⟨_, _, h⟩
  · exact ⟨_, _, h⟩
theorem SlL.some {w : World} {p : Option Addr} {n cap : Nat} {bs : List Bool} (h : SlL w (.slice p n cap) bs) (h0 : 0 < n) : ∃ g o, p = some ⟨g, o, none⟩ ∧ BoolsAt w g o bs := by
  rcases h with ⟨g, o, cap, h, _, hB⟩ | ⟨p', h, rfl⟩
  · cases h; exact ⟨g, o, rfl, hB⟩
  · cases h; omega
theorem SlL.le {w : World} {p : Option Addr} {n cap : Nat} {bs : List Bool} (h : SlL w (.slice p n cap) bs) : n ≤ cap := by
  rcases h with ⟨g, o, cap', h, h2, _⟩ | ⟨p', h, rfl⟩
  · cases h; exact h2
  · cases h; omega
theorem BoolsAt.lt {w : World} {g o : Nat} {bs : List Bool} (h : BoolsAt w g o bs) (h0 : 0 < bs.length) : g < w.heap.size :=
  block_lt_of_cell (h 0 h0)
theorem BoolsAt.drop {w : World} {g o : Nat} {bs : List Bool} (h : BoolsAt w g o bs) (k : Nat) : BoolsAt w g (o + k) (bs.drop k) := fun i hi => by
  have := h (k + i) (by simp at hi; omega)
  rw [Nat.add_assoc, this]; simp
theorem BoolsAt.take {w : World} {g o : Nat} {bs : List Bool} (h : BoolsAt w g o bs) (k : Nat) : BoolsAt w g o (bs.take k) := fun i hi => by
  have := h i (by simp at hi; omega)
  rw [this]; simp at hi; simp [show i < k by omega]
theorem SlL.below {w w' : World} {v : Value} {bs : List Bool} (h : SlL w v bs) {B : Nat} (hb : Below B w w') (hB : w.heap.size ≤ B) : SlL w' v bs := by
  rcases h with ⟨g, o, cap, h1, h2, h3⟩ | h
  · refine .inl ⟨g, o, cap, h1, h2, ?_⟩
    intro i hi
    have h0 := h3.lt (by omega)
    rw [hb.cell (p := ⟨g, o + i, none⟩) (by show g < B; omega)]; exact h3 i hi
  · exact .inr h
theorem bv_one (l : List Bool) : ∀ v ∈ bv l, v.oneCell' = true := by
  intro v hv; simp [bv] at hv; rcases hv with ⟨_, rfl⟩ | ⟨_, rfl⟩ <;> rfl
theorem bv_append (a b : List Bool) : bv (a ++ b) = bv a ++ bv b := by simp [bv]
theorem bv_src {w : World} {g o : Nat} {bs : List Bool} (h : BoolsAt w g o bs) : ∀ j v, (bv bs)[j]? = some v → w.cell? ((⟨g, o, none⟩ : Addr).add j) = some v := by
  intro j v hj
  have hlt : j < bs.length := by
    have := (List.getElem?_eq_some_iff.1 hj).1; simpa [bv] using this
  have := h j hlt
  have hadd : (⟨g, o, none⟩ : Addr).add j = ⟨g, o + j, none⟩ := by unfold Addr.add; split <;> simp_all
  rw [hadd, this, ← hj]
  simp [bv, hlt]
theorem info4 : (Try.prog.info? 4).map (fun i => (i.zero, i.size, i.bytes)) = some (some (.bool false), 1, 1) := by kernel_rfl
theorem OwnL.nil (base : Nat) (w : World) : OwnL base w (.slice none 0 0) [] := ⟨by simp [bv], .inl ⟨rfl, rfl⟩⟩
theorem OwnL.alloc {base : Nat} {w : World} {v : Value} {l : List Bool} (h : OwnL base w v l) (o : Obj) : OwnL base (w.alloc o) v l := World.ownsRow.alloc h o
theorem OwnL.drew {base : Nat} {w : World} {v : Value} {l : List Bool} (h : OwnL base w v l) : OwnL base w.drew v l := World.ownsRow.drew h
theorem OwnL.le {base B : Nat} {w : World} {v : Value} {l : List Bool} (h : OwnL base w v l) (hB : ∀ k, v.ownBlock = some k → B ≤ k) : OwnL B w v l := by
  obtain ⟨h0, ⟨h1, h2⟩ | ⟨g, cap, cur, h1, h2, h3⟩⟩ := h
  · exact ⟨h0, .inl ⟨h1, h2⟩⟩
  · exact ⟨h0, .inr ⟨g, cap, cur, h1, hB g (by rw [h1]; rfl), h3⟩⟩
theorem OwnL.toL {base : Nat} {w : World} {v : Value} {l : List Bool} (h : OwnL base w v l) : SlL w v l := by
  obtain ⟨_, ⟨h1, h2⟩ | ⟨g, cap, cur, h1, h2, h3, h4, h5, h6, h7⟩⟩ := h
  · exact .inr ⟨none, h1, List.eq_nil_of_length_eq_zero h2⟩
  · refine .inl ⟨g, 0, cap, h1, h4, fun i hi => ?_⟩
    rw [Nat.zero_add, cell_of_row _ _ _ _ _ _ h3]
    have e : cur.toList[i]? = (bv l)[i]? := by
      rw [← h7, List.getElem?_take, if_pos (by omega)]
    rw [← Array.getElem?_toList, e]
    simp [bv, hi]
theorem OwnL.lt {base : Nat} {w : World} {v : Value} {l : List Bool} (h : OwnL base w v l) : ∀ k, v.ownBlock = some k → base ≤ k ∧ k < w.heap.size := by
  intro k hk
  obtain ⟨_, ⟨h1, h2⟩ | ⟨g, cap, cur, h1, h2, h3, h4, h5, h6, h7⟩⟩ := h
  · rw [h1] at hk; cases hk
  · rw [h1] at hk
    simp [Value.ownBlock] at hk
    subst hk
    exact ⟨h2, (Array.getElem?_eq_some_iff.1 h3).1⟩
theorem OwnL.apart {base G T : Nat} {w : World} {v : Value} {l : List Bool} {cs : Array Value} (h : OwnL base w v l) (hG : w.heap[G]? = some (.cells cs T (0, 0))) (hT : T ≠ 4) : v.ownBlock ≠ some G := by
  obtain ⟨h0, ⟨h1, h2⟩ | ⟨g, cap, cur, h1, h2, h3, h4⟩⟩ := h
  · rw [h1]; intro e; cases e
  · rw [h1]
    intro e
    simp [Value.ownBlock] at e
    subst e
    rw [hG] at h3
    simp at h3
    exact hT h3.2
theorem run_appL {base : Nat} {w : World} {v src : Value} {l ys : List Bool} (ty : TypeId) (hown : OwnL base w v l) (hsrc : SlL w src ys) (hbase : base ≤ w.heap.size) (hsz : l.length + ys.length ≤ 1099511627776) :
    ∃ v' w', (Builtin.append_ #[26, 26] ty #[v, src]).run Try.prog w = .ok v' w' ∧ OwnL base w' v' (l ++ ys) ∧ w.grownBy w' v.ownBlock ∧ (v'.ownBlock = v.ownBlock ∨ v'.ownBlock = some w.heap.size) := by
  obtain ⟨i0, hi, hz0, hz1, hz2⟩ := info_parts info4
  rcases hsrc with ⟨g, o, cap, rfl, h2, h3⟩ | ⟨p, rfl, rfl⟩
  · obtain ⟨v', w', h, ho, hg, _, hat⟩ := run_append_own_at (P := Try.prog) w base 26 ty 4 i0 (.bool false) 1 1 Try.underlying26 hi hz0 hz1 hz2 rfl (by decide) v l.length (bv l) hown ⟨g, o, none⟩ ys.length cap (bv ys) (by simp [bv]) (bv_src h3) (bv_one ys) (by unfold maxLen; omega) (by omega) hbase
    refine ⟨v', w', h, ?_, hg, hat⟩
    unfold OwnL
    rw [List.length_append, bv_append]; exact ho
  · cases p with
    | some a =>
      obtain ⟨v', w', h, ho, hg, _, hat⟩ := run_append_own_at (P := Try.prog) w base 26 ty 4 i0 (.bool false) 1 1 Try.underlying26 hi hz0 hz1 hz2 rfl (by decide) v l.length (bv l) hown a 0 0 [] rfl (fun j y hy => by simp at hy) (fun y hy => by cases hy) (by unfold maxLen; simp at hsz; omega) (by simp at hsz; omega) hbase
      refine ⟨v', w', h, ?_, hg, hat⟩
      unfold OwnL
      rw [List.append_nil]
      simpa using ho
    | none => exact ⟨v, w, run_append_owned_none (P := Try.prog) (w := w) base 26 ty 4 i0 1 Try.underlying26 hi v l.length (bv l) hown, by simpa using hown, ⟨rfl, rfl, rfl, Nat.le_refl _, fun _ _ _ => rfl⟩, .inl rfl⟩
theorem wpList_appL {w : World} {ops : Array Oper} {rest : List Oper} {o : Oper} {a : Act} {Q : Exit → Act → World → Prop} (hgd : o.guard = none) (d x : Operand)
    (ho : o.op = .call { callee := .builtin .append, args := #[d, x], argTypes := #[26, 26] }) (base : Nat) (v src : Value) (l ys : List Bool) (hd : a.eval d = v) (hx : a.eval x = src)
    (hown : OwnL base w v l) (hsrc : SlL w src ys) (hbase : base ≤ w.heap.size) (hsz : l.length + ys.length ≤ 1099511627776)
    (h : ∀ v' w', OwnL base w' v' (l ++ ys) → w.grownBy w' v.ownBlock → (v'.ownBlock = v.ownBlock ∨ v'.ownBlock = some w.heap.size) → wpList Try.prog ops Q rest (a.put o.dst v') w') : wpList Try.prog ops Q (o :: rest) a w := by
  refine wpList_plain hgd fun K hK => ?_
  obtain ⟨v', w', hrun, h1, h2, h3⟩ := run_appL o.type hown hsrc hbase hsz
  unfold Oper.wp
  simp only [execOp, ho, resolve, invoke, builtin, hd, hx, hrun, Result.andThen, List.map_toArray, List.map_cons, List.map_nil, Sem.run_bind, Sem.run_pure]
  exact hK _ _ (h v' w' h1 h2 h3)
theorem sll_one (w : World) (b : Bool) : SlL (w.alloc (.cells #[.bool b] 4)) (.slice (some ⟨w.heap.size, 0, none⟩) 1 1) [b] :=
  .inl ⟨w.heap.size, 0, 1, rfl, by simp, fun i hi => by
    obtain rfl : i = 0 := by simp at hi; omega
    rw [Nat.zero_add]
    exact (cell_of_row _ _ _ _ _ _ (heap_alloc_new _ _)).trans rfl⟩
/-- A part of a slice of bools. -/
theorem SlL_from {w : World} {p : Option Addr} {n cap : Nat} {bs : List Bool} (h : SlL w (.slice p n cap) bs) (k m : Nat) (hk : k ≤ m) (hm : m ≤ n) :
    ∃ v', (∀ w', (Instr.sliceAt 26 (.slice p n cap) (some (.int .i64 (k : Int))) (some (.int .i64 (m : Int))) none).run Try.prog w' = .ok v' w') ∧ SlL w v' ((bs.drop k).take (m - k)) := by
  have h0 := h.le
  rcases h with ⟨g, o, cap, h, h2, hB⟩ | ⟨p', h, rfl⟩
  · cases h
    have h1 : (0 : Int) ≤ (k : Int) := by omega
    have h1' : (k : Int) ≤ (m : Int) := by omega
    have h1'' : (m : Int) ≤ (cap : Int) := by omega
    have hl : ((bs.drop k).take (m - k)).length = m - k := by simp; omega
    by_cases hc : cap = k
    · have hn : m = k := by omega
      subst hn
      refine ⟨.slice (some ⟨g, o, none⟩) 0 0, fun w' => ?_, .inr ⟨_, rfl, by simp⟩⟩
      subst hc
      go_simp
    · refine ⟨.slice (some ⟨g, o + k, none⟩) (m - k) (cap - k), fun w' => ?_, .inl ⟨g, o + k, cap - k, by rw [hl], by rw [hl]; omega, (hB.drop k).take _⟩⟩
      go_simp
  · cases h
    obtain rfl : m = 0 := by omega
    obtain rfl : k = 0 := by omega
    refine ⟨.slice p 0 0, fun w' => ?_, .inr ⟨p, rfl, by simp⟩⟩
    show (Instr.sliceAt 26 (.slice p 0 0) (some (.int .i64 0)) (some (.int .i64 0)) none).run Try.prog w' = .ok (.slice p 0 0) w'
    cases p with
    | none => kernel_rfl
    | some a => kernel_rfl
theorem num_drop (l : List Bool) (j : Nat) (hj : j < l.length) : num (l.drop j) = (l.getD j false).toNat + 2 * num (l.drop (j + 1)) := by
  rw [List.drop_eq_getElem_cons hj, num]; simp [hj]
theorem num_drop_lt (l : List Bool) (j : Nat) (hl : l.length ≤ 64) (hj : 0 < j) : 2 * num (l.drop j) + 1 < 18446744073709551616 := by
  have h := num_lt (l.drop j)
  have h1 : (l.drop j).length ≤ 63 := by simp; omega
  have h2 := Nat.pow_le_pow_right (show 0 < 2 by decide) h1
  have h3 : (2 : Nat) ^ 63 = 9223372036854775808 := by decide
  omega
theorem mul_go (x : Nat) (h : 2 * x + 1 < 18446744073709551616) : IntKind.u64.wrap (2 * (x : Int)) = ((2 * x : Nat) : Int) ∧ IntKind.u64.wrap (IntKind.u64.wrap (2 * (x : Int)) + 1) = ((1 + 2 * x : Nat) : Int) := by
  constructor
  · rw [IntKind.wrap_u64]; omega
  · rw [IntKind.wrap_u64, IntKind.wrap_u64]; omega
set_option maxRecDepth 100000 in
set_option maxHeartbeats 800000 in
theorem number_ref (w : World) (v : Value) (l : List Bool) (hs : SlL w v l) (hl : l.length ≤ 64) :
    Calls Try.prog 45 #[v] w fun e w' => e = .returned (.int .u64 (num l : Nat)) ∧ w = w' := by
  obtain ⟨p, cap, rfl⟩ := hs.shape
  have HS := Lib.hid hs
  clear hs
  obtain ⟨n, hn⟩ : ∃ n, n = l.length := ⟨_, rfl⟩
  rw [← hn] at hl HS ⊢
  have HN := Lib.hid hn
  clear hn
  go_enter Try.func45, Try.ntmps45
  go_wp2_with fail
  go_loop [3, 4] (fun vn vi => ∃ j : Nat, j ≤ n ∧ vi = .int .i64 ((j : Int) - 1) ∧ vn = .int .u64 (num (l.drop j) : Nat)) (fun _ vi => (intOf vi + 1).toNat)
  case atStart => exact ⟨n, Nat.le_refl _, rfl, by rw [HN.out]; simp [num]⟩
  case round =>
    obtain ⟨j, hj, rfl, rfl⟩ := hrel
    by_cases h0 : 0 < j
    · obtain ⟨i, rfl⟩ : ∃ i, j = i + 1 := ⟨j - 1, by omega⟩
      obtain ⟨g, o, rfl, hB⟩ := HS.out.some (by omega)
      have hc := hB i (by rw [← HN.out]; omega)
      have HD := Lib.hid (num_drop l i (by rw [← HN.out]; omega))
      obtain ⟨hm1, hm2⟩ := mul_go _ (num_drop_lt l (i + 1) (by rw [← HN.out]; exact hl) (by omega))
      have HM1 := Lib.hid hm1
      have HM2 := Lib.hid hm2
      have hji : (((i + 1 : Nat) : Int) - 1) = (i : Int) := by omega
      rw [hji]
      have hil : (i : Int) < (n : Int) := by omega
      clear hB HS hm1 hm2 hji
      generalize num (l.drop (i + 1)) = x at *
      cases hb : l.getD i false with
      | true =>
        rw [hb] at hc HD
        clear hb
        go_wp2_with fail
        exact ⟨⟨i, by omega, rfl, by rw [HD.out, HM2.out]; rfl⟩, by simp [intOf]⟩
      | false =>
        rw [hb] at hc HD
        clear hb
        go_wp2_with fail
        exact ⟨⟨i, by omega, rfl, by rw [HD.out, HM1.out]; simp⟩, by simp [intOf]⟩
    · obtain rfl : j = 0 := by omega
      have hz : (((0 : Nat) : Int) - 1) = -1 := rfl
      rw [hz]
      rw [List.drop_zero]
      clear hz
      go_wp2_with fail
      go_ret
      exact ⟨rfl, rfl⟩
end Go.Proofs.Ytggpdkcmihgdeaa
