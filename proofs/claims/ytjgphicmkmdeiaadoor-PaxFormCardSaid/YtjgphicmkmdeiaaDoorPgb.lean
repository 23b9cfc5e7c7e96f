/-
  The document's own Get: what its walk asks.
-/
import Derived.Test.YtjgphicmkmdeiaaDoorPga
import Derived.Test.YtjgphicmkmdeiaaDoorPnd
namespace Go.Proofs.YtjgphicmkmdeiaaDoor
open Go.RowKit Go.Maps

theorem info39 : (Tryd.prog.info? 39).map (fun i => (i.zero, i.size, i.bytes)) = some (some (.agg #[.string ⟨#[]⟩, .string ⟨#[]⟩]), 2, 32) := by kernel_rfl
theorem okB_cases (c : UInt8) : (Px.okB c = false ∧ (c = 0 ∨ c = 61 ∨ c = 10)) ∨ (Px.okB c = true ∧ (bi c == 0) = false ∧ (bi c == 61) = false ∧ (bi c == 10) = false) := by
  by_cases h0 : c = 0
  · left; subst h0; exact ⟨by decide, .inl rfl⟩
  · by_cases h1 : c = 61
    · left; subst h1; exact ⟨by decide, .inr (.inl rfl)⟩
    · by_cases h2 : c = 10
      · left; subst h2; exact ⟨by decide, .inr (.inr rfl)⟩
      · right
        refine ⟨by unfold Px.okB; simp [h0, h1, h2], ?_, ?_, ?_⟩ <;> rw [beq_eq_false_iff_ne] <;> intro h
        · exact h0 (bi_inj.1 (h.trans (by decide)))
        · exact h1 (bi_inj.1 (h.trans (by decide)))
        · exact h2 (bi_inj.1 (h.trans (by decide)))
set_option maxRecDepth 100000 in
set_option maxHeartbeats 2000000 in
theorem letters_walk (w : World) (l : List UInt8) (bs : ByteArray) (hl : bs.data.toList = l) (hm : l.length ≤ 100000) : Calls Tryd.prog 30 #[.string bs] w fun e w' => e = .returned (.bool (l.all Px.okB && decide (l.length ≤ 255))) ∧ w' = w := by
  have hsz : bs.size = l.length := by rw [← hl]; exact Lib.size_eq bs
  have HIX := Lib.hid (str_ix bs l hl)
  have HSZ := Lib.hid hsz
  have hbI : (bs.size : Int) ≤ 100000 := by omega
  clear hl hm hsz
  go_enter Tryd.func30, Tryd.ntmps30
  go_wp2_with fail
  go_loopw [3] (fun i wr => ∃ j : Nat, j ≤ l.length ∧ i = .int .i64 (j : Int) ∧ (l.take j).all Px.okB = true ∧ wr = w) (fun i _ => l.length - (intOf i).toNat)
  case atStart => exact ⟨0, Nat.zero_le _, rfl, rfl, rfl⟩
  case round =>
    obtain ⟨j, hj, rfl, hok, rfl⟩ := hrel
    by_cases hjl : j < l.length
    · have hix := HIX.out j hjl
      obtain ⟨c, hc⟩ : ∃ c, l.getD j 0 = c := ⟨_, rfl⟩
      rw [hc] at hix
      have hcl : l[j] = c := by rw [← hc, List.getD_eq_getElem?_getD, List.getElem?_eq_getElem hjl]; rfl
      have hjI : (j : Int) < (bs.size : Int) := by have := HSZ.out; omega
      have HJ := Lib.hid hjl
      have HOK := Lib.hid hok
      rcases okB_cases c with ⟨h1, h2⟩ | ⟨h1, b0, b1, b2⟩
      · have HQ : Hid (l.all Px.okB = false) := Lib.hid (by
          rw [List.all_eq_false]
          exact ⟨c, by rw [← hcl]; exact List.getElem_mem _, by rw [h1]; simp⟩)
        clear hc hcl hok hj hjl h1
        rcases h2 with rfl | rfl | rfl
        · have hix2 : ∀ w, (Instr.index 9 (.string bs) (.int .i64 (j : Int))).run Tryd.prog w = .ok (.int .u8 0) w := hix
          clear hix
          go_wp2_with fail
          go_ret
          exact ⟨by rw [HQ.out]; rfl, rfl⟩
        · have hix2 : ∀ w, (Instr.index 9 (.string bs) (.int .i64 (j : Int))).run Tryd.prog w = .ok (.int .u8 61) w := hix
          clear hix
          go_wp2_with fail
          go_ret
          exact ⟨by rw [HQ.out]; rfl, rfl⟩
        · have hix2 : ∀ w, (Instr.index 9 (.string bs) (.int .i64 (j : Int))).run Tryd.prog w = .ok (.int .u8 10) w := hix
          clear hix
          go_wp2_with fail
          go_ret
          exact ⟨by rw [HQ.out]; rfl, rfl⟩
      · have HQ : Hid ((l.take (j + 1)).all Px.okB = true) := Lib.hid (by rw [take_snoc l j hjl, List.all_append, hok, hcl]; simp [h1])
        clear hc hcl hok hj hjl h1
        go_wp2_with fail
        exact ⟨⟨j + 1, HJ.out, by go_num, HQ.out, by first | rfl | trivial⟩, by have := HJ.out; simp only [intOf]; omega⟩
    · obtain rfl : j = l.length := by omega
      rw [List.take_length] at hok
      have hjI : decide ((l.length : Int) < (bs.size : Int)) = false := decide_eq_false (by have := HSZ.out; omega)
      have hjN : decide (l.length < bs.size) = false := decide_eq_false (by have := HSZ.out; omega)
      have HOK := Lib.hid hok
      by_cases h255 : l.length ≤ 255
      · have hd : decide ((bs.size : Int) ≤ 255) = true := decide_eq_true (by have := HSZ.out; omega)
        have H2 := Lib.hid h255
        clear hok h255 hjl hj
        go_wp2_with fail
        go_ret
        exact ⟨by rw [HOK.out, decide_eq_true H2.out]; rfl, rfl⟩
      · have hd : decide ((bs.size : Int) ≤ 255) = false := decide_eq_false (by have := HSZ.out; omega)
        have H2 := Lib.hid h255
        clear hok h255 hjl hj
        go_wp2_with fail
        go_ret
        exact ⟨by rw [HOK.out, decide_eq_false H2.out]; rfl, rfl⟩
/-- What Get has under way. -/
structure RG (w : World) (L : List UInt8) (wx : World) (a : Nat) (acc : List Px.Rec) (v : Value) : Prop where
  below : Below w.heap.size w wx
  own : OwnR w.heap.size 39 wx v acc
  le : a ≤ L.length
  cnt : acc.length + (L.length - a) ≤ 2000
  eq : Px.get L = match Px.get (L.drop a) with | .error e => .error e | .ok t => .ok (acc ++ t)
def RGetPost (w : World) (L : List UInt8) (e : Ending) (w' : World) : Prop := Below w.heap.size w w' ∧
  ((∃ x : Nat, Px.get L = .error x ∧ e = .returned (.tuple #[.slice none 0 0, .int .i64 (x : Int)])) ∨
   (∃ rs u, Px.get L = .ok rs ∧ e = .returned (.tuple #[u, .int .i64 0]) ∧ OwnR w.heap.size 39 w' u rs))
theorem Px.nDigits_small' {u : Nat} (h : u < 10) : Lib.nDigits u = 1 := Lib.nDigits_small h
theorem RG.err {w : World} {L : List UInt8} {wx : World} {a : Nat} {acc : List Px.Rec} {v : Value} (h : RG w L wx a acc v) (ha : a < L.length) (x : Nat) (ho : Px.one (L.drop a) = .error x) {w' : World} (hb : Below w.heap.size w w') : RGetPost w L (.returned (.tuple #[.slice none 0 0, .int .i64 (x : Int)])) w' := by
  have hne : L.drop a ≠ [] := by intro h9; have := congrArg List.length h9; rw [List.length_drop, List.length_nil] at this; omega
  exact ⟨hb, .inl ⟨x, by rw [h.eq, Px.get_stop hne ho], rfl⟩⟩
theorem drop_at (L : List UInt8) (f a : Nat) (h1 : f ≤ a) (h2 : a < L.length) : L.drop f = (L.drop f).take (a - f) ++ L[a] :: L.drop (a + 1) := by
  conv => lhs; rw [← List.take_append_drop (a - f) (L.drop f)]
  rw [List.drop_drop, show f + (a - f) = a by omega, List.drop_eq_getElem_cons h2]
theorem take_at (L : List UInt8) (f a : Nat) (h1 : f ≤ a) (h2 : a < L.length) : (L.drop f).take (a + 1 - f) = (L.drop f).take (a - f) ++ [L[a]] := by
  rw [show a + 1 - f = a - f + 1 by omega, take_snoc _ _ (by rw [List.length_drop]; omega)]
  congr 2
  rw [List.getElem_drop]
  congr 1; omega
/-- The digits read. -/
structure Dg (L : List UInt8) (f a n : Nat) : Prop where
  ge : f ≤ a
  le : a ≤ L.length
  val : n = vl ((L.drop f).take (a - f))
  dig : ∀ c ∈ (L.drop f).take (a - f), isD c
  head : ((L.drop f).take (a - f)).head? ≠ some 48
  small : n ≤ 16777216
theorem Dg.start (L : List UInt8) (f : Nat) (h : f ≤ L.length) : Dg L f f 0 := ⟨Nat.le_refl _, h, by simp [vl], by simp, by simp, by omega⟩
theorem Dg.dec {L : List UInt8} {f a n : Nat} (h : Dg L f a n) (hlt : f < a) : Lib.decDigits n = (L.drop f).take (a - f) ∧ 1 ≤ n := by
  have hne : (L.drop f).take (a - f) ≠ [] := by
    intro h9
    have := congrArg List.length h9
    have := h.le
    rw [List.length_take, List.length_drop, List.length_nil] at *
    omega
  have := Px.dec_vl _ _ rfl h.dig hne h.head
  rw [← h.val] at this
  exact this
end Go.Proofs.YtjgphicmkmdeiaaDoor
