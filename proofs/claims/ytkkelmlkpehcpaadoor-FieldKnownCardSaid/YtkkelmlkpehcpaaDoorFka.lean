/-
  The calls of the law FieldKnown.
-/
import Derived.Lib.AppendZerosOnto
import Derived.Test.YtkkelmlkpehcpaaDoorFb
import Derived.Test.YtkkelmlkpehcpaaDoorFe
namespace Go.Proofs.YtkkelmlkpehcpaaDoor
open Go.RowKit

def lit129 : List UInt8 := [129, 0, 0, 0, 0, 0, 0, 0, 0, 0, 0, 0, 0, 0, 0, 0, 0, 0, 0, 0]
theorem zeros19 : (#[Value.int .u8 129] ++ Builtin.zeroCells (Value.int .u8 0).cells 19) = (bl lit129).toArray := by kernel_rfl
/-- append of a make of 19 bytes. -/
theorem run_app19 (w : World) (ty : TypeId) : ∃ v' w', (Builtin.append_ #[22, 3] ty #[.slice (some ⟨w.heap.size, 0, none⟩) 1 1, .int .i64 19]).run Tryd.prog (w.alloc (.cells #[.int .u8 129] 5)) = .ok v' w' ∧ SlV w' v' (bl lit129) ∧ Below w.heap.size w w' := by
  obtain ⟨i0, hi, hz0, hz1, hz2⟩ := info_parts info5
  have hB : Below w.heap.size w (w.alloc (.cells #[.int .u8 129] 5)).drew := below_drewN ((Below.refl w.heap.size w).alloc (Nat.le_refl _) _) 1
  have hnews : ∀ j u, [Value.int .u8 129][j]? = some u → (w.alloc (.cells #[.int .u8 129] 5)).drew.cell? ((⟨w.heap.size, 0, none⟩ : Addr).add j) = some u := by
    intro j u hj
    match j, hj with
    | 0, hj => rw [← hj, add0]; exact cell_of_row _ _ 0 _ _ _ (heap_alloc_new _ _)
    | j + 1, hj => simp at hj
  have hf := run_firstCells_some (P := Tryd.prog) (w.alloc (.cells #[.int .u8 129] 5)).drew i0.size 1 ⟨w.heap.size, 0, none⟩ 1 1 [.int .u8 129] (by rw [hz1]; rfl) hnews
  have hr := Lib.run_append_grow_zeros (P := Tryd.prog) (w.alloc (.cells #[.int .u8 129] 5)) 22 3 ty 5 i0 (.int .u8 0) .i64 .i64 Tryd.underlying22 Tryd.underlying3 hi hz0 (some ⟨w.heap.size, 0, none⟩) 1 1 [.int .u8 129] hf 19 (by decide) (by omega) (by decide) (by decide) (by rw [hz2]; decide) (by rw [hz2]; decide)
  have hge := grownCap_ge (w.alloc (.cells #[.int .u8 129] 5)) (1 + 19) 1 5
  refine ⟨_, _, hr, .inl ⟨_, 0, _, rfl, by simpa [bl, lit129] using hge, fun i v hi => ?_⟩, (hB.trans ?_)⟩
  · rw [Nat.zero_add]
    refine (cell_of_row _ _ _ _ _ _ (heap_alloc_new (w.alloc (.cells #[.int .u8 129] 5)).drew _)).trans ?_
    have hi' : i < 20 := by
      have := (List.getElem?_eq_some_iff.1 hi).1
      simpa [bl, lit129] using this
    rw [Array.getElem?_append_left (by rw [zeros19]; simpa [bl, lit129] using hi'), zeros19, ← hi]
    simp
  · exact (Below.refl w.heap.size _).alloc (by simp) _
theorem wpList_app19 {w w0 : World} {ops : Array Oper} {rest : List Oper} {o : Oper} {a : Act} {Q : Exit → Act → World → Prop} (hgd : o.guard = none) (d : Operand)
    (ho : o.op = .call { callee := .builtin .append, args := #[d, .const (.int .i64 19)], argTypes := #[22, 3] }) (hw : w = w0.alloc (.cells #[.int .u8 129] 5)) (hd : a.eval d = .slice (some ⟨w0.heap.size, 0, none⟩) 1 1)
    (h : ∀ v' w', SlV w' v' (bl lit129) → Below w0.heap.size w0 w' → wpList Tryd.prog ops Q rest (a.put o.dst v') w') : wpList Tryd.prog ops Q (o :: rest) a w := by
  subst hw
  refine wpList_plain hgd fun K hK => ?_
  obtain ⟨v', w', hrun, h1, h2⟩ := run_app19 w0 o.type
  have hc : a.eval (.const (.int .i64 19)) = .int .i64 19 := rfl
  unfold Oper.wp
  simp only [execOp, ho, resolve, invoke, builtin, hd, hc, hrun, Result.andThen, List.map_toArray, List.map_cons, List.map_nil, Sem.run_bind, Sem.run_pure]
  exact hK _ _ (h v' w' h1 h2)

def JustPost (v : Value) (w : World) (e : Ending) (w' : World) : Prop := e = .returned v ∧ Below w.heap.size w w'
set_option maxRecDepth 100000 in
set_option maxHeartbeats 1000000 in
theorem part_nil (w : World) (s : ByteArray) (hs : s.size ≤ maxLen) (p l : Nat) (hp : place s.data.toList = some (p, l)) :
    Calls Tryd.prog 40 #[.pointer none, .string s] w (JustPost (.tuple #[.slice none 0 0, .bool false]) w) := by
  have HS := Lib.hid hs
  have HP := Lib.hid hp
  clear hs hp
  go_enter Tryd.func40, Tryd.ntmps40
  go_wp2_with ((with_reducible refine (places_walk _).mono ?_); rintro e w' ⟨b, rfl, hM⟩; have HM := Lib.hid hM; clear hM; have hlook := HM.out.look1 s HS.out p l HP.out)
  go_ret2
  exact ⟨rfl, HM.out.below.alloc HM.out.below.size _⟩
theorem field_nil (w : World) : Calls Tryd.prog 23 #[.pointer none, .string ⟨#[110, 97, 109, 101]⟩] w (JustPost (.tuple #[.slice none 0 0, .bool false]) w) := by
  have HC := Lib.hid (part_nil w ⟨#[110, 97, 109, 101]⟩ (by decide) 0 100 (by decide))
  go_enter Tryd.func23, Tryd.ntmps23
  go_wp2_with (first | ((with_reducible refine HC.out.mono ?_); rintro e w' ⟨rfl, hb⟩; have HB := Lib.hid hb; clear hb) | ((with_reducible refine (clone_nil _ _ _).mono ?_); rintro e w2 ⟨rfl, rfl⟩))
  go_ret2
  exact ⟨rfl, HB.out⟩
theorem set_nil (w : World) (v : Value) : Calls Tryd.prog 29 #[.pointer none, .string ⟨#[116, 121, 112, 101]⟩, v] w (JustPost (.int .i64 1) w) := by
  have HC := Lib.hid (part_nil w ⟨#[116, 121, 112, 101]⟩ (by decide) 156 1 (by decide))
  go_enter Tryd.func29, Tryd.ntmps29
  go_wp2_with (first | ((with_reducible refine HC.out.mono ?_); rintro e w' ⟨rfl, hb⟩; have HB := Lib.hid hb; clear hb))
  go_ret
  exact ⟨rfl, HB.out⟩
theorem set_nil1 (w : World) (b : Nat) : Calls Tryd.prog 29 #[.pointer none, .string ⟨#[116, 121, 112, 101]⟩, .slice (some ⟨b, 0, none⟩) 1 1] (w.alloc (.cells #[.int .u8 1] 5)) (JustPost (.int .i64 1) w) :=
  (set_nil _ _).mono fun e w' ⟨he, hb⟩ => ⟨he, ((Below.refl w.heap.size w).alloc (Nat.le_refl _) _).trans (hb.mono (by simp))⟩
def SamePost (v : Value) (w : World) (e : Ending) (w' : World) : Prop := e = .returned v ∧ w = w'
set_option maxHeartbeats 1000000 in
theorem sum_nil (w : World) : Calls Tryd.prog 24 #[.pointer none] w (SamePost (.int .i64 0) w) := by
  go_enter Tryd.func24, Tryd.ntmps24
  go_wp2_with fail
  go_ret
  exact ⟨rfl, rfl⟩
set_option maxHeartbeats 1000000 in
theorem check_nil (w : World) : Calls Tryd.prog 26 #[.pointer none] w (SamePost (.int .i64 1) w) := by
  go_enter Tryd.func26, Tryd.ntmps26
  go_wp2_with fail
  go_ret
  exact ⟨rfl, rfl⟩
set_option maxHeartbeats 1000000 in
theorem zero_nil (w : World) : Calls Tryd.prog 28 #[.pointer none] w (SamePost (.bool false) w) := by
  go_enter Tryd.func28, Tryd.ntmps28
  go_wp2_with fail
  go_ret
  exact ⟨rfl, rfl⟩
set_option maxHeartbeats 1000000 in
theorem seal_nil (w : World) : Calls Tryd.prog 31 #[.pointer none] w (SamePost (.tuple #[]) w) := by
  go_enter Tryd.func31, Tryd.ntmps31
  go_wp2_with fail
  go_end0
  exact ⟨rfl, rfl⟩

def NumB (r : Int × Int) (w : World) (e : Ending) (w' : World) : Prop := e = .returned (.tuple #[.int .i64 r.1, .int .i64 r.2]) ∧ Below w.heap.size w w'
theorem num_litB (w : World) (b : Nat) (hb : w.heap.size = b) (l : List UInt8) (r : Int × Int) (hr : Fx.num l = r) (hl : l.length ≤ 20) (fr : Nat × Nat) :
    Calls Tryd.prog 14 #[.slice (some ⟨b, 0, none⟩) l.length l.length] (w.alloc (.cells (bl l).toArray 5 fr)) (NumB r w) :=
  (num_lit w b hb l r hr hl fr).mono fun _ _ ⟨he, hw⟩ => ⟨he, hw ▸ (Below.refl w.heap.size w).alloc (Nat.le_refl _) _⟩
theorem numFF (w : World) (b : Nat) (hb : w.heap.size = b) : Calls Tryd.prog 14 #[.slice (some ⟨b, 0, none⟩) 1 1] (w.alloc (.cells #[.int .u8 255] 5)) (NumB (-1, 0) w) := num_litB w b hb [255] (-1, 0) (by decide) (by decide) _
theorem num7s8 (w : World) (b : Nat) (hb : w.heap.size = b) : Calls Tryd.prog 14 #[.slice (some ⟨b, 0, none⟩) 3 3] (w.alloc (.cells #[.int .u8 55, .int .u8 32, .int .u8 56] 5 (3, 4))) (NumB (7, 0) w) := num_litB w b hb [55, 32, 56] (7, 0) (by decide) (by decide) _
theorem num78 (w : World) (b : Nat) (hb : w.heap.size = b) : Calls Tryd.prog 14 #[.slice (some ⟨b, 0, none⟩) 2 2] (w.alloc (.cells #[.int .u8 55, .int .u8 56] 5 (2, 3))) (NumB (0, 5) w) := num_litB w b hb [55, 56] (0, 5) (by decide) (by decide) _
theorem numnul (w : World) (b : Nat) (hb : w.heap.size = b) : Calls Tryd.prog 14 #[.slice (some ⟨b, 0, none⟩) 1 1] (w.alloc (.cells #[.int .u8 0] 5)) (NumB (0, 0) w) := num_litB w b hb [0] (0, 0) (by decide) (by decide) _
def n21 : List UInt8 := List.replicate 21 0
theorem made21 : ∀ w, (Instr.makeSlice 22 (.int .i64 21) (.int .i64 21)).run Tryd.prog w = .ok (.slice (some ⟨w.heap.size, 0, none⟩) 21 21) (w.alloc (.cells (bl n21).toArray 5)) := made_bytes 21 (by decide)
theorem num21 (w : World) (b : Nat) (hb : w.heap.size = b) : Calls Tryd.prog 14 #[.slice (some ⟨b, 0, none⟩) 21 21] (w.alloc (.cells (bl n21).toArray 5)) (NumB (0, 1) w) := by
  subst hb
  have h := slv_marked w (bl n21) 5 (0, 0)
  have := number_walk _ _ n21 h (by decide)
  rw [show Fx.num n21 = (0, 1) by decide] at this
  exact this.mono fun _ _ ⟨he, hw⟩ => ⟨he, hw ▸ (Below.refl w.heap.size w).alloc (Nat.le_refl _) _⟩
theorem num129 (w : World) (v : Value) (h : SlV w v (bl lit129)) : Calls Tryd.prog 14 #[v] w (NumPost (0, 3) w) := by
  have := number_walk w v lit129 h (by decide)
  rwa [show Fx.num lit129 = (0, 3) by decide] at this
theorem octK (w : World) (n many : Int) (l : List UInt8) (x : Int) (h1 : -9223372036854775808 ≤ n) (h2 : n < 9223372036854775808) (hl : Fx.octL n many = l) (hx : Fx.octE n many = x) (h : TzAt w) :
    Calls Tryd.prog 10 #[.int .i64 n, .int .i64 many] w (MadePost l x w) := by
  have := octal_walk w n many h1 h2 h
  rwa [hl, hx] at this
theorem widK (w : World) (n many : Int) (l : List UInt8) (x : Int) (h1 : -9223372036854775808 ≤ n) (h2 : n < 9223372036854775808) (hl : Fx.widL n many = l) (hx : Fx.widE n many = x) :
    Calls Tryd.prog 12 #[.int .i64 n, .int .i64 many] w (MadePost l x w) := by
  have := wide_walk w n many h1 h2
  rwa [hl, hx] at this
theorem oct_1_1 (w : World) (h : TzAt w) : Calls Tryd.prog 10 #[.int .i64 1, .int .i64 1] w (MadePost [] 1 w) := octK w 1 1 [] 1 (by decide) (by decide) (by decide) (by decide) h
theorem oct_1_21 (w : World) (h : TzAt w) : Calls Tryd.prog 10 #[.int .i64 1, .int .i64 21] w (MadePost [] 1 w) := octK w 1 21 [] 1 (by decide) (by decide) (by decide) (by decide) h
theorem oct_m1_8 (w : World) (h : TzAt w) : Calls Tryd.prog 10 #[.int .i64 (-1), .int .i64 8] w (MadePost [] 3 w) := octK w (-1) 8 [] 3 (by decide) (by decide) (by decide) (by decide) h
theorem oct_8_2 (w : World) (h : TzAt w) : Calls Tryd.prog 10 #[.int .i64 8, .int .i64 2] w (MadePost [] 3 w) := octK w 8 2 [] 3 (by decide) (by decide) (by decide) (by decide) h
theorem oct_7_2 (w : World) (h : TzAt w) : Calls Tryd.prog 10 #[.int .i64 7, .int .i64 2] w (MadePost [55, 0] 0 w) := octK w 7 2 [55, 0] 0 (by decide) (by decide) (by decide) (by decide) h
theorem wid_1_1 (w : World) : Calls Tryd.prog 12 #[.int .i64 1, .int .i64 1] w (MadePost [] 1 w) := widK w 1 1 [] 1 (by decide) (by decide) (by decide) (by decide)
theorem wid_p_2 (w : World) : Calls Tryd.prog 12 #[.int .i64 16384, .int .i64 2] w (MadePost [] 3 w) := widK w 16384 2 [] 3 (by decide) (by decide) (by decide) (by decide)
theorem wid_m_2 (w : World) : Calls Tryd.prog 12 #[.int .i64 (-16384), .int .i64 2] w (MadePost [192, 0] 0 w) := widK w (-16384) 2 [192, 0] 0 (by decide) (by decide) (by decide) (by decide)
def BackPost (n : Int) (w : World) (e : Ending) (w' : World) : Prop := ∃ v l, e = .returned (.tuple #[v, .int .i64 0]) ∧ SlV w' v (bl l) ∧ Fx.num l = (n, 0) ∧ l.length ≤ 1000 ∧ Below w.heap.size w w'
theorem wid_min (w : World) : Calls Tryd.prog 12 #[.int .i64 (-9223372036854775808), .int .i64 20] w (BackPost (-9223372036854775808) w) :=
  (wide_fits w (-9223372036854775808) 20 20 rfl (by decide) (by decide) (by decide) (by decide) (by decide)).mono fun e w' ⟨g, c, l, b, he, hs, hn, _, _, hb⟩ => ⟨_, l, he, hs, hn, by have := hs.llen; omega, hb⟩
theorem text_abc (w : World) : Calls Tryd.prog 18 #[.string ⟨#[97, 98, 99]⟩, .int .i64 2] w (MadePost [] 3 w) := by
  have := text_walk w [97, 98, 99] 2 (by decide)
  rw [show txtL [97, 98, 99] 2 = [] by decide, show txtE [97, 98, 99] 2 = 3 by decide] at this
  exact this
theorem str_a0b (w : World) (b : Nat) (hb : w.heap.size = b) : Calls Tryd.prog 20 #[.slice (some ⟨b, 0, none⟩) 3 3] (w.alloc (.cells #[.int .u8 97, .int .u8 0, .int .u8 98] 5 (3, 4))) (JustPost (.string ⟨#[97]⟩) w) := by
  subst hb
  have h := slv_marked w (bl [97, 0, 98]) 5 (3, 4)
  have := string_walk _ _ [97, 0, 98] h (by decide)
  rw [show strF [97, 0, 98] = [97] by decide] at this
  exact this.mono fun e w' ⟨he, hb⟩ => ⟨he, ((Below.refl w.heap.size w).alloc (Nat.le_refl _) _).trans (hb.mono (by simp))⟩
theorem num_nil (w : World) : Calls Tryd.prog 14 #[.slice none 0 0] w (NumPost (0, 1) w) := num_none w _ (.inr ⟨none, rfl, rfl⟩)
def z512 : List UInt8 := List.replicate 512 0
theorem z512_len : z512.length = 512 := List.length_replicate
theorem blk_new (w : World) : BlkAt (w.alloc (.cells Tryd.zeroCells40 40)) w.heap.size z512 := ⟨z512_len, by rw [zero512]; exact heap_alloc_new _ _⟩
theorem sum_z : sumF z512 = 256 := by decide +kernel
theorem check_z : checkF z512 = 5 := by decide +kernel
theorem equal_j (w : World) (b : Nat) (v : Value) (hv : SlV w v (bl [192, 0])) (hb : w.heap.size = b) : Calls Tryd.prog 16 #[v, .slice (some ⟨b, 0, none⟩) 2 2] (w.alloc (.cells #[.int .u8 192, .int .u8 0] 5)) (SamePost (.bool true) (w.alloc (.cells #[.int .u8 192, .int .u8 0] 5))) := by
  subst hb
  exact (equal_same _ _ _ [192, 0] (hv.below ((Below.refl w.heap.size w).alloc (Nat.le_refl _) _) (Nat.le_refl _)) (slv_marked w (bl [192, 0]) 5 (0, 0))).mono fun _ _ ⟨he, hw⟩ => ⟨he, hw.symm⟩
theorem z_zero (w : World) (g : Nat) (h : BlkAt w g z512) : Calls Tryd.prog 28 #[.pointer (some ⟨g, 0, none⟩)] w (SamePost (.bool true) w) :=
  (zero_walk w g z512 h).mono fun _ _ ⟨he, hw⟩ => ⟨by rw [he, show (z512 == List.replicate 512 0) = true from beq_self_eq_true _], hw⟩
theorem z_check (w : World) (g : Nat) (h : BlkAt w g z512) : Calls Tryd.prog 26 #[.pointer (some ⟨g, 0, none⟩)] w (JustPost (.int .i64 5) w) :=
  (check_walk w g z512 h).mono fun _ _ ⟨he, hb⟩ => ⟨by rw [he, check_z], hb⟩
theorem z_sum (w : World) (g : Nat) (h : BlkAt w g z512) : Calls Tryd.prog 24 #[.pointer (some ⟨g, 0, none⟩)] w (JustPost (.int .i64 256) w) :=
  (sum_walk w g z512 h).mono fun _ _ ⟨he, hb⟩ => ⟨by rw [he, sum_z]; rfl, hb⟩
end Go.Proofs.YtkkelmlkpehcpaaDoor
