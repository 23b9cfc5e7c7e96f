/-
  Blocks: Field, Set.
-/
import Derived.Test.YtkkelmlkpehcpaaDoorFp
namespace Go.Proofs.YtkkelmlkpehcpaaDoor
open Go.RowKit

def ClonePost (bs : List UInt8) (w : World) (e : Ending) (w' : World) : Prop := ∃ v', e = .returned v' ∧ w'.ownsRow w.heap.size 5 1 v' bs.length (bl bs) ∧ Below w.heap.size w w'
set_option maxRecDepth 100000 in
set_option maxHeartbeats 400000 in
/-- bytes.Clone, not of nil. -/
theorem clone_some (w : World) (a : Addr) (n cap : Nat) (bs : List UInt8) (hs : SlV w (.slice (some a) n cap) (bl bs)) (hlen : bs.length ≤ 1099511627776) :
    Calls Tryd.prog 41 #[.slice (some a) n cap] w (ClonePost bs w) := by
  have q22 : ∀ (w : World) (a : Option Addr) (n c n' c' : Nat), (binOp .eql 22 (.slice a n c) (.slice none n' c')).run Tryd.prog w = .ok (.bool a.isNone) w := fun w a n c n' c' => Lib.run_eql_slice_nil w _ _ a n c n' c' Tryd.underlying22
  have u22 : ∀ w, Sem.run Tryd.prog (underlying 22) w = .ok (TypeDesc.slice 5) w := run_underlying Tryd.underlying22
  obtain ⟨i0, hi, hz0, hz1, hz2⟩ := info_parts info5
  have z5 : ∀ w, Sem.run Tryd.prog (Go.sizeOf 5) w = .ok 1 w := fun w => by simp [Go.sizeOf, typeInfo, hi, hz1]
  have HI0 := Lib.hid (And.intro hi (And.intro hz0 (And.intro hz1 hz2)))
  have HS : Hid (SlK 1 (w.alloc (.cells #[] 5)) (.slice (some a) n cap) bs.length (bl bs)) := Lib.hid (by
    have h := (hs.below ((Below.refl w.heap.size w).alloc (Nat.le_refl _) (.cells #[] 5)) (Nat.le_refl _)).toK
    rw [bl_length] at h
    exact h)
  have HL := Lib.hid hlen
  have HO : Hid ((w.alloc (.cells #[] 5)).ownsRow w.heap.size 5 1 (.slice (some ⟨w.heap.size, 0, none⟩) 0 0) 0 []) := Lib.hid (World.ownsRow_made w #[] 0 (Nat.le_refl _) (Nat.zero_le _) rfl)
  clear hs hlen hi hz0 hz1 hz2
  go_enter Tryd.func41, Tryd.ntmps41
  go_wp2_with (refine wpList_appK 22 5 i0 (.int .u8 0) 1 1 Tryd.underlying22 HI0.out.1 HI0.out.2.1 HI0.out.2.2.1 HI0.out.2.2.2 rfl (by decide) (by decide) rfl (.tmp 5) (.tmp 6) rfl w.heap.size (.slice (some ⟨w.heap.size, 0, none⟩) 0 0) (.slice (some a) n cap) 0 bs.length [] (bl bs) rfl rfl (bl_one bs) HO.out HS.out (by simp) (by have := HL.out; omega) ?_; intro v' w1 hown hgrow _)
  go_ret
  rw [Nat.zero_add, List.nil_append] at hown
  exact ⟨v', rfl, hown, ((Below.refl _ w).alloc (Nat.le_refl _) _).grown hgrow (by simp) (by intro k hk; simp [Value.ownBlock] at hk; omega)⟩
set_option maxHeartbeats 400000 in
theorem clone_nil (w : World) (n cap : Nat) :
    Calls Tryd.prog 41 #[.slice none n cap] w fun e w' => e = .returned (.slice none 0 0) ∧ w = w' := by
  have q22 : ∀ (w : World) (a : Option Addr) (n c n' c' : Nat), (binOp .eql 22 (.slice a n c) (.slice none n' c')).run Tryd.prog w = .ok (.bool a.isNone) w := fun w a n c n' c' => Lib.run_eql_slice_nil w _ _ a n c n' c' Tryd.underlying22
  go_enter Tryd.func41, Tryd.ntmps41
  go_wp2_with fail
  go_ret
  exact ⟨rfl, rfl⟩
theorem clone_walk (w : World) (v : Value) (bs : List UInt8) (hs : SlV w v (bl bs)) (hlen : bs.length ≤ 1099511627776) : Calls Tryd.prog 41 #[v] w (ClonePost bs w) := by
  have hs0 := hs
  rcases hs with ⟨g, o, cap, rfl, h2, hB⟩ | ⟨p, rfl, h0⟩
  · exact clone_some w _ _ _ bs hs0 hlen
  · obtain rfl : bs = [] := by cases bs with | nil => rfl | cons _ _ => simp [bl] at h0
    cases p with
    | some a => exact clone_some w _ _ _ [] hs0 hlen
    | none => exact (clone_nil w 0 0).mono fun e w' ⟨he, hw⟩ => hw ▸ ⟨_, he, World.ownsRow_nil _ _ _ _, Below.refl _ _⟩

/-- A header block in memory. -/
structure BlkAt (w : World) (g : Nat) (l : List UInt8) : Prop where
  len : l.length = 512
  row : w.heap[g]? = some (.cells (bl l).toArray 40 (0, 0))
theorem BlkAt.below {w w' : World} {g B : Nat} {l : List UInt8} (h : BlkAt w g l) (hb : Below B w w') (hg : g < B) : BlkAt w' g l := ⟨h.len, (hb.block g hg).trans h.row⟩
theorem BlkAt.lt {w : World} {g : Nat} {l : List UInt8} (h : BlkAt w g l) : g < w.heap.size := (Array.getElem?_eq_some_iff.1 h.row).1
theorem BlkAt.only {w w' : World} {g : Nat} {l : List UInt8} {S : Nat → Prop} (h : BlkAt w g l) (hb : OnlyS S w w') (hg : ¬ S g) : BlkAt w' g l := ⟨h.len, (hb.block g h.lt hg).trans h.row⟩
theorem BlkAt.rowAt {w : World} {g : Nat} {l : List UInt8} (h : BlkAt w g l) : RowAt w g 0 (bl l) := fun i v hi => by
  rw [Nat.zero_add, cell_of_row _ _ _ _ _ _ h.row]; simpa using hi
/-- A piece of a block. -/
theorem BlkAt.piece {w : World} {g : Nat} {l : List UInt8} (h : BlkAt w g l) (p n c : Nat) (hp : p + n ≤ 512) (hc : n ≤ c) : SlV w (.slice (some ⟨g, p, none⟩) n c) (bl ((l.drop p).take n)) := by
  have hl : ((l.drop p).take n).length = n := by rw [List.length_take, List.length_drop, h.len]; omega
  have := (h.rowAt.drop p).take n
  rw [bl_drop, bl_take, Nat.zero_add] at this
  exact .inl ⟨g, p, c, by rw [bl_length, hl], by rw [bl_length, hl]; exact hc, this⟩
def setF (l : List UInt8) (p : Nat) (vs : List UInt8) : List UInt8 := l.take p ++ vs ++ l.drop (p + vs.length)
theorem setF_length (l : List UInt8) (p : Nat) (vs : List UInt8) (h : p + vs.length ≤ l.length) : (setF l p vs).length = l.length := by
  simp [setF]; omega
def fpart (l : List UInt8) (p n : Nat) : List UInt8 := (l.drop p).take n
def FieldPost (l : List UInt8) (s : List UInt8) (w : World) (e : Ending) (w' : World) : Prop := match place s with
  | some (p, n) => ∃ v', e = .returned (.tuple #[v', .bool true]) ∧ w'.ownsRow w.heap.size 5 1 v' n (bl (fpart l p n)) ∧ Below w.heap.size w w'
  | none => e = .returned (.tuple #[.slice none 0 0, .bool false]) ∧ Below w.heap.size w w'
theorem fieldc_some {l : List UInt8} {s : List UInt8} {w : World} {p n : Nat} (h : place s = some (p, n)) {v' : Value} {w' : World} (h1 : w'.ownsRow w.heap.size 5 1 v' n (bl (fpart l p n))) (h2 : Below w.heap.size w w') : FieldPost l s w (.returned (.tuple #[v', .bool true])) w' := by
  unfold FieldPost; rw [h]; exact ⟨v', rfl, h1, h2⟩
theorem fieldc_none {l : List UInt8} {s : List UInt8} {w : World} (h : place s = none) {w' : World} (h2 : Below w.heap.size w w') : FieldPost l s w (.returned (.tuple #[.slice none 0 0, .bool false])) w' := by
  unfold FieldPost; rw [h]; exact ⟨rfl, h2⟩
set_option maxRecDepth 100000 in
set_option maxHeartbeats 1000000 in
theorem field_walk (w : World) (g : Nat) (l : List UInt8) (h : BlkAt w g l) (s : ByteArray) (hs : s.size ≤ maxLen) :
    Calls Tryd.prog 23 #[.pointer (some ⟨g, 0, none⟩), .string s] w (FieldPost l s.data.toList w) := by
  have H := Lib.hid h
  clear h
  cases hp : place s.data.toList with
  | none =>
    have HC := Lib.hid (part_none w g s hs hp)
    have HP := Lib.hid hp
    clear hs hp
    go_enter Tryd.func23, Tryd.ntmps23
    go_wp2_with (first | ((with_reducible refine HC.out.mono ?_); rintro e w' ⟨rfl, hb⟩; have HB := Lib.hid hb; clear hb) | ((with_reducible refine (clone_nil _ _ _).mono ?_); rintro e w2 ⟨rfl, rfl⟩))
    go_ret2
    exact fieldc_none HP.out HB.out
  | some x =>
    obtain ⟨p, n⟩ := x
    obtain ⟨b1, b2, b3⟩ := place_in _ _ _ hp
    have HC := Lib.hid (part_some w g s hs p n hp)
    have HP := Lib.hid hp
    have HQ := Lib.hid (And.intro b1 (And.intro b2 b3))
    clear hs hp b1 b2 b3
    go_enter Tryd.func23, Tryd.ntmps23
    go_wp2_with (first
      | ((with_reducible refine HC.out.mono ?_); rintro e w1 ⟨rfl, hb⟩; have HB := Lib.hid hb; clear hb; have HS : Hid (SlV w1 (.slice (some ⟨g, p, none⟩) n (512 - p)) (bl (fpart l p n))) := Lib.hid ((H.out.below HB.out H.out.lt).piece p n (512 - p) (by have := HQ.out; omega) (by have := HQ.out; omega)))
      | ((with_reducible refine (clone_some _ _ _ _ (fpart l p n) HS.out (by have := HS.out.len; rw [bl_length] at this; have := HQ.out; omega)).mono ?_); rintro e w2 ⟨v', rfl, ho, hb2⟩; have HO := Lib.hid ho; have HB2 := Lib.hid hb2; clear ho hb2))
    go_ret2
    refine fieldc_some HP.out ?_ (HB.out.trans (HB2.out.mono HB.out.size))
    have hl : (fpart l p n).length = n := by have := HS.out.len; rwa [bl_length] at this
    have := own_le HO.out (B := w.heap.size) (fun k hk => Nat.le_trans HB.out.size (own_lt HO.out k hk).1)
    rwa [hl] at this
/-- copy into a block. -/
theorem wpList_copy_blk {w : World} {ops : Array Oper} {rest : List Oper} {o : Oper} {a : Act} {Q : Exit → Act → World → Prop} (hgd : o.guard = none) (d s : Operand)
    (ho : o.op = .call { callee := .builtin .copy, args := #[d, s], argTypes := #[22, 22] }) (g p n : Nat) (l : List UInt8) (h : BlkAt w g l) (v : Value) (vs : List UInt8) (hv : SlV w v (bl vs)) (hn : vs.length = n) (hpn : p + n ≤ 512) (h0 : 0 < n) (c : Nat)
    (hd : a.eval d = .slice (some ⟨g, p, none⟩) n c) (hs : a.eval s = v)
    (hK : ∀ w', BlkAt w' g (setF l p vs) → OnlyS (· = g) w w' → wpList Tryd.prog ops Q rest (a.put o.dst (goInt (n : Int))) w') : wpList Tryd.prog ops Q (o :: rest) a w := by
  obtain ⟨q, cap, rfl⟩ := hv.shape
  obtain ⟨g', o', rfl, hrow⟩ := hv.some (by rw [bl_length]; omega)
  have hsz5 : (Tryd.prog.info? 5).map (·.size) = some 1 := by kernel_rfl
  have hl := h.len
  rw [bl_length] at hs
  refine wpList_copy_own hgd d s 22 22 ho 5 Tryd.underlying22 hsz5 g p n c ⟨g', o', none⟩ vs.length cap hd hs (bl l).toArray 40 h.row (bl vs) (by rw [bl_length, hn]; show n = min n n; omega) hrow.src (by simp [hl, hn]; omega) (bl_one _) ?_
  rw [bl_length, hn]
  refine hK _ ⟨by rw [setF_length l p vs (by omega)]; exact hl, ?_⟩ ⟨rfl, rfl, rfl, by simp, fun k _ hk => setRow_other w g k _ hk⟩
  rw [setRow_heap w g _ _ _ _ h.row]
  simp [setF, bl, List.map_take, List.map_drop, hn]
def SetPost (g : Nat) (l : List UInt8) (s : List UInt8) (vs : List UInt8) (w : World) (e : Ending) (w' : World) : Prop := match place s with
  | some (p, n) => if vs.length = n then e = .returned (.int .i64 0) ∧ BlkAt w' g (setF l p vs) ∧ OnlyS (· = g) w w' else e = .returned (.int .i64 1) ∧ Below w.heap.size w w'
  | none => e = .returned (.int .i64 1) ∧ Below w.heap.size w w'
theorem setc_some {g : Nat} {l s vs : List UInt8} {w w' : World} {p n : Nat} (h : place s = some (p, n)) (hn : vs.length = n) (h1 : BlkAt w' g (setF l p vs)) (h2 : OnlyS (· = g) w w') : SetPost g l s vs w (.returned (.int .i64 0)) w' := by
  unfold SetPost; rw [h]; exact (if_pos hn).mpr ⟨rfl, h1, h2⟩
theorem setc_long {g : Nat} {l s vs : List UInt8} {w w' : World} {p n : Nat} (h : place s = some (p, n)) (hn : vs.length ≠ n) (h2 : Below w.heap.size w w') : SetPost g l s vs w (.returned (.int .i64 1)) w' := by
  unfold SetPost; rw [h]; exact (if_neg hn).mpr ⟨rfl, h2⟩
theorem setc_none {g : Nat} {l s vs : List UInt8} {w w' : World} (h : place s = none) (h2 : Below w.heap.size w w') : SetPost g l s vs w (.returned (.int .i64 1)) w' := by
  unfold SetPost; rw [h]; exact ⟨rfl, h2⟩
set_option maxRecDepth 100000 in
set_option maxHeartbeats 1000000 in
theorem set_walk (w : World) (g : Nat) (l : List UInt8) (h : BlkAt w g l) (s : ByteArray) (hs : s.size ≤ maxLen) (v : Value) (vs : List UInt8) (hv : SlV w v (bl vs)) (hlen : vs.length ≤ maxLen) :
    Calls Tryd.prog 29 #[.pointer (some ⟨g, 0, none⟩), .string s, v] w (SetPost g l s.data.toList vs w) := by
  have H := Lib.hid h
  have HV := Lib.hid hv
  obtain ⟨q, cap, rfl⟩ := hv.shape
  rw [bl_length] at *
  unfold maxLen at hlen
  obtain ⟨m, hm⟩ : ∃ m, vs.length = m := ⟨_, rfl⟩
  have HM := Lib.hid hm
  rw [hm] at HV hlen ⊢
  clear h hv hm
  cases hp : place s.data.toList with
  | none =>
    have HC := Lib.hid (part_none w g s hs hp)
    have HP := Lib.hid hp
    clear hs hp
    go_enter Tryd.func29, Tryd.ntmps29
    go_wp2_with ((with_reducible refine HC.out.mono ?_); rintro e w' ⟨rfl, hb⟩; have HB := Lib.hid hb; clear hb)
    go_ret
    exact setc_none HP.out HB.out
  | some x =>
    obtain ⟨p, n⟩ := x
    obtain ⟨b1, b2, b3⟩ := place_in _ _ _ hp
    have HC := Lib.hid (part_some w g s hs p n hp)
    have HP := Lib.hid hp
    have HQ := Lib.hid (And.intro b1 (And.intro b2 b3))
    by_cases hn : m = n
    · subst hn
      have hmm : (m : Int) ≤ 500 := by omega
      clear hs hp b1 b2 b3 hlen
      go_enter Tryd.func29, Tryd.ntmps29
      go_wp2_with (first
        | ((with_reducible refine HC.out.mono ?_); rintro e w1 ⟨rfl, hb⟩; have HB := Lib.hid hb; clear hb; have H1 := Lib.hid (H.out.below HB.out H.out.lt); have HV1 := Lib.hid (HV.out.below HB.out (Nat.le_refl _)))
        | (refine wpList_copy_blk rfl _ _ rfl g p m l H1.out _ vs HV1.out HM.out (by have := HQ.out; omega) HQ.out.2.2 _ rfl rfl ?_; intro w2 hb2 ho2; have H2 := Lib.hid hb2; have HO := Lib.hid ho2; clear hb2 ho2))
      go_ret
      exact setc_some HP.out HM.out H2.out ((OnlyS.of_below HB.out).trans HO.out)
    · have hne : decide ((m : Int) = (n : Int)) = false := decide_eq_false (by omega)
      have hne1 : ((m : Int) == (n : Int)) = false := by rw [beq_eq_false_iff_ne]; omega
      have hne2 : ((m : Int) != (n : Int)) = true := by rw [bne_iff_ne]; omega
      have hne3 : (m == n) = false := by rw [beq_eq_false_iff_ne]; omega
      have hne4 : decide (m = n) = false := decide_eq_false hn
      have HN : Hid (vs.length ≠ n) := Lib.hid (by rw [HM.out]; exact hn)
      clear hs hp b1 b2 b3 hn
      go_enter Tryd.func29, Tryd.ntmps29
      go_wp2_with ((with_reducible refine HC.out.mono ?_); rintro e w1 ⟨rfl, hb⟩; have HB := Lib.hid hb; clear hb)
      go_ret
      exact setc_long HP.out HN.out HB.out
end Go.Proofs.YtkkelmlkpehcpaaDoor
