/-
  Merged, in the order in which they build: Byt.
-/
import Derived.Lib.SlBytesConst
import Derived.Maps.OwnSet
import Derived.Test.YtphdcgioeokfbaaDoorMg1
import Derived.Test.YtphdcgioeokfbaaDoorMg3
/-
  Bytes in memory; bytes.Clone; must, refuse.
-/
namespace Go.Proofs.YtphdcgioeokfbaaDoor
open Go.RowKit Go.Maps

/-- Bytes, as cells. -/
def bi (b : UInt8) : Int := (b.toNat : Int)
def bl (l : List UInt8) : List Value := l.map fun x => Value.int .u8 (bi x)
@[simp] theorem bl_length (l : List UInt8) : (bl l).length = l.length := by simp [bl]
theorem bl_take (l : List UInt8) (k : Nat) : (bl l).take k = bl (l.take k) := by simp [bl, List.map_take]
theorem bl_drop (l : List UInt8) (k : Nat) : (bl l).drop k = bl (l.drop k) := by simp [bl, List.map_drop]
theorem bl_append (a b : List UInt8) : bl (a ++ b) = bl a ++ bl b := by simp [bl]
theorem bl_one (l : List UInt8) : ∀ v ∈ bl l, v.oneCell' = true := by
  intro v hv; simp [bl] at hv; obtain ⟨x, _, rfl⟩ := hv; rfl
theorem RowAt.bl {w : World} {g o : Nat} {l : List UInt8} (h : RowAt w g o (bl l)) (i : Nat) (hi : i < l.length) : w.cell? ⟨g, o + i, none⟩ = some (.int .u8 (bi (l.getD i 0))) := by
  refine h i _ ?_
  simp [YtphdcgioeokfbaaDoor.bl, hi]
theorem bi_lt (b : UInt8) : 0 ≤ bi b ∧ bi b < 256 := by
  have := b.toNat_lt
  unfold bi; omega
theorem bi_inj {a b : UInt8} : bi a = bi b ↔ a = b := by
  unfold bi
  constructor
  · intro h; exact UInt8.toNat_inj.1 (by omega)
  · intro h; rw [h]
theorem info5 : (Tryd.prog.info? 5).map (fun i => (i.zero, i.size, i.bytes)) = some (some (.int .u8 0), 1, 1) := by kernel_rfl
def ClonePost (bs : List UInt8) (w : World) (e : Ending) (w' : World) : Prop := ∃ v', e = .returned v' ∧ w'.ownsRow w.heap.size 5 1 v' bs.length (bl bs) ∧ Below w.heap.size w w'
set_option maxRecDepth 100000 in
set_option maxHeartbeats 400000 in
/-- bytes.Clone, not of nil. -/
theorem clone_some (w : World) (a : Addr) (n cap : Nat) (bs : List UInt8) (hs : SlV w (.slice (some a) n cap) (bl bs)) (hlen : bs.length ≤ 1099511627776) :
    Calls Tryd.prog 36 #[.slice (some a) n cap] w (ClonePost bs w) := by
  have q22 : ∀ (w : World) (a : Option Addr) (n c n' c' : Nat), (binOp .eql 34 (.slice a n c) (.slice none n' c')).run Tryd.prog w = .ok (.bool a.isNone) w := fun w a n c n' c' => Lib.run_eql_slice_nil w _ _ a n c n' c' Tryd.underlying34
  have u22 : ∀ w, Sem.run Tryd.prog (underlying 34) w = .ok (TypeDesc.slice 5) w := run_underlying Tryd.underlying34
  obtain ⟨i0, hi, hz0, hz1, hz2⟩ := info_parts info5
  have z5 : ∀ w, Sem.run Tryd.prog (Go.sizeOf 5) w = .ok 1 w := fun w => by simp [Go.sizeOf, typeInfo, hi, hz1]
  have HI0 := Lib.hid (And.intro hi (And.intro hz0 (And.intro hz1 hz2)))
  have HS : Hid (SlK 1 (w.alloc (.cells #[] 5)) (.slice (some a) n cap) bs.length (bl bs)) := Lib.hid (by
    have h := (hs.below ((Below.refl w.heap.size w).alloc (Nat.le_refl _) (.cells #[] 5)) (Nat.le_refl _)).toK
    rw [bl_length] at h
    exact h)
  have HL := Lib.hid hlen
  have HO : Hid ((w.alloc (.cells #[] 5)).ownsRow w.heap.size 5 1 (.slice (some ⟨w.heap.size, 0, none⟩) 0 0) 0 []) := Lib.hid (World.ownsRow_made w #[] 0 (Nat.le_refl _) (Nat.zero_le _) rfl)
  clear hs hlen hi hz0 hz1 hz2
  go_enter Tryd.func36, Tryd.ntmps36
  go_wp2_with (refine wpList_appK 34 5 i0 (.int .u8 0) 1 1 Tryd.underlying34 HI0.out.1 HI0.out.2.1 HI0.out.2.2.1 HI0.out.2.2.2 rfl (by decide) (by decide) rfl (.tmp 5) (.tmp 6) rfl w.heap.size (.slice (some ⟨w.heap.size, 0, none⟩) 0 0) (.slice (some a) n cap) 0 bs.length [] (bl bs) rfl rfl (bl_one bs) HO.out HS.out (by simp) (by have := HL.out; omega) ?_; intro v' w1 hown hgrow _)
  go_ret
  rw [Nat.zero_add, List.nil_append] at hown
  exact ⟨v', rfl, hown, ((Below.refl _ w).alloc (Nat.le_refl _) _).grown hgrow (by simp) (by intro k hk; simp [Value.ownBlock] at hk; omega)⟩
set_option maxHeartbeats 400000 in
theorem clone_nil (w : World) (n cap : Nat) :
    Calls Tryd.prog 36 #[.slice none n cap] w fun e w' => e = .returned (.slice none 0 0) ∧ w = w' := by
  have q22 : ∀ (w : World) (a : Option Addr) (n c n' c' : Nat), (binOp .eql 34 (.slice a n c) (.slice none n' c')).run Tryd.prog w = .ok (.bool a.isNone) w := fun w a n c n' c' => Lib.run_eql_slice_nil w _ _ a n c n' c' Tryd.underlying34
  go_enter Tryd.func36, Tryd.ntmps36
  go_wp2_with fail
  go_ret
  exact ⟨rfl, rfl⟩
theorem clone_walk (w : World) (v : Value) (bs : List UInt8) (hs : SlV w v (bl bs)) (hlen : bs.length ≤ 1099511627776) : Calls Tryd.prog 36 #[v] w (ClonePost bs w) := by
  have hs0 := hs
  rcases hs with ⟨g, o, cap, rfl, h2, hB⟩ | ⟨p, rfl, h0⟩
  · exact clone_some w _ _ _ bs hs0 hlen
  · obtain rfl : bs = [] := by cases bs with | nil => rfl | cons _ _ => simp [bl] at h0
    cases p with
    | some a => exact clone_some w _ _ _ [] hs0 hlen
    | none => exact (clone_nil w 0 0).mono fun e w' ⟨he, hw⟩ => hw ▸ ⟨_, he, World.ownsRow_nil _ _ _ _, Below.refl _ _⟩
end Go.Proofs.YtphdcgioeokfbaaDoor
