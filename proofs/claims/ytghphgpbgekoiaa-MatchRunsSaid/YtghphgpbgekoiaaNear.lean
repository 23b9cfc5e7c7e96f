/-
  The map of a chain's ends, by three bytes.
-/
import Derived.Test.YtghphgpbgekoiaaLook
import Derived.Maps.OwnSet
import Derived.Maps.OwnOps
import Derived.WideKeyPair
import Derived.OpenShut
namespace Go.Proofs.Ytghphgpbgekoiaa
open Go.RowKit Go.Maps
theorem wfb (x : UInt8) : (Lit.int .u8 (bi x)).wf = true := by
  have := bi_lt x
  have e1 : IntKind.u8.min = 0 := rfl
  have e2 : IntKind.u8.max = 255 := rfl
  show (decide (IntKind.u8.min ≤ bi x) && decide (bi x ≤ IntKind.u8.max)) = true
  rw [e1, e2]
  simp; omega
theorem arr69 : Go.WideMaps.ArrKey Try.prog 69 5 3 := ⟨Try.underlying69, by kernel_rfl, by kernel_rfl, by kernel_rfl⟩
theorem law69 : Keyed Try.prog 69 := Keyed.of_law arr69.law
theorem zero3 (w : World) : (zeroValue 3).run Try.prog w = .ok (.int .i64 0) w := by kernel_rfl
/-- What the three bytes at a place read as. -/
def kl (b : List UInt8) (p : Nat) : Lit := .string (keyBytes [.int .u8 (bi (Mt.byt b p)), .int .u8 (bi (Mt.byt b (p + 1))), .int .u8 (bi (Mt.byt b (p + 2)))])
theorem keyOf_k3 (b : List UInt8) (p : Nat) : keyOf Try.prog 69 (k3 b p) = some (kl b p) := by
  have A := arr69
  have hkt := A.keyType ⟨_, (by kernel_rfl : Try.prog.types.size = 95 + 1)⟩
  have wa := wfb (Mt.byt b p)
  have wb := wfb (Mt.byt b (p + 1))
  have wc := wfb (Mt.byt b (p + 2))
  unfold k3 kl
  generalize bi (Mt.byt b p) = x0 at *
  generalize bi (Mt.byt b (p + 1)) = x1 at *
  generalize bi (Mt.byt b (p + 2)) = x2 at *
  unfold keyOf
  simp only [A.hu]
  rw [if_pos (by simp [hkt, Value.formed, A.hu, A.size])]
  unfold Program.keyLits
  simp only [A.hu, Value.cells]
  rw [if_pos (by rw [A.size]; rfl), show List.range 3 = [0, 1, 2] from rfl, List.mapM_cons, List.mapM_cons, List.mapM_cons, List.mapM_nil]
  have ht : Try.prog.types.size = 95 + 1 := by kernel_rfl
  rw [ht]
  simp [A.one, Program.keyLits, Try.underlying5, wa, wb, wc]
theorem kl_iff (b : List UInt8) (p q : Nat) : kl b p = kl b q ↔ Mt.same3 b p q = true := by
  rw [Mt.same3_iff]
  constructor
  · intro h
    have h1 := law69.inj (keyOf_k3 b p) (by rw [h]; exact keyOf_k3 b q)
    unfold k3 at h1
    simp only [Value.agg.injEq, Array.mk.injEq, List.cons.injEq, Value.int.injEq, true_and, and_true] at h1
    intro i hi
    match i, hi with
    | 0, _ => exact bi_inj.1 h1.1
    | 1, _ => exact bi_inj.1 h1.2.1
    | 2, _ => exact bi_inj.1 h1.2.2
  · intro h
    unfold kl
    have h0 := h 0 (by omega)
    have h1 := h 1 (by omega)
    have h2 := h 2 (by omega)
    simp only [Nat.add_zero] at h0
    rw [h0, h1, h2]
/-- The map tells, for three bytes, the last place below i at which they stand. -/
structure NearAt (w : World) (B n : Nat) (D : DataW Unit) (b : List UInt8) (i : Nat) : Prop where
  own : w.ownsMap Try.prog 69 (plainElem Try.prog 3) B n D
  tell : ∀ q, match Mt.chain b q i with
    | [] => Maps.has D (kl b q) = false
    | p :: _ => Maps.has D (kl b q) = true ∧ D.atKey (kl b q) (.lit (.int .i64 0)) = .lit (.int .i64 (p : Int))
theorem near_start (w : World) (b : List UInt8) : NearAt (w.alloc (.map #[] 0)) w.heap.size 0 (.map []) b 0 :=
  ⟨World.ownsMap_made _ _ _ _, fun _ => rfl⟩
theorem near_step {w w' : World} {B n n' : Nat} {D : DataW Unit} {b : List UInt8} {i : Nat} (h : NearAt w B n D b i) (ho : w'.ownsMap Try.prog 69 (plainElem Try.prog 3) B n' (D.put (kl b i) (.lit (.int .i64 (i : Int))))) : NearAt w' B n' (D.put (kl b i) (.lit (.int .i64 (i : Int)))) b (i + 1) := by
  refine ⟨ho, fun q => ?_⟩
  have hM := h.own.isMap
  have hk := law69.key (keyOf_k3 b i)
  unfold Mt.chain
  by_cases h1 : Mt.same3 b i q = true
  · rw [if_pos h1]
    have e : kl b q = kl b i := ((kl_iff b i q).2 h1).symm
    show _ ∧ _
    rw [e]
    exact ⟨Maps.has_put_same hM hk _, Maps.atKey_put_same hM hk _ _⟩
  · rw [if_neg h1]
    have e : kl b q ≠ kl b i := fun h2 => h1 ((kl_iff b i q).1 h2.symm)
    have h2 := h.tell q
    cases hch : Mt.chain b q i with
    | nil =>
      rw [hch] at h2
      show Maps.has _ _ = false
      rw [Maps.has_put_other e]; exact h2
    | cons p t =>
      rw [hch] at h2
      show _ ∧ _
      rw [Maps.has_put_other e, Maps.atKey_put_other e]; exact h2
theorem NearAt.keep {w w' : World} {B n : Nat} {D : DataW Unit} {b : List UInt8} {i : Nat} (h : NearAt w B n D b i) {R : Nat} (hb : Below R w w') (hB : B < R) : NearAt w' B n D b i := by
  obtain ⟨⟨es, clock, h1, h2⟩, h3⟩ := h
  exact ⟨⟨es, clock, (hb.block B hB).trans h1, h2⟩, h3⟩
theorem zeros_h (n : Nat) (b : List UInt8) (h : b.length = n) : (madeCells (Value.int .u16 0).cells (n * 1)).toList = nh (fars b 0) := by
  rw [fars_zero, h]
  apply List.ext_getElem
  · simp [size_madeCells]
  · intro i h1 h2
    simp [madeCells, nh, Value.cells, Nat.mod_one]
theorem fars_none (b : List UInt8) (i : Nat) (h : Mt.chain b i i = []) : fars b (i + 1) = fars b i := by
  rw [fars_step]
  have e : farv b (i + 1) i = 0 := by
    unfold farv; rw [h]; split <;> rfl
  rw [e]
  apply List.ext_getElem (by simp)
  intro x h1 h2
  rw [List.getElem_set]
  by_cases hx : i = x
  · subst hx
    rw [if_pos rfl]
    simp only [fars, List.getElem_map, List.getElem_range]
    unfold farv; rw [if_neg (by omega)]
  · rw [if_neg hx]
theorem fars_some (b : List UInt8) (i q : Nat) (t : List Nat) (h : Mt.chain b i i = q :: t) (hi : i + 3 ≤ b.length) : fars b (i + 1) = (fars b i).set i (i - q) := by
  rw [fars_step]
  unfold farv
  rw [h, if_pos ⟨by omega, hi⟩]
end Go.Proofs.Ytghphgpbgekoiaa
