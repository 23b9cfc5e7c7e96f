/-
  field.Number.
-/
import Derived.Test.YtkkelmlkpehcpaaDoorFd
namespace Go.Proofs.YtkkelmlkpehcpaaDoor
open Go.RowKit

/-- What a reading call tells: the number, the error. -/
def NumPost (r : Int × Int) (w : World) (e : Ending) (w' : World) : Prop := e = .returned (.tuple #[.int .i64 r.1, .int .i64 r.2]) ∧ w = w'
def wideR (l : List UInt8) : Int × Int := match l with
  | [] => (0, 0)
  | b :: t => match Fx.rdW (Fx.hd b) t with
    | some n => (n, 0)
    | none => (0, 3)
theorem hd_eq (b : UInt8) (hb : 128 ≤ b.toNat) : wrap64 (IntKind.i8.wrap (bi b * 2 % 256) / 2) = Fx.hd b ∧ -128 ≤ Fx.hd b ∧ Fx.hd b < 128 := by
  have h := b.toNat_lt
  unfold bi Fx.hd
  have e : IntKind.i8.wrap ((b.toNat : Int) * 2 % 256) = if b.toNat < 192 then (b.toNat : Int) * 2 - 256 else (b.toNat : Int) * 2 - 512 := by
    show (if (true && decide ((((b.toNat : Int) * 2 % 256)) % 256 ≥ 128)) = true then (((b.toNat : Int) * 2 % 256)) % 256 - 256 else (((b.toNat : Int) * 2 % 256)) % 256) = _
    simp only [Bool.true_and, decide_eq_true_eq]
    split <;> split <;> omega
  rw [e]
  refine ⟨?_, by split <;> omega, by split <;> omega⟩
  split
  · rw [IntWalk.wrap64_in _ (by omega)]; omega
  · rw [IntWalk.wrap64_in _ (by omega)]; omega
theorem wrap_no (n : Int) (h1 : -9223372036854775808 ≤ n) (h2 : n < 9223372036854775808) (h : ¬ (-36028797018963968 ≤ n ∧ n < 36028797018963968)) : wrap64 (n * 256) / 256 ≠ n := by
  intro h3
  have : -9223372036854775808 ≤ wrap64 (n * 256) ∧ wrap64 (n * 256) < 9223372036854775808 := by
    unfold wrap64; omega
  omega
def WideLoop (t : List UInt8) (n0 : Int) (n i : Value) : Prop := ∃ (k : Nat) (x : Int), k ≤ t.length ∧ i = .int .i64 k ∧ n = .int .i64 x ∧ -9223372036854775808 ≤ x ∧ x < 9223372036854775808 ∧ Fx.rdW n0 t = Fx.rdW x (t.drop k)
theorem rdW_fits (x : Int) (a : UInt8) (t : List UInt8) (h1 : -36028797018963968 ≤ x) (h2 : x < 36028797018963968) : Fx.rdW x (a :: t) = Fx.rdW (x * 256 + (a.toNat : Int)) t := by
  rw [Fx.rdW, if_pos ⟨h1, h2⟩]
theorem rdW_not (x : Int) (a : UInt8) (t : List UInt8) (h : ¬ (-36028797018963968 ≤ x ∧ x < 36028797018963968)) : Fx.rdW x (a :: t) = none := by
  rw [Fx.rdW, if_neg h]
set_option maxRecDepth 100000 in
set_option maxHeartbeats 1000000 in
theorem rdwide_walk (w : World) (p : Option Addr) (m cap : Nat) (b : UInt8) (t : List UInt8) (h : SlV w (.slice p m cap) (bl (b :: t))) (ht : t.length ≤ 19) (hb : 128 ≤ b.toNat) :
    Calls Tryd.prog 35 #[.slice p m cap] w (NumPost (wideR (b :: t)) w) := by
  obtain rfl : t.length + 1 = m := by have := h.len; simpa using this
  obtain ⟨p', c', hsl, hS⟩ := slice_fromB h 1 (by omega)
  obtain ⟨g, o, rfl, hR⟩ := h.some (by omega)
  have hcap := h.le
  have hc0 : w.cell? ⟨g, o, none⟩ = some (.int .u8 (bi b)) := hR.bl 0 (by simp)
  rw [show t.length + 1 - 1 = t.length by omega] at hsl hS
  have HS : Hid (SlV w (.slice p' t.length c') (bl t)) := Lib.hid (by rw [bl_drop] at hS; exact hS)
  obtain ⟨l, hl⟩ : ∃ l, t.length = l := ⟨_, rfl⟩
  obtain ⟨e, n1, n2⟩ := hd_eq b hb
  rw [hl] at hsl HS ht hcap ⊢
  have HL := Lib.hid hl
  have HB := Lib.hid (show wideR (b :: t) = match Fx.rdW (Fx.hd b) t with | some n => (n, 0) | none => (0, 3) from rfl)
  generalize Fx.hd b = n0 at *
  generalize wideR (b :: t) = R at *
  clear h hS hR hl hb
  have hsl1 : ∀ w', (Instr.sliceAt 22 (.slice (some ⟨g, o, none⟩) (l + 1) cap) (some (.int .i64 1)) none none).run Tryd.prog w' = .ok (.slice p' l c') w' := hsl
  clear hsl
  go_enter Tryd.func35, Tryd.ntmps35
  go_wp2_with fail
  go_loop [4, 17] (fun n i => WideLoop t n0 n i) (fun _ i => l - (intOf i).toNat)
  case atStart => exact ⟨0, n0, by omega, rfl, by first | rfl | rw [e], by omega, by omega, rfl⟩
  case round =>
    clear e n1 n2 hc0 hcap
    obtain ⟨k, x, hk, rfl, rfl, h1, h2, hr⟩ := hrel
    have HR := Lib.hid hr
    clear hr
    by_cases hlt : k < l
    · have hltI : (k : Int) < (l : Int) := by omega
      obtain ⟨g', o', rfl, hrow⟩ := HS.out.some (by omega)
      have hcl := HS.out.le
      have hck := hrow.bl k (by rw [HL.out]; exact hlt)
      have HD : Hid (t.drop k = t.getD k 0 :: t.drop (k + 1)) := Lib.hid (by
        rw [List.drop_eq_getElem_cons (by rw [HL.out]; exact hlt)]
        congr 1
        simp [HL.out, hlt])
      generalize t.getD k 0 = a at *
      have ha := bi_lt a
      clear hrow
      by_cases hf : -36028797018963968 ≤ x ∧ x < 36028797018963968
      · obtain ⟨f1, f2⟩ := hf
        have HX := Lib.hid (And.intro f1 f2)
        have hor : bits .or .i64 (x * 256) (bi a) = x * 256 + bi a := i64_or_low x 8 a.toNat a.toNat_lt (by omega) (by omega) (by omega)
        have hor2 : bits .or .i64 (wrap64 (x * 256)) (bi a) = x * 256 + bi a := by rw [IntWalk.wrap64_in _ (by omega)]; exact hor
        have hq : wrap64 (x * 256) / 256 = x := by rw [IntWalk.wrap64_in _ (by omega)]; omega
        go_wp2_with fail
        refine ⟨⟨k + 1, x * 256 + bi a, by have := HL.out; omega, by go_num, rfl, by omega, by omega, ?_⟩, by simp [intOf]; omega⟩
        rw [HR.out, HD.out]
        exact rdW_fits x a _ HX.out.1 HX.out.2
      · have hne := wrap_no x h1 h2 hf
        have HE : Hid (R = (0, 3)) := Lib.hid (by rw [HB.out, HR.out, HD.out, rdW_not x a _ hf])
        clear hf
        have t1 : (wrap64 (x * 256) / 256 == x) = false := by rw [beq_eq_false_iff_ne]; exact hne
        have t2 : (wrap64 (x * 256) / 256 != x) = true := by rw [bne_iff_ne]; exact hne
        have t3 : decide (wrap64 (x * 256) / 256 = x) = false := decide_eq_false hne
        clear hne
        go_wp2_with fail
        go_ret2
        rw [HE.out]
        exact ⟨rfl, rfl⟩
    · obtain rfl : k = l := by have := HL.out; omega
      have HE : Hid (R = (x, 0)) := Lib.hid (by
        rw [HB.out, HR.out, List.drop_eq_nil_of_le (by rw [HL.out]; exact Nat.le_refl _)]; rfl)
      clear hlt
      go_wp2_with fail
      go_ret2
      rw [HE.out]
      exact ⟨rfl, rfl⟩
end Go.Proofs.YtkkelmlkpehcpaaDoor
