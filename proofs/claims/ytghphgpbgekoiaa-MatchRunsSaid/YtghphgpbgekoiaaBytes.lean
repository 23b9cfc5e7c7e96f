/-
  Strings of bytes; bytes.Equal, bytes.Clone; the rolling hash of three bytes.
-/
import Derived.Test.YtghphgpbgekoiaaWakes
import Derived.Lib.RabinKarpLaws
namespace Go.Proofs.Ytghphgpbgekoiaa
open Go.RowKit
theorem run_toString {w : World} {v : Value} {l : List UInt8} (h : SlV w v (bl l)) : (convert 22 9 v).run Try.prog w = .ok (.string ⟨l.toArray⟩) w := by
  rcases h with ⟨g, o, cap, rfl, h2, h3⟩ | ⟨p, rfl, h0⟩
  · have hl := run_loadCells_list (P := Try.prog) w ⟨g, o, none⟩ (bl l) h3.src
    have e : bl l = (l.map bi).map (Value.int .u8) := by simp [bl]
    rw [show (bl l).length = l.length by simp [bl], e] at hl
    rw [bl_length]
    rw [run_convert_bytes_string w 22 9 5 _ _ _ Try.underlying22 Try.underlying5 Try.underlying9, run_bytesToString w _ _ _ _ hl]
    congr 2
    have key : ∀ (l : List UInt8) (s : ByteArray), (l.map bi).foldl (fun r n => r.push (UInt8.ofNat n.toNat)) s = ⟨(s.data.toList ++ l).toArray⟩ := by
      intro l
      induction l with
      | nil => intro s; simp
      | cons x t ih =>
        intro s
        simp only [List.map_cons, List.foldl_cons]
        rw [ih]
        congr 1
        have : UInt8.ofNat (bi x).toNat = x := by simp [bi]
        rw [this]
        simp [ByteArray.push]
    rw [key]
    simp
  · obtain rfl : l = [] := by simpa [bl] using h0
    cases p with
    | none => kernel_rfl
    | some a => kernel_rfl
set_option maxHeartbeats 400000 in
theorem equal_walk (w : World) (v u : Value) (a b : List UInt8) (h : SlV w v (bl a)) (k : SlV w u (bl b)) :
    Calls Try.prog 13 #[v, u] w fun e w' => e = .returned (.bool (a == b)) ∧ w' = w := by
  have c1 := run_toString h
  have c2 := run_toString k
  go_enter Try.func13, Try.ntmps13
  go_wp2_with fail
  go_ret
  exact ⟨rfl, rfl⟩
def stp (h x : Int) : Int := IntKind.u32.wrap (IntKind.u32.wrap (h * 16777619) + x)
def hash3 (y b a : Int) : Int := stp (stp (stp 0 y) b) a
theorem stp_eq (h x : Int) : stp h x = (h * 16777619 + x) % 4294967296 := by unfold stp; simp only [IntKind.wrap_u32]; omega
theorem hash3_eq (y b a : Int) : hash3 y b a = (y * (16777619 * 16777619) + b * 16777619 + a) % 4294967296 := by
  unfold hash3
  rw [stp_eq, stp_eq, stp_eq]
  omega
theorem roll (y b a x : Int) : IntKind.u32.wrap (stp (hash3 y b a) x - IntKind.u32.wrap (1055306571 * y)) = hash3 b a x := by
  rw [hash3_eq, hash3_eq, stp_eq]
  simp only [IntKind.wrap_u32]
  omega
set_option maxRecDepth 100000 in
set_option maxHeartbeats 1000000 in
theorem hashrev_walk (w : World) (v : Value) (x0 x1 x2 : UInt8) (hv : SlV w v (bl [x0, x1, x2])) :
    Calls Try.prog 39 #[v] w fun e w' => e = .returned (.tuple #[.int .u32 (hash3 (bi x2) (bi x1) (bi x0)), .int .u32 1055306571]) ∧ w' = w := by
  obtain ⟨p, cap, rfl⟩ := hv.shape
  rw [bl_length] at hv ⊢
  obtain ⟨g, o, rfl, hrow⟩ := hv.some (by simp)
  have hcap := hv.le
  have hc0 : w.cell? ⟨g, o + 0, none⟩ = some (.int .u8 (bi x0)) := hrow 0 _ rfl
  rw [Nat.add_zero] at hc0
  have hc1 : w.cell? ⟨g, o + 1, none⟩ = some (.int .u8 (bi x1)) := hrow 1 _ rfl
  have hc2 : w.cell? ⟨g, o + 2, none⟩ = some (.int .u8 (bi x2)) := hrow 2 _ rfl
  simp only [List.length_cons, List.length_nil] at hcap ⊢
  clear hrow hv
  go_enter Try.func39, Try.ntmps39
  go_wp2_with fail
  refine wp_loop_rounds 4 ?_
  rw [rounds_succ]
  go_wp2_with fail
  rw [rounds_succ]
  go_wp2_with fail
  rw [rounds_succ]
  go_wp2_with fail
  rw [rounds_succ]
  go_wp2_with fail
  refine wp_loop_rounds 3 ?_
  rw [rounds_succ]
  go_wp2_with fail
  rw [rounds_succ]
  go_wp2_with fail
  rw [rounds_succ]
  go_wp2_with fail
  go_ret2
  refine ⟨?_, rfl⟩
  have e : ∀ a b : Int, a = b → Ending.returned (.tuple #[.int .u32 a, .int .u32 1055306571]) = .returned (.tuple #[.int .u32 b, .int .u32 1055306571]) := fun a b h => by rw [h]
  refine e _ _ ?_
  rw [hash3_eq]
  omega
end Go.Proofs.Ytghphgpbgekoiaa
