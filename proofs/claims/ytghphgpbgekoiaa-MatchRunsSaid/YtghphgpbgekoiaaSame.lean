/-
  The law's same: steps of the program against steps of the document.
-/
import Derived.Test.YtghphgpbgekoiaaWakes
namespace Go.Proofs.Ytghphgpbgekoiaa
open Go.RowKit Go.Maps
theorem part_int (w : World) (t : TypeId) (k : IntKind) (ht : Try.prog.underlying t = some (.int k)) (xs : Array Value) (i : Nat) (v : Value) (h : xs[i]? = some v) : (part t xs i).run Try.prog w = .ok v w := by
  simp [part, isAgg, run_underlying ht, h]
theorem equal_step (w : World) (t : TypeId) (hu : Try.prog.underlying t = Try.prog.underlying 35) (hh : Try.prog.stoodInHeld t = false) (x y z x' y' z' : Int) : (Op.equalIn 10000 t (.agg #[.int .i64 x, .int .i64 y, .int .u8 z]) (.agg #[.int .i64 x', .int .i64 y', .int .u8 z'])).run Try.prog w = .ok (x == x' && (y == y' && z == z')) w := by
  rw [Try.underlying35] at hu
  rw [run_equalIn_agg w 9999 t _ _ (by simp only [Program.fieldsOf, hu]) hh]
  have p0 : ∀ (a b c : Int), (part 3 #[.int .i64 a, .int .i64 b, .int .u8 c] 0).run Try.prog w = .ok (.int .i64 a) w := fun a b c => part_int w 3 .i64 Try.underlying3 _ _ _ rfl
  have p1 : ∀ (a b c : Int), (part 3 #[.int .i64 a, .int .i64 b, .int .u8 c] 1).run Try.prog w = .ok (.int .i64 b) w := fun a b c => part_int w 3 .i64 Try.underlying3 _ _ _ rfl
  have p2 : ∀ (a b c : Int), (part 5 #[.int .i64 a, .int .i64 b, .int .u8 c] 2).run Try.prog w = .ok (.int .u8 c) w := fun a b c => part_int w 5 .u8 Try.underlying5 _ _ _ rfl
  simp only [Program.fieldsOf, hu, Op.eqFields, Sem.run_bind, p0, p1, p2, Result.andThen_ok, Sem.run_ite, run_equalIn_int w 9998 3 .i64 .i64 _ _ Try.underlying3, run_equalIn_int w 9998 5 .u8 .u8 _ _ Try.underlying5]
  by_cases h1 : x = x' <;> by_cases h2 : y = y' <;> by_cases h3 : z = z' <;> simp [h1, h2, h3]
theorem neq35 (w : World) (x y z x' y' z' : Int) : (binOp .neq 35 (.agg #[.int .i64 x, .int .i64 y, .int .u8 z]) (.agg #[.int .i64 x', .int .i64 y', .int .u8 z'])).run Try.prog w = .ok (.bool (!(x == x' && (y == y' && z == z')))) w := by
  rw [run_neq_struct, equal_step w 35 rfl (by kernel_rfl)]; rfl
theorem eql35 (w : World) (x y z x' y' z' : Int) : (binOp .eql 35 (.agg #[.int .i64 x, .int .i64 y, .int .u8 z]) (.agg #[.int .i64 x', .int .i64 y', .int .u8 z'])).run Try.prog w = .ok (.bool (x == x' && (y == y' && z == z'))) w := by
  rw [run_eql_struct, equal_step w 35 rfl (by kernel_rfl)]; rfl
set_option maxRecDepth 100000 in
set_option maxHeartbeats 1000000 in
theorem same_walk (w : World) (v u : Value) (ss : List Mt.St) (hv : SlS w v ss) (hu : SlS w u ss) (hl : ss.length ≤ 32768) :
    Calls Try.prog 12 #[v, u] w fun e w' => e = .returned (.bool true) ∧ Below w.heap.size w w' := by
  obtain ⟨p, cap, rfl⟩ := SlK.shape hv
  obtain ⟨q, caq, rfl⟩ := SlK.shape hu
  obtain ⟨n, hn⟩ : ∃ n, n = ss.length := ⟨_, rfl⟩
  rw [← hn] at hl ⊢
  have HV := Lib.hid hv
  have HU := Lib.hid hu
  have HN := Lib.hid hn
  rw [← hn] at HV HU
  clear hv hu hn
  go_enter Try.func12, Try.ntmps12
  go_wp2_with fail
  go_loopw [13] (fun v13 wr => ∃ i : Nat, i ≤ n ∧ v13 = .int .i64 (i : Int) ∧ ∃ j, wr = w.drewN j) (fun v13 _ => n - (intOf v13).toNat)
  case atStart => exact ⟨0, Nat.zero_le _, rfl, 0, rfl⟩
  case round =>
    obtain ⟨i, hi, rfl, j, rfl⟩ := hrel
    by_cases hin : i < n
    · have hini : (i : Int) < (n : Int) := by omega
      obtain ⟨s, hs⟩ : ∃ s, ss[i]? = some s := ⟨_, List.getElem?_eq_getElem (by rw [← HN.out]; exact hin)⟩
      obtain ⟨g, o, rfl, hc, hat⟩ := HV.out.at (by omega)
      obtain ⟨g2, o2, rfl, hc2, hat2⟩ := HU.out.at (by omega)
      obtain ⟨x, y, z⟩ := s
      obtain ⟨c0, c1, c2⟩ := hat i _ hs
      obtain ⟨d0, d1, d2⟩ := hat2 i _ hs
      clear hat hat2
      simp only at c0 c1 c2 d0 d1 d2
      have hne : ∀ w, (binOp .neq 35 (.agg #[.int .i64 (x : Int), .int .i64 (y : Int), .int .u8 (bi z)]) (.agg #[.int .i64 (x : Int), .int .i64 (y : Int), .int .u8 (bi z)])).run Try.prog w = .ok (.bool false) w := fun w => by rw [neq35]; simp
      go_wp2_with fail
      go_quiet (fail)
      go_wp2_with fail
      exact ⟨⟨i + 1, hin, by go_num, _, rfl⟩, by simp only [intOf]; omega⟩
    · have hini : (n : Int) ≤ (i : Int) := by omega
      obtain rfl : i = n := by omega
      go_wp2_with fail
      go_ret
      exact ⟨rfl, below_drewN (Below.refl _ _) _⟩
end Go.Proofs.Ytghphgpbgekoiaa
