/-
  Parts of slices; alike, three: the smallest walks.
-/
import Derived.Test.YtghphgpbgekoiaaMem
namespace Go.Proofs.Ytghphgpbgekoiaa
open Go.RowKit
/-- A part of a slice. -/
theorem cut22 {w : World} {p : Option Addr} {n cap : Nat} {vs : List Value} (h : SlV w (.slice p n cap) vs) (i j : Nat) (hij : i ≤ j) (hj : j ≤ n) :
    ∃ p', (∀ w', (Instr.sliceAt 22 (.slice p n cap) (some (.int .i64 (i : Int))) (some (.int .i64 (j : Int))) none).run Try.prog w' = .ok (.slice p' (j - i) (cap - i)) w') ∧ SlV w (.slice p' (j - i) (cap - i)) ((vs.drop i).take (j - i)) := by
  rcases h with ⟨g, o, cap', h, h2, hB⟩ | ⟨p', h, rfl⟩
  · cases h
    have hl : ((vs.drop i).take (j - i)).length = j - i := by simp; omega
    have h1 : (0 : Int) ≤ (i : Int) := by omega
    have h3 : (i : Int) ≤ (j : Int) := by omega
    have h4 : (j : Int) ≤ (cap : Int) := by omega
    by_cases hck : cap = i
    · have hji : j = i := by omega
      subst hck
      subst hji
      refine ⟨some ⟨g, o, none⟩, fun w' => ?_, .inr ⟨some ⟨g, o, none⟩, by simp, by simp⟩⟩
      go_simp
    · refine ⟨some ⟨g, o + i, none⟩, fun w' => ?_, .inl ⟨g, o + i, cap - i, by rw [hl], by rw [hl]; omega, (hB.drop i).take _⟩⟩
      go_simp
  · have h0 : n = 0 ∧ cap = 0 ∧ p' = p := by cases h; exact ⟨rfl, rfl, rfl⟩
    obtain ⟨rfl, rfl, rfl⟩ := h0
    obtain rfl : j = 0 := by omega
    obtain rfl : i = 0 := by omega
    refine ⟨p', fun w' => ?_, .inr ⟨p', rfl, by simp⟩⟩
    show (Instr.sliceAt 22 (.slice p' 0 0) (some (.int .i64 0)) (some (.int .i64 0)) none).run Try.prog w' = .ok (.slice p' 0 0) w'
    cases p' with
    | none => kernel_rfl
    | some a => kernel_rfl
theorem from22 {w : World} {p : Option Addr} {n cap : Nat} {vs : List Value} (h : SlV w (.slice p n cap) vs) (i : Nat) (hj : i ≤ n) :
    ∃ p', (∀ w', (Instr.sliceAt 22 (.slice p n cap) (some (.int .i64 (i : Int))) none none).run Try.prog w' = .ok (.slice p' (n - i) (cap - i)) w') ∧ SlV w (.slice p' (n - i) (cap - i)) (vs.drop i) := by
  rcases h with ⟨g, o, cap', h, h2, hB⟩ | ⟨p', h, rfl⟩
  · cases h
    have hl : (vs.drop i).length = vs.length - i := by simp
    have h1 : (0 : Int) ≤ (i : Int) := by omega
    have h3 : (i : Int) ≤ (vs.length : Int) := by omega
    have h4 : (vs.length : Int) ≤ (cap : Int) := by omega
    by_cases hck : cap = i
    · have hji : vs.length = i := by omega
      have hz : vs.length - i = 0 := by omega
      have hd : vs.drop i = [] := List.drop_eq_nil_of_le (by omega)
      have hc : cap - i = 0 := by omega
      rw [hz, hd, hc]
      refine ⟨some ⟨g, o, none⟩, fun w' => ?_, .inr ⟨some ⟨g, o, none⟩, rfl, rfl⟩⟩
      subst hck
      rw [hji]
      go_simp
    · refine ⟨some ⟨g, o + i, none⟩, fun w' => ?_, .inl ⟨g, o + i, cap - i, by rw [hl], by rw [hl]; omega, hB.drop i⟩⟩
      go_simp
  · have h0 : n = 0 ∧ cap = 0 ∧ p' = p := by cases h; exact ⟨rfl, rfl, rfl⟩
    obtain ⟨rfl, rfl, rfl⟩ := h0
    obtain rfl : i = 0 := by omega
    refine ⟨p', fun w' => ?_, .inr ⟨p', rfl, by simp⟩⟩
    show (Instr.sliceAt 22 (.slice p' 0 0) (some (.int .i64 0)) none none).run Try.prog w' = .ok (.slice p' 0 0) w'
    cases p' with
    | none => kernel_rfl
    | some a => kernel_rfl
theorem to22 {w : World} {p : Option Addr} {n cap : Nat} {vs : List Value} (h : SlV w (.slice p n cap) vs) (k : Nat) (hk : k ≤ n) : ∀ w', (Instr.sliceAt 22 (.slice p n cap) none (some (.int .i64 (k : Int))) none).run Try.prog w' = .ok (.slice p k cap) w' := by
  intro w'
  have hc := h.le
  rcases h with ⟨g, o, cap', h, _, _⟩ | ⟨p', h, _⟩
  · have hp : p = some ⟨g, o, none⟩ := by cases h; rfl
    subst hp
    clear h
    have h1 : (0 : Int) ≤ (k : Int) := by omega
    have h2 : (k : Int) ≤ (cap : Int) := by omega
    go_simp
  · have hc : cap = 0 ∧ p = p' ∧ n = 0 := by cases h; exact ⟨rfl, rfl, rfl⟩
    obtain ⟨rfl, rfl, rfl⟩ := hc
    obtain rfl : k = 0 := by omega
    show (Instr.sliceAt 22 (.slice p 0 0) none (some (.int .i64 0)) none).run Try.prog w' = .ok (.slice p 0 0) w'
    cases p with
    | none => kernel_rfl
    | some a => kernel_rfl
/-- A part of a slice. -/
theorem cut57 {w : World} {p : Option Addr} {n cap : Nat} {vs : List Value} (h : SlV w (.slice p n cap) vs) (i j : Nat) (hij : i ≤ j) (hj : j ≤ n) :
    ∃ p', (∀ w', (Instr.sliceAt 57 (.slice p n cap) (some (.int .i64 (i : Int))) (some (.int .i64 (j : Int))) none).run Try.prog w' = .ok (.slice p' (j - i) (cap - i)) w') ∧ SlV w (.slice p' (j - i) (cap - i)) ((vs.drop i).take (j - i)) := by
  rcases h with ⟨g, o, cap', h, h2, hB⟩ | ⟨p', h, rfl⟩
  · cases h
    have hl : ((vs.drop i).take (j - i)).length = j - i := by simp; omega
    have h1 : (0 : Int) ≤ (i : Int) := by omega
    have h3 : (i : Int) ≤ (j : Int) := by omega
    have h4 : (j : Int) ≤ (cap : Int) := by omega
    by_cases hck : cap = i
    · have hji : j = i := by omega
      subst hck
      subst hji
      refine ⟨some ⟨g, o, none⟩, fun w' => ?_, .inr ⟨some ⟨g, o, none⟩, by simp, by simp⟩⟩
      go_simp
    · refine ⟨some ⟨g, o + i, none⟩, fun w' => ?_, .inl ⟨g, o + i, cap - i, by rw [hl], by rw [hl]; omega, (hB.drop i).take _⟩⟩
      go_simp
  · have h0 : n = 0 ∧ cap = 0 ∧ p' = p := by cases h; exact ⟨rfl, rfl, rfl⟩
    obtain ⟨rfl, rfl, rfl⟩ := h0
    obtain rfl : j = 0 := by omega
    obtain rfl : i = 0 := by omega
    refine ⟨p', fun w' => ?_, .inr ⟨p', rfl, by simp⟩⟩
    show (Instr.sliceAt 57 (.slice p' 0 0) (some (.int .i64 0)) (some (.int .i64 0)) none).run Try.prog w' = .ok (.slice p' 0 0) w'
    cases p' with
    | none => kernel_rfl
    | some a => kernel_rfl
theorem from57 {w : World} {p : Option Addr} {n cap : Nat} {vs : List Value} (h : SlV w (.slice p n cap) vs) (i : Nat) (hj : i ≤ n) :
    ∃ p', (∀ w', (Instr.sliceAt 57 (.slice p n cap) (some (.int .i64 (i : Int))) none none).run Try.prog w' = .ok (.slice p' (n - i) (cap - i)) w') ∧ SlV w (.slice p' (n - i) (cap - i)) (vs.drop i) := by
  rcases h with ⟨g, o, cap', h, h2, hB⟩ | ⟨p', h, rfl⟩
  · cases h
    have hl : (vs.drop i).length = vs.length - i := by simp
    have h1 : (0 : Int) ≤ (i : Int) := by omega
    have h3 : (i : Int) ≤ (vs.length : Int) := by omega
    have h4 : (vs.length : Int) ≤ (cap : Int) := by omega
    by_cases hck : cap = i
    · have hji : vs.length = i := by omega
      have hz : vs.length - i = 0 := by omega
      have hd : vs.drop i = [] := List.drop_eq_nil_of_le (by omega)
      have hc : cap - i = 0 := by omega
      rw [hz, hd, hc]
      refine ⟨some ⟨g, o, none⟩, fun w' => ?_, .inr ⟨some ⟨g, o, none⟩, rfl, rfl⟩⟩
      subst hck
      rw [hji]
      go_simp
    · refine ⟨some ⟨g, o + i, none⟩, fun w' => ?_, .inl ⟨g, o + i, cap - i, by rw [hl], by rw [hl]; omega, hB.drop i⟩⟩
      go_simp
  · have h0 : n = 0 ∧ cap = 0 ∧ p' = p := by cases h; exact ⟨rfl, rfl, rfl⟩
    obtain ⟨rfl, rfl, rfl⟩ := h0
    obtain rfl : i = 0 := by omega
    refine ⟨p', fun w' => ?_, .inr ⟨p', rfl, by simp⟩⟩
    show (Instr.sliceAt 57 (.slice p' 0 0) (some (.int .i64 0)) none none).run Try.prog w' = .ok (.slice p' 0 0) w'
    cases p' with
    | none => kernel_rfl
    | some a => kernel_rfl
theorem to57 {w : World} {p : Option Addr} {n cap : Nat} {vs : List Value} (h : SlV w (.slice p n cap) vs) (k : Nat) (hk : k ≤ n) : ∀ w', (Instr.sliceAt 57 (.slice p n cap) none (some (.int .i64 (k : Int))) none).run Try.prog w' = .ok (.slice p k cap) w' := by
  intro w'
  have hc := h.le
  rcases h with ⟨g, o, cap', h, _, _⟩ | ⟨p', h, _⟩
  · have hp : p = some ⟨g, o, none⟩ := by cases h; rfl
    subst hp
    clear h
    have h1 : (0 : Int) ≤ (k : Int) := by omega
    have h2 : (k : Int) ≤ (cap : Int) := by omega
    go_simp
  · have hc : cap = 0 ∧ p = p' ∧ n = 0 := by cases h; exact ⟨rfl, rfl, rfl⟩
    obtain ⟨rfl, rfl, rfl⟩ := hc
    obtain rfl : k = 0 := by omega
    show (Instr.sliceAt 57 (.slice p 0 0) none (some (.int .i64 0)) none).run Try.prog w' = .ok (.slice p 0 0) w'
    cases p with
    | none => kernel_rfl
    | some a => kernel_rfl
/-- How many bytes two rows begin with that are the same. -/
def cpre : List UInt8 → List UInt8 → Nat
  | a :: s, b :: t => if a = b then cpre s t + 1 else 0
  | _, _ => 0
theorem cpre_is : ∀ (A B : List UInt8) (n : Nat), n ≤ A.length → n ≤ B.length → (∀ i, i < n → Mt.byt A i = Mt.byt B i) → (n < A.length → n < B.length → Mt.byt A n ≠ Mt.byt B n) → cpre A B = n
  | [], B, n, h, _, _, _ => by
    obtain rfl : n = 0 := by simpa using h
    cases B <;> rfl
  | a :: s, [], n, _, h, _, _ => by
    obtain rfl : n = 0 := by simpa using h
    rfl
  | a :: s, b :: t, 0, _, _, _, hne => by
    have : a ≠ b := hne (by simp) (by simp)
    unfold cpre; rw [if_neg this]
  | a :: s, b :: t, n + 1, h1, h2, he, hne => by
    have e : a = b := he 0 (by omega)
    unfold cpre
    rw [if_pos e, cpre_is s t n (by simpa using h1) (by simpa using h2) (fun i hi => by simpa [Mt.byt] using he (i + 1) (by omega)) (fun h h' => by
      have := hne (by simpa using h) (by simpa using h')
      simpa [Mt.byt] using this)]
theorem cpre_run (b : List UInt8) (p k m : Nat) (hp : p ≤ k) (hk : k + m ≤ b.length) : cpre (b.drop p) ((b.drop k).take m) = Mt.run b p k m := by
  have hle := Mt.run_le b m p k
  have e1 : ∀ i, Mt.byt (b.drop p) i = Mt.byt b (p + i) := fun i => by simp [Mt.byt]
  have e2 : ∀ i, i < m → Mt.byt ((b.drop k).take m) i = Mt.byt b (k + i) := fun i hi => by
    rw [Mt.byt_take _ _ _ hi]; simp [Mt.byt]
  refine cpre_is _ _ _ (by simp; omega) (by simp; omega) (fun i hi => ?_) (fun _ h => ?_)
  · rw [e1, e2 i (by omega)]; exact Mt.run_eq b m p k i hi
  · have h : Mt.run b p k m < m := by simp at h; omega
    rw [e1, e2 _ h]; exact Mt.run_ne b m p k h
abbrev QPost (v : Value) (w : World) (e : Ending) (w' : World) : Prop := e = .returned v ∧ ∃ n, w' = w.drewN n
set_option maxRecDepth 100000 in
set_option maxHeartbeats 1000000 in
theorem alike_walk (w : World) (u v : Value) (A B : List UInt8) (hu : SlV w u (bl A)) (hv : SlV w v (bl B)) (hl : B.length ≤ A.length) (hb : B.length ≤ 1099511627776) :
    Calls Try.prog 33 #[u, v] w (QPost (.int .i64 (cpre A B : Nat)) w) := by
  obtain ⟨p, cap, rfl⟩ := hu.shape
  obtain ⟨q, dap, rfl⟩ := hv.shape
  rw [bl_length] at hu hv ⊢
  rw [bl_length]
  obtain ⟨m, hm⟩ : ∃ m, m = B.length := ⟨_, rfl⟩
  obtain ⟨k, hk⟩ : ∃ k, k = A.length := ⟨_, rfl⟩
  rw [← hm] at hv hb ⊢
  rw [← hk] at hu ⊢
  rw [← hm, ← hk] at hl
  have HM := Lib.hid (And.intro hm hk)
  have HU := Lib.hid hu
  have HV := Lib.hid hv
  clear hu hv hm hk
  go_enter Try.func33, Try.ntmps33
  go_wp2_with fail
  go_loopw [8] (fun v8 wr => ∃ i : Nat, i ≤ m ∧ v8 = .int .i64 i ∧ (∀ x, x < i → Mt.byt A x = Mt.byt B x) ∧ ∃ n, wr = w.drewN n) (fun v8 _ => m - (intOf v8).toNat)
  case atStart => exact ⟨0, Nat.zero_le _, rfl, fun x hx => by omega, 0, rfl⟩
  case round =>
    obtain ⟨i, hi, rfl, he, nn, rfl⟩ := hrel
    have HE := Lib.hid he
    clear he
    by_cases hlt : i < m
    · have hlti : (i : Int) < (m : Int) := by omega
      have hltk : (i : Int) < (k : Int) := by omega
      obtain ⟨g, o, rfl, hrow⟩ := HU.out.some (by omega)
      obtain ⟨g2, o2, rfl, hrow2⟩ := HV.out.some (by omega)
      have hcap := HU.out.le
      have hcap2 := HV.out.le
      have hc1 := hrow.bl i (by rw [← HM.out.2]; omega)
      have hc2 := hrow2.bl i (by rw [← HM.out.1]; omega)
      have HB1 := Lib.hid (bi_inj (a := Mt.byt A i) (b := Mt.byt B i))
      clear hrow hrow2
      generalize hx : Mt.byt A i = x at *
      generalize hy : Mt.byt B i = y at *
      have HX := Lib.hid (And.intro hx hy)
      clear hx hy
      by_cases hxy : bi x = bi y
      · have hbe : (bi x == bi y) = true := beq_iff_eq.2 hxy
        go_wp2_with fail
        go_quiet (fail)
        go_wp2_with fail
        refine ⟨⟨i + 1, hlt, ?_, fun z hz => ?_, _, rfl⟩, ?_⟩
        · go_num
        · rcases Nat.lt_or_ge z i with h | h
          · exact HE.out z h
          · obtain rfl : z = i := by omega
            rw [HX.out.1, HX.out.2]; exact HB1.out.1 hxy
        · simp only [intOf]; omega
      · have hbe : (bi x == bi y) = false := beq_eq_false_iff_ne.2 hxy
        have HF : Hid (cpre A B = i) := Lib.hid (cpre_is A B i (by rw [← HM.out.2]; omega) (by rw [← HM.out.1]; omega) HE.out (fun _ _ => by rw [HX.out.1, HX.out.2]; exact fun h => hxy (HB1.out.2 h)))
        go_wp2_with fail
        go_quiet (fail)
        go_wp2_with fail
        go_ret
        exact ⟨by rw [HF.out]; rfl, nn + nq, by simp⟩
    · have hlti : (m : Int) ≤ (i : Int) := by omega
      obtain rfl : i = m := by omega
      have HF : Hid (cpre A B = i) := Lib.hid (cpre_is A B i (by rw [← HM.out.2]; omega) (by rw [← HM.out.1]; omega) HE.out (fun _ h => by rw [← HM.out.1] at h; omega))
      go_wp2_with fail
      go_ret
      exact ⟨by rw [HF.out]; rfl, _, rfl⟩
end Go.Proofs.Ytghphgpbgekoiaa
