/-
  Merged, in the order in which they build: MemM Alike Three.
-/
import Derived.Test.YtphdcgioeokfbaaDoorMg28
import Derived.Test.YtphdcgioeokfbaaDoorMg29
/-
  What match asks of memory.
-/
namespace Go.Proofs.YtphdcgioeokfbaaDoor
open Go.RowKit
theorem RowAt.blm {w : World} {g o : Nat} {l : List UInt8} (h : RowAt w g o (YtphdcgioeokfbaaDoor.bl l)) (i : Nat) (hi : i < l.length) : w.cell? ⟨g, o + i, none⟩ = some (.int .u8 (bi (Mt.byt l i))) := by
  refine h i _ ?_
  simp [YtphdcgioeokfbaaDoor.bl, Mt.byt, hi]
theorem bi_eq (a b : UInt8) : (bi a == bi b) = decide (a = b) := by
  by_cases h : a = b
  · rw [h, decide_eq_true rfl]; simp
  · rw [decide_eq_false h, beq_eq_false_iff_ne]; exact fun e => h (bi_inj.1 e)
theorem info63 : (Tryd.prog.info? 63).map (fun i => (i.zero, i.size, i.bytes)) = some (some (.agg #[.int .i64 0, .int .i64 0, .int .u8 0]), 3, 24) := by kernel_rfl
theorem info71 : (Tryd.prog.info? 71).map (fun i => (i.zero, i.size, i.bytes)) = some (some (.int .u16 0), 1, 2) := by kernel_rfl
end Go.Proofs.YtphdcgioeokfbaaDoor
/-
  Parts of slices; alike, three: the smallest walks.
-/
namespace Go.Proofs.YtphdcgioeokfbaaDoor
open Go.RowKit
/-- A part of a slice. -/
theorem cut22 {w : World} {p : Option Addr} {n cap : Nat} {vs : List Value} (h : SlV w (.slice p n cap) vs) (i j : Nat) (hij : i ≤ j) (hj : j ≤ n) :
    ∃ p', (∀ w', (Instr.sliceAt 34 (.slice p n cap) (some (.int .i64 (i : Int))) (some (.int .i64 (j : Int))) none).run Tryd.prog w' = .ok (.slice p' (j - i) (cap - i)) w') ∧ SlV w (.slice p' (j - i) (cap - i)) ((vs.drop i).take (j - i)) := by
  rcases h with ⟨g, o, cap', h, h2, hB⟩ | ⟨p', h, rfl⟩
  · cases h
    have hl : ((vs.drop i).take (j - i)).length = j - i := by simp; omega
    have h1 : (0 : Int) ≤ (i : Int) := by omega
    have h3 : (i : Int) ≤ (j : Int) := by omega
    have h4 : (j : Int) ≤ (cap : Int) := by omega
    by_cases hck : cap = i
    · have hji : j = i := by omega
      subst hck
      subst hji
      refine ⟨some ⟨g, o, none⟩, fun w' => ?_, .inr ⟨some ⟨g, o, none⟩, by simp, by simp⟩⟩
      go_simp
    · refine ⟨some ⟨g, o + i, none⟩, fun w' => ?_, .inl ⟨g, o + i, cap - i, by rw [hl], by rw [hl]; omega, (hB.drop i).take _⟩⟩
      go_simp
  · have h0 : n = 0 ∧ cap = 0 ∧ p' = p := by cases h; exact ⟨rfl, rfl, rfl⟩
    obtain ⟨rfl, rfl, rfl⟩ := h0
    obtain rfl : j = 0 := by omega
    obtain rfl : i = 0 := by omega
    refine ⟨p', fun w' => ?_, .inr ⟨p', rfl, by simp⟩⟩
    show (Instr.sliceAt 34 (.slice p' 0 0) (some (.int .i64 0)) (some (.int .i64 0)) none).run Tryd.prog w' = .ok (.slice p' 0 0) w'
    cases p' with
    | none => kernel_rfl
    | some a => kernel_rfl
theorem from22 {w : World} {p : Option Addr} {n cap : Nat} {vs : List Value} (h : SlV w (.slice p n cap) vs) (i : Nat) (hj : i ≤ n) :
    ∃ p', (∀ w', (Instr.sliceAt 34 (.slice p n cap) (some (.int .i64 (i : Int))) none none).run Tryd.prog w' = .ok (.slice p' (n - i) (cap - i)) w') ∧ SlV w (.slice p' (n - i) (cap - i)) (vs.drop i) := by
  rcases h with ⟨g, o, cap', h, h2, hB⟩ | ⟨p', h, rfl⟩
  · cases h
    have hl : (vs.drop i).length = vs.length - i := by simp
    have h1 : (0 : Int) ≤ (i : Int) := by omega
    have h3 : (i : Int) ≤ (vs.length : Int) := by omega
    have h4 : (vs.length : Int) ≤ (cap : Int) := by omega
    by_cases hck : cap = i
    · have hji : vs.length = i := by omega
      have hz : vs.length - i = 0 := by omega
      have hd : vs.drop i = [] := List.drop_eq_nil_of_le (by omega)
      have hc : cap - i = 0 := by omega
      rw [hz, hd, hc]
      refine ⟨some ⟨g, o, none⟩, fun w' => ?_, .inr ⟨some ⟨g, o, none⟩, rfl, rfl⟩⟩
      subst hck
      rw [hji]
      go_simp
    · refine ⟨some ⟨g, o + i, none⟩, fun w' => ?_, .inl ⟨g, o + i, cap - i, by rw [hl], by rw [hl]; omega, hB.drop i⟩⟩
      go_simp
  · have h0 : n = 0 ∧ cap = 0 ∧ p' = p := by cases h; exact ⟨rfl, rfl, rfl⟩
    obtain ⟨rfl, rfl, rfl⟩ := h0
    obtain rfl : i = 0 := by omega
    refine ⟨p', fun w' => ?_, .inr ⟨p', rfl, by simp⟩⟩
    show (Instr.sliceAt 34 (.slice p' 0 0) (some (.int .i64 0)) none none).run Tryd.prog w' = .ok (.slice p' 0 0) w'
    cases p' with
    | none => kernel_rfl
    | some a => kernel_rfl
theorem to22 {w : World} {p : Option Addr} {n cap : Nat} {vs : List Value} (h : SlV w (.slice p n cap) vs) (k : Nat) (hk : k ≤ n) : ∀ w', (Instr.sliceAt 34 (.slice p n cap) none (some (.int .i64 (k : Int))) none).run Tryd.prog w' = .ok (.slice p k cap) w' := by
  intro w'
  have hc := h.le
  rcases h with ⟨g, o, cap', h, _, _⟩ | ⟨p', h, _⟩
  · have hp : p = some ⟨g, o, none⟩ := by cases h; rfl
    subst hp
    clear h
    have h1 : (0 : Int) ≤ (k : Int) := by omega
    have h2 : (k : Int) ≤ (cap : Int) := by omega
    go_simp
  · have hc : cap = 0 ∧ p = p' ∧ n = 0 := by cases h; exact ⟨rfl, rfl, rfl⟩
    obtain ⟨rfl, rfl, rfl⟩ := hc
    obtain rfl : k = 0 := by omega
    show (Instr.sliceAt 34 (.slice p 0 0) none (some (.int .i64 0)) none).run Tryd.prog w' = .ok (.slice p 0 0) w'
    cases p with
    | none => kernel_rfl
    | some a => kernel_rfl
/-- How many bytes two rows begin with that are the same. -/
def cpre : List UInt8 → List UInt8 → Nat
  | a :: s, b :: t => if a = b then cpre s t + 1 else 0
  | _, _ => 0
theorem cpre_is : ∀ (A B : List UInt8) (n : Nat), n ≤ A.length → n ≤ B.length → (∀ i, i < n → Mt.byt A i = Mt.byt B i) → (n < A.length → n < B.length → Mt.byt A n ≠ Mt.byt B n) → cpre A B = n
  | [], B, n, h, _, _, _ => by
    obtain rfl : n = 0 := by simpa using h
    cases B <;> rfl
  | a :: s, [], n, _, h, _, _ => by
    obtain rfl : n = 0 := by simpa using h
    rfl
  | a :: s, b :: t, 0, _, _, _, hne => by
    have : a ≠ b := hne (by simp) (by simp)
    unfold cpre; rw [if_neg this]
  | a :: s, b :: t, n + 1, h1, h2, he, hne => by
    have e : a = b := he 0 (by omega)
    unfold cpre
    rw [if_pos e, cpre_is s t n (by simpa using h1) (by simpa using h2) (fun i hi => by simpa [Mt.byt] using he (i + 1) (by omega)) (fun h h' => by
      have := hne (by simpa using h) (by simpa using h')
      simpa [Mt.byt] using this)]
theorem cpre_run (b : List UInt8) (p k m : Nat) (hp : p ≤ k) (hk : k + m ≤ b.length) : cpre (b.drop p) ((b.drop k).take m) = Mt.run b p k m := by
  have hle := Mt.run_le b m p k
  have e1 : ∀ i, Mt.byt (b.drop p) i = Mt.byt b (p + i) := fun i => by simp [Mt.byt]
  have e2 : ∀ i, i < m → Mt.byt ((b.drop k).take m) i = Mt.byt b (k + i) := fun i hi => by
    rw [Mt.byt_take _ _ _ hi]; simp [Mt.byt]
  refine cpre_is _ _ _ (by simp; omega) (by simp; omega) (fun i hi => ?_) (fun _ h => ?_)
  · rw [e1, e2 i (by omega)]; exact Mt.run_eq b m p k i hi
  · have h : Mt.run b p k m < m := by simp at h; omega
    rw [e1, e2 _ h]; exact Mt.run_ne b m p k h
abbrev QPost (v : Value) (w : World) (e : Ending) (w' : World) : Prop := e = .returned v ∧ ∃ n, w' = w.drewN n
set_option maxRecDepth 100000 in
set_option maxHeartbeats 1000000 in
theorem alike_walk (w : World) (u v : Value) (A B : List UInt8) (hu : SlV w u (bl A)) (hv : SlV w v (bl B)) (hl : B.length ≤ A.length) (hb : B.length ≤ 1099511627776) :
    Calls Tryd.prog 37 #[u, v] w (QPost (.int .i64 (cpre A B : Nat)) w) := by
  obtain ⟨p, cap, rfl⟩ := hu.shape
  obtain ⟨q, dap, rfl⟩ := hv.shape
  rw [bl_length] at hu hv ⊢
  rw [bl_length]
  obtain ⟨m, hm⟩ : ∃ m, m = B.length := ⟨_, rfl⟩
  obtain ⟨k, hk⟩ : ∃ k, k = A.length := ⟨_, rfl⟩
  rw [← hm] at hv hb ⊢
  rw [← hk] at hu ⊢
  rw [← hm, ← hk] at hl
  have HM := Lib.hid (And.intro hm hk)
  have HU := Lib.hid hu
  have HV := Lib.hid hv
  clear hu hv hm hk
  go_enter Tryd.func37, Tryd.ntmps37
  go_wp2_with fail
  go_loopw [8] (fun v8 wr => ∃ i : Nat, i ≤ m ∧ v8 = .int .i64 i ∧ (∀ x, x < i → Mt.byt A x = Mt.byt B x) ∧ ∃ n, wr = w.drewN n) (fun v8 _ => m - (intOf v8).toNat)
  case atStart => exact ⟨0, Nat.zero_le _, rfl, fun x hx => by omega, 0, rfl⟩
  case round =>
    obtain ⟨i, hi, rfl, he, nn, rfl⟩ := hrel
    have HE := Lib.hid he
    clear he
    by_cases hlt : i < m
    · have hlti : (i : Int) < (m : Int) := by omega
      have hltk : (i : Int) < (k : Int) := by omega
      obtain ⟨g, o, rfl, hrow⟩ := HU.out.some (by omega)
      obtain ⟨g2, o2, rfl, hrow2⟩ := HV.out.some (by omega)
      have hcap := HU.out.le
      have hcap2 := HV.out.le
      have hc1 := hrow.blm i (by rw [← HM.out.2]; omega)
      have hc2 := hrow2.blm i (by rw [← HM.out.1]; omega)
      have HB1 := Lib.hid (bi_inj (a := Mt.byt A i) (b := Mt.byt B i))
      clear hrow hrow2
      generalize hx : Mt.byt A i = x at *
      generalize hy : Mt.byt B i = y at *
      have HX := Lib.hid (And.intro hx hy)
      clear hx hy
      by_cases hxy : bi x = bi y
      · have hbe : (bi x == bi y) = true := beq_iff_eq.2 hxy
        go_wp2_with fail
        go_quiet (fail)
        go_wp2_with fail
        refine ⟨⟨i + 1, hlt, ?_, fun z hz => ?_, _, rfl⟩, ?_⟩
        · go_num
        · rcases Nat.lt_or_ge z i with h | h
          · exact HE.out z h
          · obtain rfl : z = i := by omega
            rw [HX.out.1, HX.out.2]; exact HB1.out.1 hxy
        · simp only [intOf]; omega
      · have hbe : (bi x == bi y) = false := beq_eq_false_iff_ne.2 hxy
        have HF : Hid (cpre A B = i) := Lib.hid (cpre_is A B i (by rw [← HM.out.2]; omega) (by rw [← HM.out.1]; omega) HE.out (fun _ _ => by rw [HX.out.1, HX.out.2]; exact fun h => hxy (HB1.out.2 h)))
        go_wp2_with fail
        go_quiet (fail)
        go_wp2_with fail
        go_ret
        exact ⟨by rw [HF.out]; rfl, nn + nq, by simp⟩
    · have hlti : (m : Int) ≤ (i : Int) := by omega
      obtain rfl : i = m := by omega
      have HF : Hid (cpre A B = i) := Lib.hid (cpre_is A B i (by rw [← HM.out.2]; omega) (by rw [← HM.out.1]; omega) HE.out (fun _ h => by rw [← HM.out.1] at h; omega))
      go_wp2_with fail
      go_ret
      exact ⟨by rw [HF.out]; rfl, _, rfl⟩
end Go.Proofs.YtphdcgioeokfbaaDoor
/-
  three: the key of a chain; ahead: the next place of a chain.
-/
namespace Go.Proofs.YtphdcgioeokfbaaDoor
open Go.RowKit
/-- The three bytes at a place, as a value. -/
def k3 (b : List UInt8) (p : Nat) : Value := .agg #[.int .u8 (bi (Mt.byt b p)), .int .u8 (bi (Mt.byt b (p + 1))), .int .u8 (bi (Mt.byt b (p + 2)))]
theorem info68 : (Tryd.prog.info? 68).map (·.size) = some 3 := by kernel_rfl
set_option maxRecDepth 100000 in
set_option maxHeartbeats 1000000 in
theorem three_walk (w : World) (v : Value) (b : List UInt8) (k : Nat) (hv : SlV w v (bl b)) (hk : k + 3 ≤ b.length) (hb : b.length ≤ 1099511627776) :
    Calls Tryd.prog 22 #[v, .int .i64 (k : Int)] w fun e w' => e = .returned (k3 b k) ∧ Below w.heap.size w w' := by
  obtain ⟨p, cap, rfl⟩ := hv.shape
  rw [bl_length] at hv ⊢
  obtain ⟨g, o, rfl, hrow⟩ := hv.some (by omega)
  have hcap := hv.le
  have hc0 := hrow.blm k (by omega)
  have hc1 := hrow.blm (k + 1) (by omega)
  have hc2 := hrow.blm (k + 2) (by omega)
  unfold k3
  generalize Mt.byt b k = x0 at *
  generalize Mt.byt b (k + 1) = x1 at *
  generalize Mt.byt b (k + 2) = x2 at *
  generalize b.length = n at *
  have h0 : (k : Int) < (n : Int) := by omega
  have h1 : (k : Int) + 1 < (n : Int) := by omega
  have h2 : (k : Int) + 2 < (n : Int) := by omega
  have h1' : 0 ≤ (k : Int) + 1 := by omega
  have h2' : 0 ≤ (k : Int) + 2 := by omega
  have hw1 : IntKind.i64.wrap ((k : Int) + 1) = (k : Int) + 1 := IntWalk.i64_in _ (by omega)
  have hw2 : IntKind.i64.wrap ((k : Int) + 2) = (k : Int) + 2 := IntWalk.i64_in _ (by omega)
  have ht1 : ((k : Int) + 1).toNat = k + 1 := by omega
  have ht2 : ((k : Int) + 2).toNat = k + 2 := by omega
  have hB : ∀ ob, Below w.heap.size w (w.alloc ob) := fun ob => (Below.refl _ _).alloc (Nat.le_refl _) _
  have hd0 : ∀ ob, (w.alloc ob).cell? _ = _ := fun ob => ((hB ob).cell (block_lt_of_cell hc0)).trans hc0
  have hd1 : ∀ ob, (w.alloc ob).cell? _ = _ := fun ob => ((hB ob).cell (block_lt_of_cell hc1)).trans hc1
  have hd2 : ∀ ob, (w.alloc ob).cell? _ = _ := fun ob => ((hB ob).cell (block_lt_of_cell hc2)).trans hc2
  have HB := Lib.hid hB
  clear hv hrow hB
  go_enter Tryd.func22, Tryd.ntmps22
  go_wp2_with fail
  go_region
  go_wp2_with fail
  exact bodyPost_ret (results_cell_row (p := 4) (ty := 68) rfl _ _ w.heap.size 68 _ (0, 0) _ rfl (heap_alloc_new w _) Tryd.underlying68 rfl info68) rfl ⟨rfl, (HB.out _).trans ⟨rfl, rfl, rfl, Nat.le_refl _, fun _ _ => rfl⟩⟩
/-- Numbers of 16 bits, as cells. -/
def nh (l : List Nat) : List Value := l.map fun (x : Nat) => Value.int .u16 (x : Int)
@[simp] theorem nh_length (l : List Nat) : (nh l).length = l.length := by simp [nh]
theorem RowAt.nh {w : World} {g o : Nat} {l : List Nat} (h : RowAt w g o (nh l)) (i : Nat) (hi : i < l.length) : w.cell? ⟨g, o + i, none⟩ = some (.int .u16 ((l.getD i 0 : Nat) : Int)) := by
  refine h i _ ?_
  simp [YtphdcgioeokfbaaDoor.nh, hi]
/-- How far ahead of each place the next one of its chain is, of the places below n. -/
def farv (b : List UInt8) (n p : Nat) : Nat := if p < n ∧ p + 3 ≤ b.length then (match Mt.chain b p p with | [] => 0 | q :: _ => p - q) else 0
def fars (b : List UInt8) (n : Nat) : List Nat := (List.range b.length).map (farv b n)
theorem fars_length (b : List UInt8) (n : Nat) : (fars b n).length = b.length := by simp [fars]
theorem fars_at (b : List UInt8) (n p : Nat) (hp : p < b.length) : (fars b n).getD p 0 = farv b n p := by simp [fars, hp]
theorem fars_zero (b : List UInt8) : fars b 0 = List.replicate b.length 0 := by
  unfold fars
  rw [List.eq_replicate_iff]
  refine ⟨by simp, fun x hx => ?_⟩
  obtain ⟨p, _, rfl⟩ := List.mem_map.1 hx
  unfold farv; rw [if_neg (by omega)]
theorem fars_step (b : List UInt8) (n : Nat) : fars b (n + 1) = (fars b n).set n (farv b (n + 1) n) := by
  apply List.ext_getElem (by simp [fars])
  intro i h1 h2
  simp only [List.getElem_set, fars, List.getElem_map, List.getElem_range]
  by_cases h : n = i
  · rw [if_pos h, h]
  · rw [if_neg h]
    unfold farv
    by_cases h3 : i < n ∧ i + 3 ≤ b.length
    · rw [if_pos h3, if_pos ⟨by omega, h3.2⟩]
    · rw [if_neg h3, if_neg (fun h4 => h3 ⟨by omega, h4.2⟩)]
theorem farv_le (b : List UInt8) (n p : Nat) : farv b n p ≤ p := by
  unfold farv
  split
  · split <;> omega
  · omega
theorem fars_all (b : List UInt8) : fars b (b.length - 2) = fars b b.length := by
  unfold fars
  apply List.map_congr_left
  intro p _
  unfold farv
  by_cases h : p + 3 ≤ b.length
  · rw [if_pos ⟨by omega, h⟩, if_pos ⟨by omega, h⟩]
  · rw [if_neg (fun h1 => h h1.2), if_neg (fun h1 => h h1.2)]
/-- All places of b, linked, in memory. -/
structure ChAt (w : World) (gc : Nat) (vb vf : Value) (d : Int) (b : List UInt8) : Prop where
  c0 : w.cell? ⟨gc, 0, none⟩ = some vb
  c1 : w.cell? ⟨gc, 1, none⟩ = some (.int .i64 d)
  c2 : w.cell? ⟨gc, 2, none⟩ = some vf
  bs : SlV w vb (bl b)
  fs : SlV w vf (nh (fars b b.length))
theorem ChAt.below {w w' : World} {gc : Nat} {vb vf : Value} {d : Int} {b : List UInt8} (h : ChAt w gc vb vf d b) {B : Nat} (hb : Below B w w') (hB : w.heap.size ≤ B) : ChAt w' gc vb vf d b := by
  have hg := block_lt_of_cell h.c0
  exact ⟨(hb.cell (p := ⟨gc, 0, none⟩) (Nat.lt_of_lt_of_le hg hB)).trans h.c0, (hb.cell (p := ⟨gc, 1, none⟩) (Nat.lt_of_lt_of_le hg hB)).trans h.c1, (hb.cell (p := ⟨gc, 2, none⟩) (Nat.lt_of_lt_of_le hg hB)).trans h.c2, h.bs.below hb hB, h.fs.below hb hB⟩
set_option maxRecDepth 100000 in
set_option maxHeartbeats 1000000 in
theorem ahead_walk (w : World) (gc : Nat) (vb vf : Value) (d : Int) (b : List UInt8) (h : ChAt w gc vb vf d b) (p : Nat) (hp : p + 3 ≤ b.length) (hb : b.length ≤ 32768) :
    Calls Tryd.prog 24 #[.pointer (some ⟨gc, 0, none⟩), .int .i64 (p : Int)] w fun e w' => e = .returned (.int .i64 (Mt.ahead b p)) ∧ w' = w := by
  obtain ⟨q, cap, rfl⟩ := h.fs.shape
  have hfs := h.fs
  have c2 := h.c2
  rw [nh_length, fars_length] at hfs c2
  obtain ⟨g, o, rfl, hrow⟩ := hfs.some (by omega)
  have hcap := hfs.le
  have hc := hrow.nh p (by rw [fars_length]; omega)
  rw [fars_at _ _ _ (by omega)] at hc
  have hle := farv_le b b.length p
  have hv : farv b b.length p = (match Mt.chain b p p with | [] => 0 | q :: _ => p - q) := by unfold farv; rw [if_pos ⟨by omega, hp⟩]
  have HA : Hid (Mt.ahead b p = if farv b b.length p = 0 then -1 else (p : Int) - (farv b b.length p : Nat)) := Lib.hid (by
    rw [hv]
    unfold Mt.ahead
    cases hch : Mt.chain b p p with
    | nil => rfl
    | cons q t =>
      have := (Mt.chain_head hch).1
      rw [if_neg (by show ¬ p - q = 0; omega)]
      show (q : Int) = (p : Int) - ((p - q : Nat) : Int)
      omega)
  clear hv hrow hfs h
  generalize farv b b.length p = f at *
  generalize b.length = n at *
  have h1 : (p : Int) < (n : Int) := by omega
  go_enter Tryd.func24, Tryd.ntmps24
  by_cases hf : f = 0
  · subst hf
    rw [if_pos rfl] at HA
    go_wp2_with fail
    go_ret
    exact ⟨by rw [HA.out]; rfl, rfl⟩
  · rw [if_neg hf] at HA
    have hfe : ((f : Int) == 0) = false := beq_eq_false_iff_ne.2 (by omega)
    have hw1 : IntKind.i64.wrap (f : Int) = (f : Int) := IntWalk.i64_in _ (by omega)
    go_wp2_with fail
    go_ret
    exact ⟨by rw [HA.out]; rfl, rfl⟩
end Go.Proofs.YtphdcgioeokfbaaDoor
