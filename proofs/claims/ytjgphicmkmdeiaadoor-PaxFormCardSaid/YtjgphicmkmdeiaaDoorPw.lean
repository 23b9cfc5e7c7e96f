/-
  Bytes in memory, for package pax: text of bytes; fresh slices.
-/
import Derived.Test.YtjgphicmkmdeiaaDoorMem
import Derived.Lib.SlBytesConst
import Derived.Lib.ConvBytes
import Derived.Maps.OwnSet
namespace Go.Proofs.YtjgphicmkmdeiaaDoor
open Go.RowKit Go.Maps

/-- Bytes, as cells. -/
def bi (b : UInt8) : Int := (b.toNat : Int)
def bl (l : List UInt8) : List Value := l.map fun x => Value.int .u8 (bi x)
@[simp] theorem bl_length (l : List UInt8) : (bl l).length = l.length := by simp [bl]
theorem bl_take (l : List UInt8) (k : Nat) : (bl l).take k = bl (l.take k) := by simp [bl, List.map_take]
theorem bl_drop (l : List UInt8) (k : Nat) : (bl l).drop k = bl (l.drop k) := by simp [bl, List.map_drop]
theorem bl_append (a b : List UInt8) : bl (a ++ b) = bl a ++ bl b := by simp [bl]
theorem bl_one (l : List UInt8) : ∀ v ∈ bl l, v.oneCell' = true := by
  intro v hv; simp [bl] at hv; obtain ⟨x, _, rfl⟩ := hv; rfl
theorem RowAt.bl {w : World} {g o : Nat} {l : List UInt8} (h : RowAt w g o (bl l)) (i : Nat) (hi : i < l.length) : w.cell? ⟨g, o + i, none⟩ = some (.int .u8 (bi (l.getD i 0))) := by
  refine h i _ ?_
  simp [YtjgphicmkmdeiaaDoor.bl, hi]
theorem bi_lt (b : UInt8) : 0 ≤ bi b ∧ bi b < 256 := by
  have := b.toNat_lt
  unfold bi; omega
theorem bi_inj {a b : UInt8} : bi a = bi b ↔ a = b := by
  unfold bi
  constructor
  · intro h; exact UInt8.toNat_inj.1 (by omega)
  · intro h; rw [h]
theorem bi_of (n : Nat) (h : n < 256) : bi (UInt8.ofNat n) = n := by
  unfold bi
  rw [UInt8.toNat_ofNat']; omega
theorem info5 : (Tryd.prog.info? 5).map (fun i => (i.zero, i.size, i.bytes)) = some (some (.int .u8 0), 1, 1) := by kernel_rfl
theorem run_toString {w : World} {v : Value} {l : List UInt8} (h : SlV w v (bl l)) : (convert 26 9 v).run Tryd.prog w = .ok (.string ⟨l.toArray⟩) w := by
  rcases h with ⟨g, o, cap, rfl, h2, h3⟩ | ⟨p, rfl, h0⟩
  · have hl := run_loadCells_list (P := Tryd.prog) w ⟨g, o, none⟩ (bl l) h3.src
    have e : bl l = (l.map bi).map (Value.int .u8) := by simp [bl]
    rw [show (bl l).length = l.length by simp [bl], e] at hl
    rw [bl_length]
    rw [run_convert_bytes_string w 26 9 5 _ _ _ Tryd.underlying26 Tryd.underlying5 Tryd.underlying9, run_bytesToString w _ _ _ _ hl]
    congr 2
    have key : ∀ (l : List UInt8) (s : ByteArray), (l.map bi).foldl (fun r n => r.push (UInt8.ofNat n.toNat)) s = ⟨(s.data.toList ++ l).toArray⟩ := by
      intro l
      induction l with
      | nil => intro s; simp
      | cons x t ih =>
        intro s
        simp only [List.map_cons, List.foldl_cons]
        rw [ih]
        congr 1
        have : UInt8.ofNat (bi x).toNat = x := by simp [bi]
        rw [this]
        simp [ByteArray.push]
    rw [key]
    simp
  · obtain rfl : l = [] := by simpa [bl] using h0
    cases p with
    | none => kernel_rfl
    | some a => kernel_rfl
theorem slice_toB {w : World} {p : Option Addr} {n cap : Nat} {vs : List Value} (h : SlV w (.slice p n cap) vs) (k : Nat) (hk : k ≤ n) : ∀ w', (Instr.sliceAt 26 (.slice p n cap) none (some (.int .i64 (k : Int))) none).run Tryd.prog w' = .ok (.slice p k cap) w' := by
  intro w'
  have hc := h.le
  rcases h with ⟨g, o, cap', h, _, _⟩ | ⟨p', h, _⟩
  · have hp : p = some ⟨g, o, none⟩ := by cases h; rfl
    subst hp
    clear h
    have h1 : (0 : Int) ≤ (k : Int) := by omega
    have h2 : (k : Int) ≤ (cap : Int) := by omega
    go_simp
  · have hc : cap = 0 ∧ p = p' ∧ n = 0 := by cases h; exact ⟨rfl, rfl, rfl⟩
    obtain ⟨rfl, rfl, rfl⟩ := hc
    obtain rfl : k = 0 := by omega
    show (Instr.sliceAt 26 (.slice p 0 0) none (some (.int .i64 0)) none).run Tryd.prog w' = .ok (.slice p 0 0) w'
    cases p with
    | none => kernel_rfl
    | some a => kernel_rfl
theorem slice_fromB {w : World} {p : Option Addr} {n cap : Nat} {vs : List Value} (h : SlV w (.slice p n cap) vs) (k : Nat) (hk : k ≤ n) :
    ∃ p' c', (∀ w', (Instr.sliceAt 26 (.slice p n cap) (some (.int .i64 (k : Int))) none none).run Tryd.prog w' = .ok (.slice p' (n - k) c') w') ∧ SlV w (.slice p' (n - k) c') (vs.drop k) := by
  have hc := h.le
  have hl := h.len
  rcases h with ⟨g, o, cap', h, h2, hB⟩ | ⟨p', h, hn⟩
  · cases h
    have h1 : (0 : Int) ≤ (k : Int) := by omega
    have h1' : (k : Int) ≤ (vs.length : Int) := by omega
    have h1'' : (vs.length : Int) ≤ (cap : Int) := by omega
    have hd : (vs.drop k).length = vs.length - k := List.length_drop
    by_cases hck : cap = k
    · have hkl : vs.length = k := by omega
      refine ⟨some ⟨g, o, none⟩, 0, fun w' => ?_, .inr ⟨_, by rw [hkl, Nat.sub_self], List.drop_eq_nil_of_le (by omega)⟩⟩
      subst hck
      rw [hkl]
      go_simp
    · refine ⟨some ⟨g, o + k, none⟩, cap - k, fun w' => ?_, .inl ⟨g, o + k, cap - k, by rw [hd], by rw [hd]; omega, hB.drop k⟩⟩
      go_simp
  · cases h
    obtain rfl : k = 0 := by omega
    refine ⟨p, 0, fun w' => ?_, .inr ⟨p, rfl, by rw [hn]; rfl⟩⟩
    show (Instr.sliceAt 26 (.slice p 0 0) (some (.int .i64 0)) none none).run Tryd.prog w' = .ok (.slice p 0 0) w'
    cases p with
    | none => kernel_rfl
    | some a => kernel_rfl
theorem i64_or_low (n : Int) (j : Nat) (b : Nat) (hb : b < 2 ^ j) (hj : j ≤ 8) (h1 : -9223372036854775808 ≤ n * 2 ^ j) (h2 : n * 2 ^ j + 2 ^ j ≤ 9223372036854775808) : bits .or .i64 (n * 2 ^ j) (b : Int) = n * 2 ^ j + (b : Int) := by
  show IntKind.i64.wrap ((BitVec.ofInt 64 (n * 2 ^ j) ||| BitVec.ofInt 64 (b : Int)).toNat : Int) = _
  have hS : (2 : Int) ^ j ≤ 256 := by
    have : 2 ^ j ≤ 2 ^ 8 := Nat.pow_le_pow_right (by omega) hj
    have h9 : ((2 ^ j : Nat) : Int) ≤ ((2 ^ 8 : Nat) : Int) := Int.ofNat_le.2 this
    rw [Int.natCast_pow] at h9
    exact h9
  have hbS : (b : Int) < 2 ^ j := by
    have h9 : (b : Int) < ((2 ^ j : Nat) : Int) := Int.ofNat_lt.2 hb
    rw [Int.natCast_pow] at h9
    exact h9
  rw [BitVec.toNat_or, BitVec.toNat_ofInt, BitVec.toNat_ofInt]
  have e2 : ((b : Int) % ((2 ^ 64 : Nat) : Int)).toNat = b := by
    have e64 : ((2 ^ 64 : Nat) : Int) = 18446744073709551616 := by decide
    rw [e64, Int.emod_eq_of_lt (by omega) (by omega)]; exact Int.toNat_natCast b
  rw [e2]
  obtain ⟨N, hN⟩ : ∃ N : Nat, (N : Int) = n * 2 ^ j % ((2 ^ 64 : Nat) : Int) := ⟨(n * 2 ^ j % ((2 ^ 64 : Nat) : Int)).toNat, by rw [Int.toNat_of_nonneg (Int.emod_nonneg _ (by decide))]⟩
  rw [← hN, Int.toNat_natCast]
  have hd : ((2 ^ j : Nat) : Int) ∣ (N : Int) := by
    rw [hN, Int.emod_def]
    have h64 : ((2 ^ j : Nat) : Int) ∣ ((2 ^ 64 : Nat) : Int) := Int.ofNat_dvd.2 (Nat.pow_dvd_pow 2 (by omega))
    exact Int.dvd_sub ⟨n, by rw [Int.mul_comm]; simp⟩ (Int.dvd_trans h64 (Int.dvd_mul_right _ _))
  obtain ⟨q, hq⟩ := Int.ofNat_dvd.1 hd
  have hor : N ||| b = N + b := by rw [hq, Nat.two_pow_add_eq_or_of_lt hb]
  rw [hor]
  generalize n * 2 ^ j = x at *
  generalize (2 : Int) ^ j = S at *
  have e64 : ((2 ^ 64 : Nat) : Int) = 18446744073709551616 := by decide
  rw [e64] at hN
  show (if (true && decide ((((N + b : Nat) : Int)) % 18446744073709551616 ≥ 9223372036854775808)) = true then (((N + b : Nat) : Int)) % 18446744073709551616 - 18446744073709551616 else (((N + b : Nat) : Int)) % 18446744073709551616) = _
  simp only [Bool.true_and, decide_eq_true_eq]
  split <;> omega
/-- A fresh slice of bytes, perhaps of a conversion (its row may bear a conversion's mark behind its end). -/
def OwnM (base : Nat) (w : World) (v : Value) (l : List UInt8) : Prop :=
  (v = .slice none 0 0 ∧ l = []) ∨ ∃ g cap cur fr, v = .slice (some ⟨g, 0, none⟩) l.length cap ∧ base ≤ g ∧ w.heap[g]? = some (.cells cur 5 fr) ∧ (fr = (0, 0) ∨ fr = (cap, cap + 1)) ∧ l.length ≤ cap ∧ cap ≤ maxLen ∧ cur.size = cap ∧ cur.toList.take l.length = bl l
theorem OwnM.of_own {base : Nat} {w : World} {v : Value} {l : List UInt8} {n : Nat} (h : w.ownsRow base 5 1 v n (bl l)) : OwnM base w v l := by
  obtain ⟨h0, ⟨h1, h2⟩ | ⟨g, cap, cur, rfl, h2, h3, h4, h5, h6, h7⟩⟩ := h
  · subst h2
    exact .inl ⟨h1, List.eq_nil_of_length_eq_zero (by simpa using h0)⟩
  · obtain rfl : l.length = n := by simpa using h0
    exact .inr ⟨g, cap, cur, (0, 0), rfl, h2, h3, .inl rfl, h4, h5, by simpa using h6, by simpa using h7⟩
theorem OwnM.toV {base : Nat} {w : World} {v : Value} {l : List UInt8} (h : OwnM base w v l) : SlV w v (bl l) := by
  rcases h with ⟨h1, rfl⟩ | ⟨g, cap, cur, fr, rfl, h2, h3, h4, h5, h6, h7, h8⟩
  · exact .inr ⟨none, h1, rfl⟩
  · refine .inl ⟨g, 0, cap, by rw [bl_length], by simpa using h5, fun i u hi => ?_⟩
    rw [Nat.zero_add, cell_of_row _ _ _ _ _ _ h3]
    have hi' : i < l.length := by simpa using (List.getElem?_eq_some_iff.1 hi).1
    rw [← h8, List.getElem?_take, if_pos hi', Array.getElem?_toList] at hi
    exact hi
theorem OwnM.below {base B : Nat} {w w' : World} {v : Value} {l : List UInt8} (h : OwnM base w v l) (hb : Below B w w') (hB : w.heap.size ≤ B) : OwnM base w' v l := by
  rcases h with h | ⟨g, cap, cur, fr, rfl, h2, h3, h4⟩
  · exact .inl h
  · exact .inr ⟨g, cap, cur, fr, rfl, h2, (hb.block g (by have := (Array.getElem?_eq_some_iff.1 h3).1; omega)).trans h3, h4⟩
/-- A conversion's row. -/
theorem OwnM.conv (w : World) (l : List UInt8) (hl : l.length ≤ 1099511627776) : OwnM w.heap.size (Lib.bytesWorld w 5 ⟨l.toArray⟩) (.slice (some ⟨w.heap.size, 0, none⟩) l.length (grownCap w l.length 0 5)) l := by
  have hge := grownCap_ge w l.length 0 5
  have hs : (Lib.bytesCells w 5 ⟨l.toArray⟩).size = grownCap w l.length 0 5 := by
    simp [Lib.bytesCells, ByteArray.size]
    omega
  refine .inr ⟨w.heap.size, _, _, _, rfl, Nat.le_refl _, Lib.bytesWorld_at_new w 5 ⟨l.toArray⟩, .inr (by rw [hs]), hge, grownCap_le_maxLen _ _ _ _ (by unfold maxLen; omega), hs, ?_⟩
  have e : (Lib.bytesCells w 5 ⟨l.toArray⟩).toList = bl l ++ List.replicate (grownCap w l.length 0 5 - l.length) (.int .u8 0) := by
    simp [Lib.bytesCells, bl, bi, ByteArray.size]
  rw [e, List.take_append_of_le_length (by simp), List.take_of_length_le (by simp)]
theorem conv_below (w : World) (s : ByteArray) : Below w.heap.size w (Lib.bytesWorld w 5 s) :=
  ⟨rfl, rfl, rfl, by rw [Lib.bytesWorld_size]; omega, fun k hk => Lib.bytesWorld_at_old w 5 s k hk⟩
/-- append of one byte. -/
theorem run_app1 {base : Nat} {w : World} {v : Value} {l : List UInt8} (ty : TypeId) (hown : OwnM base w v l) (b : UInt8) (a : Addr) (c : Nat) (ha : w.cell? (a.add 0) = some (.int .u8 (bi b))) (hsz : l.length ≤ 1099511627776) (hbase : base ≤ w.heap.size) :
    ∃ v' w', (Builtin.append_ #[26, 26] ty #[v, .slice (some a) 1 c]).run Tryd.prog w = .ok v' w' ∧ OwnM base w' v' (l ++ [b]) ∧ Below base w w' := by
  obtain ⟨i0, hi, hz0, hz1, hz2⟩ := info_parts info5
  have hnews : ∀ j u, [Value.int .u8 (bi b)][j]? = some u → w.cell? (a.add j) = some u := by
    intro j u hj
    match j, hj with
    | 0, hj => rw [← hj]; exact ha
    | j + 1, hj => simp at hj
  rcases hown with ⟨rfl, rfl⟩ | ⟨g, cap, cur, fr, rfl, h2, h3, h4, h5, h6, h7, h8⟩
  · have hown0 : w.ownsRow base 5 1 (.slice none 0 0) 0 (bl []) := ⟨rfl, .inl ⟨rfl, rfl⟩⟩
    obtain ⟨v', w', h, ho, hg, _⟩ := run_append_own (P := Tryd.prog) w base 26 ty 5 i0 (.int .u8 0) 1 1 Tryd.underlying26 hi hz0 hz1 hz2 rfl (by decide) (.slice none 0 0) 0 (bl []) hown0 a 1 c [.int .u8 (bi b)] rfl hnews (by intro y hy; simp at hy; subst hy; rfl) (by unfold maxLen; omega) (by omega) hbase
    exact ⟨v', w', h, OwnM.of_own (n := 1) ho, (Below.refl _ w).grown hg hbase (by intro k hk; cases hk)⟩
  · by_cases hroom : l.length + 1 ≤ cap
    · have hlt : l.length < cur.size := by omega
      have hf := run_firstCells_some (P := Tryd.prog) w i0.size 1 a 1 c [.int .u8 (bi b)] (by rw [hz1]; rfl) hnews
      have hcell : w.cell? ⟨g, l.length, none⟩ = some cur[l.length] := by simp [World.cell?, h3, hlt]
      have hfro : w.frozen? ⟨g, l.length, none⟩ = false := by
        rcases h4 with rfl | rfl
        · simp [World.frozen?, h3]
        · simp [World.frozen?, h3]; omega
      have hadd : (⟨g, 0, none⟩ : Addr).add l.length = ⟨g, l.length, none⟩ := by unfold Addr.add; split <;> simp_all
      have hst : (store ⟨g, l.length, none⟩ (.int .u8 (bi b))).run Tryd.prog w = .ok () (w.setCell ⟨g, l.length, none⟩ (.int .u8 (bi b))) := by
        rw [run_store Tryd.prog w _ _ _ rfl, hcell]
        simp [hfro]
      have hadd0 : (⟨g, l.length, none⟩ : Addr).add 0 = ⟨g, l.length, none⟩ := by unfold Addr.add; split <;> simp_all
      have hrun : (Builtin.append_ #[26, 26] ty #[.slice (some ⟨g, 0, none⟩) l.length cap, .slice (some a) 1 c]).run Tryd.prog w = .ok (.slice (some ⟨g, 0, none⟩) (l.length + 1) cap) (w.setCell ⟨g, l.length, none⟩ (.int .u8 (bi b))) := by
        rw [hz1] at hf
        simp [Builtin.append_, run_underlying Tryd.underlying26, sizeOf, typeInfo, hi, Builtin.lenOf, hroom, hz1, hf, hadd, storeCells, hadd0, hst]
      refine ⟨_, _, hrun, .inr ⟨g, cap, cur.setIfInBounds l.length (.int .u8 (bi b)), fr, by simp, h2, ?_, h4, by simpa using hroom, h6, by simpa using h7, ?_⟩, (Below.refl _ w).setCell h2 _⟩
      · rw [setCell_eq_setRow w g l.length cur 5 fr _ h3]
        exact setRow_heap w g cur _ 5 fr h3
      · rw [Array.toList_setIfInBounds, List.length_append, List.length_singleton, bl_append, ← h8]
        apply List.ext_getElem?
        intro i
        rw [List.getElem?_take, List.getElem?_set]
        by_cases hi1 : i < l.length
        · rw [List.getElem?_append_left (by simp; omega), List.getElem?_take, if_pos hi1, if_pos (by omega), if_neg (by omega)]
        · by_cases hi2 : i = l.length
          · subst hi2
            rw [List.getElem?_append_right (by simp; omega)]
            have hl2 : l.length < cap := by omega
            simp [bl, h7, hl2, show min l.length cap = l.length by omega]
          · rw [if_neg (by omega), List.getElem?_eq_none (by simp; omega)]
    · have holds : ∀ j u, (bl l)[j]? = some u → w.cell? ((⟨g, 0, none⟩ : Addr).add j) = some u := by
        have h0 := OwnM.toV (base := base) (.inr ⟨g, cap, cur, fr, rfl, h2, h3, h4, h5, h6, h7, h8⟩ : OwnM base w (.slice (some ⟨g, 0, none⟩) l.length cap) l)
        rcases h0 with ⟨g', o', cap', he, _, hB⟩ | ⟨p', he, hb0⟩
        · obtain ⟨hp, _, _⟩ := Value.slice.inj he
          obtain ⟨rfl, rfl⟩ : g = g' ∧ 0 = o' := by simpa using hp
          exact hB.src
        · intro j u hj; rw [hb0] at hj; simp at hj
      have hge := grownCap_ge w (l.length + 1) cap 5
      have hr := run_append_grow (P := Tryd.prog) w 26 ty 5 i0 (.int .u8 0) Tryd.underlying26 hi hz0 ⟨g, 0, none⟩ l.length cap (bl l) (by simp [hz1]) holds a 1 c [.int .u8 (bi b)] (by rw [hz1]; rfl) hnews (by omega) (by omega) (by rw [hz2]; exact growslice_fits (by omega) (by omega))
      refine ⟨_, _, hr, .inr ⟨w.heap.size, _, _, (0, 0), by simp, hbase, heap_alloc_new w.drew _, .inl rfl, by simpa using hge, grownCap_le_maxLen w (l.length + 1) cap 5 (by unfold maxLen; omega), ?_, ?_⟩, ?_⟩
      · simp only [Array.size_append, List.size_toArray, size_zeroCells, bl_length]
        simp [Value.cells]; omega
      · simp only [Array.toList_append, List.append_assoc]
        rw [← List.append_assoc, List.length_append, bl_append]
        exact List.take_left' (by simp [bl])
      · exact ⟨rfl, rfl, rfl, by simp, fun k hk => heap_alloc_old w.drew _ (show k < w.drew.heap.size from Nat.lt_of_lt_of_le hk hbase)⟩
theorem wpList_app1 {w : World} {ops : Array Oper} {rest : List Oper} {o : Oper} {a : Act} {Q : Exit → Act → World → Prop} (hgd : o.guard = none) (d x : Operand)
    (ho : o.op = .call { callee := .builtin .append, args := #[d, x], argTypes := #[26, 26] }) (base : Nat) (v : Value) (l : List UInt8) (b : UInt8) (p : Addr) (c : Nat) (hd : a.eval d = v) (hx : a.eval x = .slice (some p) 1 c)
    (hown : OwnM base w v l) (hp : w.cell? (p.add 0) = some (.int .u8 (bi b))) (hsz : l.length ≤ 1099511627776) (hbase : base ≤ w.heap.size)
    (h : ∀ v' w', OwnM base w' v' (l ++ [b]) → Below base w w' → wpList Tryd.prog ops Q rest (a.put o.dst v') w') : wpList Tryd.prog ops Q (o :: rest) a w := by
  refine wpList_plain hgd fun K hK => ?_
  obtain ⟨v', w', hrun, h1, h2⟩ := run_app1 o.type hown b p c hp hsz hbase
  unfold Oper.wp
  simp only [execOp, ho, resolve, invoke, builtin, hd, hx, hrun, Result.andThen, List.map_toArray, List.map_cons, List.map_nil, Sem.run_bind, Sem.run_pure]
  exact hK _ _ (h v' w' h1 h2)
end Go.Proofs.YtjgphicmkmdeiaaDoor
