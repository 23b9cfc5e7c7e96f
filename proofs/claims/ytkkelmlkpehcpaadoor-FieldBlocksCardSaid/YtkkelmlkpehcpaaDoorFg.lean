/-
  A text in a field: Text, String; where a byte 0 stands.
-/
import Derived.Test.YtkkelmlkpehcpaaDoorFk
import Derived.Lib.BufferWrite
import Derived.Lib.BytesEntry
import Derived.Lib.Bytealg
namespace Go.Proofs.YtkkelmlkpehcpaaDoor
open Go.RowKit

/-- Where the first byte 0 stands; -1: there is none. -/
def ib (l : List UInt8) : Int := Lib.indexByte l 0
/-- The bytes ahead of the first 0. -/
def strF : List UInt8 → List UInt8
  | [] => []
  | x :: t => if x = 0 then [] else x :: strF t
theorem ib_cons (x : UInt8) (t : List UInt8) : ib (x :: t) = if x = 0 then 0 else if ib t = -1 then -1 else ib t + 1 := by
  unfold ib
  rw [Lib.indexByte]
  by_cases h : x = 0
  · simp [h]
  · simp [h]
theorem ib_ge (l : List UInt8) : -1 ≤ ib l := Lib.indexByte_ge l 0
theorem ib_spec (l : List UInt8) : (0 ∉ l ∧ ib l = -1 ∧ strF l = l) ∨ (0 ∈ l ∧ ∃ k : Nat, ib l = (k : Int) ∧ k < l.length ∧ strF l = l.take k) := by
  induction l with
  | nil => exact .inl ⟨by simp, rfl, rfl⟩
  | cons x t ih =>
    rw [ib_cons, strF]
    by_cases h : x = 0
    · exact .inr ⟨by simp [h], 0, by simp [h], by simp, by simp [h]⟩
    · rw [if_neg h, if_neg h]
      rcases ih with ⟨h1, h2, h3⟩ | ⟨h1, k, h2, h3, h4⟩
      · exact .inl ⟨by simp [h1]; exact fun e => h e.symm, by rw [if_pos h2], by rw [h3]⟩
      · exact .inr ⟨by simp [h1], k + 1, by rw [if_neg (by omega), h2]; omega, by simp; omega, by rw [h4]; rfl⟩
set_option maxRecDepth 100000 in
set_option maxHeartbeats 1000000 in
theorem slib_walk (s : ByteArray) (w : World) : Calls Tryd.prog 53 #[.string s, .int .u8 0] w fun e w' => e = .returned (.int .i64 (ib s.data.toList)) ∧ w' = w := by
  go_enter Tryd.func53, Tryd.ntmps53
  go_wp2
  rw [run_callFunc_extern Tryd.func70 (by kernel_rfl) (by kernel_rfl) (by kernel_rfl) (e := Extern.BytealgIndexByte.indexByte) (by kernel_rfl), Lib.run_indexByteString]
  simp only [Result.andThen]
  rw [Oper.upon_value]
  go_wp2
  go_ret
  exact ⟨rfl, rfl⟩
set_option maxHeartbeats 1000000 in
theorem sib_walk (s : ByteArray) (w : World) : Calls Tryd.prog 38 #[.string s, .int .u8 0] w fun e w' => e = .returned (.int .i64 (ib s.data.toList)) ∧ w' = w := by
  go_enter Tryd.func38, Tryd.ntmps38
  go_wp2_with ((with_reducible refine (slib_walk s w).mono ?_); rintro e w' ⟨rfl, rfl⟩)
  go_ret
  exact ⟨rfl, rfl⟩
set_option maxRecDepth 100000 in
set_option maxHeartbeats 1000000 in
theorem slidx_walk (s : ByteArray) (w : World) : Calls Tryd.prog 56 #[.string s, .string ⟨#[0]⟩] w fun e w' => e = .returned (.int .i64 (ib s.data.toList)) ∧ w' = w := by
  have hix : ∀ w, (Instr.index 9 (.string ⟨#[0]⟩) (.int .i64 0)).run Tryd.prog w = .ok (.int .u8 0) w := fun w => by kernel_rfl
  go_enter Tryd.func56, Tryd.ntmps56
  go_wp2_with ((with_reducible refine (slib_walk s w).mono ?_); rintro e w' ⟨rfl, rfl⟩)
  all_goals
    first
      | (go_ret; exact ⟨rfl, rfl⟩)
      | (have e : ib s.data.toList = 0 := (by rename_i h; have h2 : s.data.toList = [0] := (by rw [← Lib.toList_data]; exact (beq_iff_eq.1 h).symm); rw [h2]; rfl); rw [e]; go_ret; exact ⟨rfl, rfl⟩)
set_option maxHeartbeats 1000000 in
theorem sidx_walk (s : ByteArray) (w : World) : Calls Tryd.prog 43 #[.string s, .string ⟨#[0]⟩] w fun e w' => e = .returned (.int .i64 (ib s.data.toList)) ∧ w' = w := by
  go_enter Tryd.func43, Tryd.ntmps43
  go_wp2_with ((with_reducible refine (slidx_walk s w).mono ?_); rintro e w' ⟨rfl, rfl⟩)
  go_ret
  exact ⟨rfl, rfl⟩
set_option maxHeartbeats 1000000 in
theorem scont_walk (s : ByteArray) (w : World) : Calls Tryd.prog 30 #[.string s, .string ⟨#[0]⟩] w fun e w' => e = .returned (.bool (decide (0 ≤ ib s.data.toList))) ∧ w' = w := by
  go_enter Tryd.func30, Tryd.ntmps30
  go_wp2_with ((with_reducible refine (sidx_walk s w).mono ?_); rintro e w' ⟨rfl, rfl⟩)
  all_goals
    go_ret
    exact ⟨rfl, rfl⟩
theorem run_ib (w : World) (v : Value) (l : List UInt8) (h : SlV w v (bl l)) : (Extern.BytealgIndexByte.indexByte #[v, .int .u8 0]).run Tryd.prog w = .ok (.int .i64 (ib l)) w := by
  rcases h with ⟨g, o, cap, rfl, h2, h3⟩ | ⟨p, rfl, h0⟩
  · rw [bl_length]
    have := Lib.run_indexByteSlice (P := Tryd.prog) w g o l.length cap (l.map bi) (by simp) (fun i hi => by
      rw [h3.bl i hi]; simp [hi]) 0
    rw [this]
    have e : Lib.bytesOf (l.map bi) = l := by
      unfold Lib.bytesOf
      rw [List.map_map]
      conv => rhs; rw [← List.map_id l]
      apply List.map_congr_left
      intro x _
      show UInt8.ofNat (bi x).toNat = x
      simp [bi]
    rw [e]; rfl
  · obtain rfl : l = [] := by simpa [bl] using h0
    cases p with
    | none => kernel_rfl
    | some a => kernel_rfl
set_option maxRecDepth 100000 in
set_option maxHeartbeats 1000000 in
theorem bib_walk (w : World) (v : Value) (l : List UInt8) (h : SlV w v (bl l)) : Calls Tryd.prog 71 #[v, .int .u8 0] w fun e w' => e = .returned (.int .i64 (ib l)) ∧ w' = w := by
  have hr := run_ib w v l h
  clear h
  go_enter Tryd.func71, Tryd.ntmps71
  go_wp2
  rw [run_callFunc_extern Tryd.func86 (by kernel_rfl) (by kernel_rfl) (by kernel_rfl) (e := Extern.BytealgIndexByte.indexByte) (by kernel_rfl), hr]
  simp only [Result.andThen]
  rw [Oper.upon_value]
  go_wp2
  go_ret
  exact ⟨rfl, rfl⟩
set_option maxRecDepth 100000 in
set_option maxHeartbeats 1000000 in
theorem bidx_walk (w : World) (v : Value) (l : List UInt8) (h : SlV w v (bl l)) (g : Nat) (hg : w.cell? ⟨g, 0, none⟩ = some (.int .u8 0)) : Calls Tryd.prog 54 #[v, .slice (some ⟨g, 0, none⟩) 1 1] w fun e w' => e = .returned (.int .i64 (ib l)) ∧ w' = w := by
  have HC := Lib.hid (bib_walk w v l h)
  clear h
  go_enter Tryd.func54, Tryd.ntmps54
  go_wp2_with ((with_reducible refine HC.out.mono ?_); rintro e w' ⟨rfl, rfl⟩)
  go_ret
  exact ⟨rfl, rfl⟩
/-- What Cut tells at a byte 0: only the first result is used. -/
def CutPost (l : List UInt8) (w : World) (e : Ending) (w' : World) : Prop := ∃ a b c, e = .returned (.tuple #[a, b, .bool c]) ∧ SlV w a (bl (strF l)) ∧ ∃ n, w' = w.drewN n
set_option maxRecDepth 100000 in
set_option maxHeartbeats 1000000 in
theorem cut_walk (w : World) (v : Value) (l : List UInt8) (h : SlV w v (bl l)) (hl : l.length ≤ maxLen) (g : Nat) (hg : w.cell? ⟨g, 0, none⟩ = some (.int .u8 0)) : Calls Tryd.prog 39 #[v, .slice (some ⟨g, 0, none⟩) 1 1] w (CutPost l w) := by
  have HC := Lib.hid (bidx_walk w v l h g hg)
  obtain ⟨p, cap, rfl⟩ := h.shape
  have HS := Lib.hid h
  have hcap := h.le
  unfold maxLen at hl
  rw [bl_length] at *
  rcases ib_spec l with ⟨h1, h2, h3⟩ | ⟨h1, k, h2, h3, h4⟩
  · rw [h2] at HC
    have H3 := Lib.hid h3
    clear h h1 h2 h3 hg
    go_enter Tryd.func39, Tryd.ntmps39
    go_wp2_with ((with_reducible refine HC.out.mono ?_); rintro e w' ⟨rfl, rfl⟩)
    refine bodyPost_ret (v := .tuple #[.slice p l.length cap, .slice none 0 0, .bool false]) (by simp [results, Tryd.results39, go_sem]) rfl ⟨_, _, _, rfl, ?_, 0, rfl⟩
    rw [H3.out]; exact HS.out
  · rw [h2] at HC
    have H4 := Lib.hid h4
    obtain ⟨m, hm⟩ : ∃ m, l.length = m := ⟨_, rfl⟩
    rw [hm] at hcap h h3 hl HC HS ⊢
    have hs1 := slice_toB h k (by omega)
    obtain ⟨p2, c2, hs2, _⟩ := slice_fromB h (k + 1) (by omega)
    have hs3 : ∀ w', (Instr.sliceAt 22 (.slice p m cap) (some (.int .i64 ((k : Int) + 1))) none none).run Tryd.prog w' = .ok (.slice p2 (m - (k + 1)) c2) w' := hs2
    have HK := Lib.hid (h.take k (by omega))
    have hki : (k : Int) < (m : Int) := by omega
    have hml : (m : Int) ≤ 9223372036854775807 := by omega
    clear h h1 h2 h3 h4 hg hs2 hm hl
    go_enter Tryd.func39, Tryd.ntmps39
    go_wp2_with ((with_reducible refine HC.out.mono ?_); rintro e w' ⟨rfl, rfl⟩)
    go_quiet (fail)
    go_wp2_with fail
    refine bodyPost_ret (v := .tuple #[.slice p k cap, .slice p2 (m - (k + 1)) c2, .bool true]) (by simp [results, Tryd.results39, go_sem]) rfl ⟨_, _, _, rfl, ?_, _, rfl⟩
    rw [H4.out, ← bl_take]; exact HK.out
def StrPost (l : List UInt8) (w : World) (e : Ending) (w' : World) : Prop := e = .returned (.string ⟨l.toArray⟩) ∧ Below w.heap.size w w'
set_option maxRecDepth 100000 in
set_option maxHeartbeats 1000000 in
theorem string_walk (w : World) (v : Value) (l : List UInt8) (h : SlV w v (bl l)) (hl : l.length ≤ maxLen) : Calls Tryd.prog 20 #[v] w (StrPost (strF l) w) := by
  have HB : Hid (Below w.heap.size w (w.alloc (.cells #[.int .u8 0] 5 (1, 2)))) := Lib.hid ((Below.refl _ _).alloc (Nat.le_refl _) _)
  have HB0 : Hid (Below w.heap.size w (w.alloc (.cells #[.int .u8 0] 5))) := Lib.hid ((Below.refl _ _).alloc (Nat.le_refl _) _)
  have HC := Lib.hid (cut_walk _ v l (h.below HB0.out (Nat.le_refl _)) hl w.heap.size (cell_of_row _ _ 0 _ _ _ (heap_alloc_new w (.cells #[.int .u8 0] 5))))
  clear h hl
  go_enter Tryd.func20, Tryd.ntmps20
  go_wp2_with ((with_reducible refine HC.out.mono ?_); rintro e w' ⟨a, b, c, rfl, hs, n, rfl⟩; have hcv : (convert 22 9 a).run Tryd.prog ((w.alloc (.cells #[.int .u8 0] 5)).drewN n) = .ok (.string ⟨(strF l).toArray⟩) ((w.alloc (.cells #[.int .u8 0] 5)).drewN n) := run_toString (w := (w.alloc (.cells #[.int .u8 0] 5)).drewN n) hs)
  go_ret
  exact ⟨rfl, below_drewN HB0.out n⟩
/-- The answer of Text. -/
def txtE (s : List UInt8) (many : Int) : Int := if many < 1 ∨ 512 < many ∨ 0 ∈ s then 1 else if many < (s.length : Int) then 3 else 0
def txtL (s : List UInt8) (many : Int) : List UInt8 := if txtE s many = 0 then s ++ List.replicate (many.toNat - s.length) 0 else []
theorem txt_err (s : List UInt8) (many : Int) (e : Int) (he : txtE s many = e) (h : e ≠ 0) : txtE s many = e ∧ txtL s many = [] := ⟨he, if_neg (by rw [he]; exact h)⟩
theorem txt_ok (s : List UInt8) (m : Nat) (he : txtE s m = 0) : txtE s m = 0 ∧ txtL s m = s ++ List.replicate (m - s.length) 0 := ⟨he, by unfold txtL; rw [if_pos he, Int.toNat_natCast]⟩
/-- copy of a text to the beginning of an own row. -/
theorem wpList_copy_str {w : World} {ops : Array Oper} {rest : List Oper} {o : Oper} {a : Act} {Q : Exit → Act → World → Prop} (hgd : o.guard = none) (d s : Operand)
    (ho : o.op = .call { callee := .builtin .copy, args := #[d, s], argTypes := #[22, 9] }) (g m : Nat) (l : List UInt8) (t : TypeId) (hg : w.heap[g]? = some (.cells (bl l).toArray t (0, 0))) (b : ByteArray) (hb : b.size ≤ m) (hl : l.length = m)
    (hd : a.eval d = .slice (some ⟨g, 0, none⟩) m m) (hs : a.eval s = .string b)
    (hK : wpList Tryd.prog ops Q rest (a.put o.dst (goInt b.size)) (w.setRow g (bl (b.data.toList ++ l.drop b.size)).toArray)) : wpList Tryd.prog ops Q (o :: rest) a w := by
  have hsz5 : (Tryd.prog.info? 5).map (·.size) = some 1 := by kernel_rfl
  have hrun := Lib.run_copy_row_string (P := Tryd.prog) w 22 9 o.type 5 g 0 m m b (bl l).toArray t Tryd.underlying22 hsz5 hg hb (by simp [hl]; omega)
  have e : ((bl l).toArray.toList.take 0 ++ Lib.byteCells b.data.toList ++ (bl l).toArray.toList.drop (0 + b.size)).toArray = (bl (b.data.toList ++ l.drop b.size)).toArray := by
    rw [bl_append, ← bl_drop]
    simp
    rfl
  rw [e] at hrun
  refine wpList_plain hgd fun K hK' => ?_
  unfold Oper.wp
  simp only [execOp, ho, resolve, invoke, builtin, hd, hs, hrun, Result.andThen, List.map_toArray, List.map_cons, List.map_nil, Sem.run_bind, Sem.run_pure]
  exact hK' _ _ hK
set_option maxRecDepth 100000 in
set_option maxHeartbeats 1000000 in
theorem text_walk (w : World) (s : List UInt8) (many : Int) (hs : s.length ≤ maxLen) : Calls Tryd.prog 18 #[.string ⟨s.toArray⟩, .int .i64 many] w (MadePost (txtL s many) (txtE s many) w) := by
  have HIB := Lib.hid (sib_walk ⟨s.toArray⟩)
  unfold maxLen at hs
  by_cases hlo : many < 1
  · obtain ⟨e1, e2⟩ := txt_err s many 1 (if_pos (.inl hlo)) (by decide)
    rw [e1, e2]
    clear e1 e2
    go_enter Tryd.func18, Tryd.ntmps18
    go_wp2_with fail
    go_ret2
    exact made_none w w (Below.refl _ _)
  by_cases hhi : 512 < many
  · obtain ⟨e1, e2⟩ := txt_err s many 1 (if_pos (.inr (.inl hhi))) (by decide)
    rw [e1, e2]
    clear e1 e2
    go_enter Tryd.func18, Tryd.ntmps18
    go_wp2_with fail
    go_ret2
    exact made_none w w (Below.refl _ _)
  obtain ⟨m, rfl⟩ : ∃ m : Nat, many = (m : Int) := ⟨many.toNat, by omega⟩
  have d1 : decide ((m : Int) < 1) = false := decide_eq_false hlo
  have d2 : decide (512 < (m : Int)) = false := decide_eq_false hhi
  have hm1 : 1 ≤ (m : Int) := by omega
  have hm2 : (m : Int) ≤ 512 := by omega
  rcases ib_spec s with ⟨h1, h2, _⟩ | ⟨h1, k, h2, h3, _⟩
  · have h2' : ib (⟨s.toArray⟩ : ByteArray).data.toList = -1 := h2
    rw [h2'] at HIB
    by_cases hlen : m < s.length
    · obtain ⟨e1, e2⟩ := txt_err s m 3 (by unfold txtE; rw [if_neg (by intro h; rcases h with h | h | h; (omega); (omega); (exact h1 h)), if_pos (by omega)]) (by decide)
      rw [e1, e2]
      obtain ⟨bs, hbs⟩ : ∃ bs, (⟨s.toArray⟩ : ByteArray) = bs := ⟨_, rfl⟩
      have hsz : bs.size = s.length := by rw [← hbs]; simp [ByteArray.size]
      have hs1 : (m : Int) < (bs.size : Int) := by omega
      have hs2 : (bs.size : Int) ≤ 9223372036854775807 := by omega
      rw [hbs] at HIB ⊢
      clear e1 e2 hlo hhi h1 h2 h2' hlen hsz hbs hs
      go_enter Tryd.func18, Tryd.ntmps18
      go_wp2_with ((with_reducible refine (HIB.out _).mono ?_); rintro e w' ⟨rfl, rfl⟩)
      go_ret2
      exact made_none _ _ (Below.refl _ _)
    · obtain ⟨e1, e2⟩ := txt_ok s m (by unfold txtE; rw [if_neg (by intro h; rcases h with h | h | h; (omega); (omega); (exact h1 h)), if_neg (by omega)])
      rw [e1, e2]
      obtain ⟨bs, hbs⟩ : ∃ bs, (⟨s.toArray⟩ : ByteArray) = bs := ⟨_, rfl⟩
      have hsz : bs.size = s.length := by rw [← hbs]; simp [ByteArray.size]
      have hdt : bs.data.toList = s := by rw [← hbs]
      have HSZ := Lib.hid (And.intro hsz hdt)
      have hs1 : (bs.size : Int) ≤ (m : Int) := by omega
      have hs2 : bs.size ≤ m := by omega
      have hmk := made_bytes m (by omega)
      have HA : Hid ((w.alloc (.cells (bl (List.replicate m 0)).toArray 5)).heap[w.heap.size]? = some (.cells (bl (List.replicate m 0)).toArray 5 (0, 0))) := Lib.hid (heap_alloc_new _ _)
      have HLM : Hid ((List.replicate m (0 : UInt8)).length = m) := Lib.hid (by simp)
      have hm512 : m ≤ 512 := by omega
      rw [hbs] at HIB ⊢
      obtain ⟨z, hz⟩ : ∃ z, List.replicate m (0 : UInt8) = z := ⟨_, rfl⟩
      rw [hz] at hmk HA HLM
      have HZ := Lib.hid hz
      clear e1 e2 hlo hhi h1 h2 h2' hlen hsz hdt hbs hs hz
      go_enter Tryd.func18, Tryd.ntmps18
      go_wp2_with (first
        | ((with_reducible refine (HIB.out _).mono ?_); rintro e w' ⟨rfl, rfl⟩)
        | (refine wpList_copy_str rfl _ _ rfl w'.heap.size m z 5 HA.out bs hs2 HLM.out rfl rfl ?_))
      go_ret2
      refine ⟨_, rfl, ?_, below_setRow ((Below.refl _ _).alloc (Nat.le_refl _) _) (Nat.le_refl _) _⟩
      have hlen : (s ++ List.replicate (m - s.length) 0).length = m := by have := HSZ.out.1; simp; omega
      refine .inr ⟨_, m, _, (0, 0), by rw [hlen]; rfl, Nat.le_refl _, setRow_heap _ _ _ _ _ _ HA.out, .inl rfl, by omega, by unfold maxLen; omega, ?_, ?_⟩
      · have := HSZ.out.1
        have := HLM.out
        rw [List.size_toArray, bl_length, List.length_append, List.length_drop, HSZ.out.2]
        omega
      · rw [hlen, HSZ.out.2, HSZ.out.1, ← HZ.out, List.drop_replicate]
        exact List.take_of_length_le (by rw [bl_length, hlen]; exact Nat.le_refl _)
  · have h2' : ib (⟨s.toArray⟩ : ByteArray).data.toList = (k : Int) := h2
    rw [h2'] at HIB
    obtain ⟨e1, e2⟩ := txt_err s m 1 (if_pos (.inr (.inr h1))) (by decide)
    rw [e1, e2]
    clear e1 e2 hlo hhi h1 h2 h2' h3
    go_enter Tryd.func18, Tryd.ntmps18
    go_wp2_with ((with_reducible refine (HIB.out _).mono ?_); rintro e w' ⟨rfl, rfl⟩)
    go_ret2
    exact made_none _ _ (Below.refl _ _)
end Go.Proofs.YtkkelmlkpehcpaaDoor
