/-
  The document's Text and String.
-/
import Derived.Test.YtkkelmlkpehcpaaDoorFg
namespace Go.Proofs.YtkkelmlkpehcpaaDoor
open Go.RowKit

theorem str_ix (l : List UInt8) (k : Nat) (hk : k < l.length) (w : World) : (Instr.index 9 (.string ⟨l.toArray⟩) (.int .i64 (k : Int))).run Tryd.prog w = .ok (.int .u8 (bi (l.getD k 0))) w := by
  have hg : (⟨l.toArray⟩ : ByteArray)[k]? = some (l.getD k 0) := by
    have hsz : k < (⟨l.toArray⟩ : ByteArray).size := by simpa [ByteArray.size] using hk
    rw [getElem?_pos _ k hsz]
    show some (l.toArray[k]'(by simpa using hk)) = _
    simp [hk]
  simp only [Instr.index, asIntOf, Sem.run_bind, Sem.run_pure, Result.andThen_ok, run_underlying Tryd.underlying9]
  rw [if_pos (by omega), Int.toNat_natCast, hg]
  rfl
def StrLoop (l : List UInt8) (v : Value) : Prop := ∃ k : Nat, k ≤ l.length ∧ v = .int .i64 k ∧ strF l = l.take k ++ strF (l.drop k)
theorem strF_next (l : List UInt8) (k : Nat) (hk : k < l.length) (h : strF l = l.take k ++ strF (l.drop k)) (hz : l.getD k 0 ≠ 0) : strF l = l.take (k + 1) ++ strF (l.drop (k + 1)) := by
  have e : l.getD k 0 = l[k] := by simp [hk]
  rw [e] at hz
  have e2 : l.take (k + 1) = l.take k ++ [l[k]] := by rw [List.take_add_one, List.getElem?_eq_getElem hk]; rfl
  rw [h, List.drop_eq_getElem_cons hk, strF, if_neg hz, e2, List.append_assoc]
  rfl
theorem strF_here (l : List UInt8) (k : Nat) (hk : k < l.length) (h : strF l = l.take k ++ strF (l.drop k)) (hz : l.getD k 0 = 0) : strF l = l.take k := by
  have e : l.getD k 0 = l[k] := by simp [hk]
  rw [e] at hz
  rw [h, List.drop_eq_getElem_cons hk, strF, if_pos hz, List.append_nil]
set_option maxRecDepth 100000 in
set_option maxHeartbeats 1000000 in
theorem rstring_walk (w : World) (v : Value) (l : List UInt8) (h : SlV w v (bl l)) (hl : l.length ≤ 1000) : Calls Tryd.prog 21 #[v] w fun e w' => e = .returned (.string ⟨(strF l).toArray⟩) ∧ w = w' := by
  obtain ⟨p, cap, rfl⟩ := h.shape
  have HS := Lib.hid h
  have hcap := h.le
  rw [bl_length] at *
  obtain ⟨m, hm⟩ : ∃ m, l.length = m := ⟨_, rfl⟩
  rw [hm] at hcap h HS hl ⊢
  have HM := Lib.hid hm
  clear h hm
  go_enter Tryd.func21, Tryd.ntmps21
  go_wp2_with fail
  go_loop [3] (fun i => StrLoop l i) (fun i => m - (intOf i).toNat)
  case atStart => exact ⟨0, by omega, rfl, by simp⟩
  case round =>
    obtain ⟨k, hk, rfl, hr⟩ := hrel
    have HR := Lib.hid hr
    clear hr
    by_cases hlt : k < m
    · have hltI : (k : Int) < (m : Int) := by omega
      have hml : (m : Int) ≤ 1000 := by omega
      obtain ⟨g, o, rfl, hrow⟩ := HS.out.some (by omega)
      have hck := hrow.bl k (by rw [HM.out]; exact hlt)
      have hs1 := slice_toB HS.out k (by omega)
      have hcv := run_toString (l := l.take k) (by rw [← bl_take]; exact HS.out.take k (by omega))
      clear hrow
      obtain ⟨x, hx⟩ : ∃ x, l.getD k 0 = x := ⟨_, rfl⟩
      have HX := Lib.hid hx
      rw [hx] at hck
      clear hx
      by_cases hz : x = 0
      · subst hz
        have hb : bi 0 = 0 := rfl
        rw [hb] at hck
        have HE := Lib.hid (strF_here l k (by rw [HM.out]; exact hlt) HR.out HX.out)
        go_wp2_with fail
        go_ret
        exact ⟨by rw [HE.out]; rfl, rfl⟩
      · have hb : bi x ≠ 0 := fun h => hz (bi_inj.1 (h.trans rfl))
        have t1 : (bi x == 0) = false := by rw [beq_eq_false_iff_ne]; exact hb
        have t2 : (bi x != 0) = true := by rw [bne_iff_ne]; exact hb
        have t3 : decide (bi x = 0) = false := decide_eq_false hb
        have HN := Lib.hid (strF_next l k (by rw [HM.out]; exact hlt) HR.out (by rw [HX.out]; exact hz))
        clear hb hz
        go_wp2_with fail
        exact ⟨⟨k + 1, by rw [HM.out]; omega, by go_num, HN.out⟩, by simp [intOf]; omega⟩
    · obtain rfl : k = m := by have := HM.out; omega
      have hs1 := slice_toB HS.out k (Nat.le_refl _)
      have hcv := run_toString (l := l.take k) (by rw [← bl_take]; exact HS.out.take k (Nat.le_refl _))
      have HE : Hid (strF l = l.take k) := Lib.hid (by rw [HR.out, List.drop_eq_nil_of_le (by rw [HM.out]; exact Nat.le_refl _)]; simp [strF])
      clear hlt
      go_wp2_with fail
      go_ret
      exact ⟨by rw [HE.out]; rfl, rfl⟩
def ZeroLoop (s : List UInt8) (v : Value) : Prop := ∃ k : Nat, k ≤ s.length ∧ v = .int .i64 k ∧ 0 ∉ s.take k
theorem zero_next (s : List UInt8) (k : Nat) (hk : k < s.length) (h : 0 ∉ s.take k) (hz : s.getD k 0 ≠ 0) : 0 ∉ s.take (k + 1) := by
  have e : s.getD k 0 = s[k] := by simp [hk]
  rw [e] at hz
  rw [List.take_add_one, List.getElem?_eq_getElem hk]
  simp only [Option.toList_some, List.mem_append, List.mem_singleton, not_or]
  exact ⟨h, fun e => hz e.symm⟩
theorem zero_here (s : List UInt8) (k : Nat) (hk : k < s.length) (hz : s.getD k 0 = 0) : 0 ∈ s := by
  have e : s.getD k 0 = s[k] := by simp [hk]
  rw [← hz, e]; exact List.getElem_mem hk
/-- The row that is filled with a text. -/
structure FillAt (w wr : World) (s : List UInt8) (m k : Nat) : Prop where
  row : wr.heap[w.heap.size]? = some (.cells (bl (s.take k ++ List.replicate (m - k) 0)).toArray 5 (0, 0))
  below : Below w.heap.size w wr
theorem FillAt.start (w : World) (s : List UInt8) (m : Nat) : FillAt w (w.alloc (.cells (bl (List.replicate m 0)).toArray 5)) s m 0 :=
  ⟨by rw [heap_alloc_new]; simp, (Below.refl _ _).alloc (Nat.le_refl _) _⟩
theorem FillAt.step {w wr : World} {s : List UInt8} {m k : Nat} (h : FillAt w wr s m k) (hk : k < s.length) (hm : s.length ≤ m) : FillAt w (wr.setCell ⟨w.heap.size, k, none⟩ (.int .u8 (bi (s.getD k 0)))) s m (k + 1) := by
  refine ⟨?_, h.below.setCell (Nat.le_refl _) _⟩
  rw [heap_setCell_same _ _ _ _ _ _ h.row]
  have e : (s.take k ++ List.replicate (m - k) 0).set k (s.getD k 0) = s.take (k + 1) ++ List.replicate (m - (k + 1)) 0 := by
    apply List.ext_getElem?
    intro i
    rw [List.getElem?_set]
    by_cases hi : k = i
    · subst hi
      rw [if_pos rfl, if_pos (by simp; omega), List.getElem?_append_left (by simp; omega), List.getElem?_take, if_pos (by omega)]
      simp [hk]
    · rw [if_neg hi]
      by_cases h1 : i < k
      · rw [List.getElem?_append_left (by simp; omega), List.getElem?_append_left (by simp; omega), List.getElem?_take, List.getElem?_take, if_pos h1, if_pos (by omega)]
      · rw [List.getElem?_append_right (by simp; omega), List.getElem?_append_right (by simp; omega), List.getElem?_replicate, List.getElem?_replicate]
        congr 1
        simp; omega
  rw [← e]
  simp [bl, List.map_set]
theorem FillAt.cell {w wr : World} {s : List UInt8} {m k : Nat} (h : FillAt w wr s m k) (i : Nat) (hi : i < m) (hk : k ≤ s.length) (hm : s.length ≤ m) : ∃ v, wr.cell? ⟨w.heap.size, i, none⟩ = some v := by
  rw [cell_of_row _ _ _ _ _ _ h.row]
  have hlen : (s.take k ++ List.replicate (m - k) 0).length = m := by simp; omega
  exact ⟨.int .u8 (bi ((s.take k ++ List.replicate (m - k) 0)[i]'(by omega))), by rw [bl, List.getElem?_toArray, List.getElem?_map, List.getElem?_eq_getElem (by omega)]; rfl⟩
theorem FillAt.free {w wr : World} {s : List UInt8} {m k : Nat} (h : FillAt w wr s m k) (i : Nat) : wr.frozen? ⟨w.heap.size, i, none⟩ = false := frozen_of_row _ _ _ _ _ h.row
def FillLoop (w : World) (s : List UInt8) (m : Nat) (v : Value) (wr : World) : Prop := ∃ k : Nat, k ≤ s.length ∧ v = .int .i64 k ∧ FillAt w wr s m k
set_option maxRecDepth 100000 in
set_option maxHeartbeats 1000000 in
theorem rtext_walk (w : World) (s : List UInt8) (many : Int) (hs : s.length ≤ 1000) : Calls Tryd.prog 19 #[.string ⟨s.toArray⟩, .int .i64 many] w (MadePost (txtL s many) (txtE s many) w) := by
  by_cases hlo : many < 1
  · obtain ⟨e1, e2⟩ := txt_err s many 1 (if_pos (.inl hlo)) (by decide)
    rw [e1, e2]
    clear e1 e2
    go_enter Tryd.func19, Tryd.ntmps19
    go_wp2_with fail
    go_ret2
    exact made_none w w (Below.refl _ _)
  by_cases hhi : 512 < many
  · obtain ⟨e1, e2⟩ := txt_err s many 1 (if_pos (.inr (.inl hhi))) (by decide)
    rw [e1, e2]
    clear e1 e2
    go_enter Tryd.func19, Tryd.ntmps19
    go_wp2_with fail
    go_ret2
    exact made_none w w (Below.refl _ _)
  obtain ⟨m, rfl⟩ : ∃ m : Nat, many = (m : Int) := ⟨many.toNat, by omega⟩
  have d1 : decide ((m : Int) < 1) = false := decide_eq_false hlo
  have d2 : decide (512 < (m : Int)) = false := decide_eq_false hhi
  have hm1 : 1 ≤ (m : Int) := by omega
  have hm2 : (m : Int) ≤ 512 := by omega
  have hix := str_ix s
  obtain ⟨bs, hbs⟩ : ∃ bs, (⟨s.toArray⟩ : ByteArray) = bs := ⟨_, rfl⟩
  have hsz : bs.size = s.length := by rw [← hbs]; simp [ByteArray.size]
  rw [hbs] at hix ⊢
  have HIX := Lib.hid hix
  have HSZ := Lib.hid hsz
  have hs1 : (bs.size : Int) ≤ 1000 := by omega
  have hmk := made_bytes m (by omega)
  obtain ⟨L, hL⟩ : ∃ L, txtL s m = L := ⟨_, rfl⟩
  obtain ⟨E, hE⟩ : ∃ E, txtE s m = E := ⟨_, rfl⟩
  have HLE := Lib.hid (And.intro hL hE)
  have HL1000 := Lib.hid hs
  rw [hL, hE]
  clear hlo hhi hbs hsz hix hL hE hs
  go_enter Tryd.func19, Tryd.ntmps19
  go_wp2_with fail
  go_loop [6] (fun i => ZeroLoop s i) (fun i => bs.size - (intOf i).toNat)
  case atStart => exact ⟨0, by omega, rfl, by simp⟩
  case round =>
    obtain ⟨k, hk, rfl, hz⟩ := hrel
    have HZ := Lib.hid hz
    clear hz
    by_cases hlt : k < bs.size
    · have hltI : (k : Int) < (bs.size : Int) := by omega
      have hk2 : k < s.length := by have := HSZ.out; omega
      have hi := HIX.out k hk2
      obtain ⟨x, hx⟩ : ∃ x, s.getD k 0 = x := ⟨_, rfl⟩
      rw [hx] at hi
      by_cases hz : x = 0
      · subst hz
        have hb : bi 0 = 0 := rfl
        rw [hb] at hi
        obtain ⟨e1, e2⟩ := txt_err s m 1 (if_pos (.inr (.inr (zero_here s k hk2 hx)))) (by decide)
        have HE := Lib.hid (And.intro e1 e2)
        clear hx e1 e2 hk2
        go_wp2_with fail
        go_ret2
        rw [← HLE.out.1, ← HLE.out.2, HE.out.1, HE.out.2]
        exact made_none w w (Below.refl _ _)
      · have hb : bi x ≠ 0 := fun h => hz (bi_inj.1 (h.trans rfl))
        have t1 : (bi x == 0) = false := by rw [beq_eq_false_iff_ne]; exact hb
        have HN := Lib.hid (zero_next s k hk2 HZ.out (by rw [hx]; exact hz))
        clear hx hb hz
        go_wp2_with fail
        exact ⟨⟨k + 1, hk2, by go_num, HN.out⟩, by simp [intOf]; omega⟩
    · obtain rfl : k = bs.size := by have := HSZ.out; omega
      have HN : Hid (0 ∉ s) := Lib.hid (by have := HZ.out; rw [HSZ.out, List.take_length] at this; exact this)
      clear hlt
      by_cases hlen : m < bs.size
      · have hlI : (m : Int) < (bs.size : Int) := by omega
        obtain ⟨e1, e2⟩ := txt_err s m 3 (by unfold txtE; rw [if_neg (by intro h; rcases h with h | h | h; (omega); (omega); (exact HN.out h)), if_pos (by have := HSZ.out; omega)]) (by decide)
        have HE := Lib.hid (And.intro e1 e2)
        clear e1 e2 hlen
        go_wp2_with fail
        go_ret2
        rw [← HLE.out.1, ← HLE.out.2, HE.out.1, HE.out.2]
        exact made_none w w (Below.refl _ _)
      · have hlI : (bs.size : Int) ≤ (m : Int) := by omega
        obtain ⟨e1, e2⟩ := txt_ok s m (by unfold txtE; rw [if_neg (by intro h; rcases h with h | h | h; (omega); (omega); (exact HN.out h)), if_neg (by have := HSZ.out; omega)])
        have HE := Lib.hid (And.intro e1 e2)
        have HSM : Hid (s.length ≤ m) := Lib.hid (by have := HSZ.out; omega)
        have HF := Lib.hid (FillAt.start w s m)
        have hm512 : m ≤ 512 := by omega
        clear e1 e2 hlen
        go_wp2_with fail
        go_loopw [8] (fun i wr => FillLoop w s m i wr) (fun i _ => bs.size - (intOf i).toNat)
        case atStart => exact ⟨0, by omega, rfl, HF.out⟩
        case round =>
          clear HF
          obtain ⟨j, hj, rfl, hF⟩ := hrel
          have HF := Lib.hid hF
          clear hF
          by_cases hjl : j < bs.size
          · have hjI : (j : Int) < (bs.size : Int) := by omega
            have hj2 : j < s.length := by have := HSZ.out; omega
            have hi := HIX.out j hj2
            obtain ⟨vc, hc⟩ := HF.out.cell j (by have := HSM.out; omega) hj HSM.out
            have hf := HF.out.free j
            have HST := Lib.hid (HF.out.step hj2 HSM.out)
            have hjm : (j : Int) < (m : Int) := by omega
            generalize s.getD j 0 = x at *
            go_wp2_with fail
            exact ⟨⟨j + 1, hj2, by go_num, HST.out⟩, by simp [intOf]; omega⟩
          · obtain rfl : j = bs.size := by have := HSZ.out; omega
            clear hjl
            go_wp2_with fail
            go_ret2
            rw [← HLE.out.1, ← HLE.out.2, HE.out.1, HE.out.2]
            have hlen : (s ++ List.replicate (m - s.length) 0).length = m := by have := HSM.out; simp; omega
            have hrow := HF.out.row
            rw [HSZ.out, List.take_length] at hrow
            refine ⟨_, rfl, .inr ⟨w.heap.size, m, _, (0, 0), by rw [hlen]; rfl, Nat.le_refl _, hrow, .inl rfl, by omega, by unfold maxLen; omega, by simp only [List.size_toArray, bl_length]; omega, ?_⟩, HF.out.below⟩
            rw [hlen]
            exact List.take_of_length_le (by rw [bl_length, hlen]; exact Nat.le_refl _)
end Go.Proofs.YtkkelmlkpehcpaaDoor
