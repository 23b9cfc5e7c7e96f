/-
  The contract of (*sha.State).take: a State that has taken a message takes more bytes.
-/
import Derived.Test.YtdkajbhhmgmohaaDoorRest
import Derived.Deep.RegionHeldLaw
namespace Go.Proofs.YtdkajbhhmgmohaaDoor
open Go.RowKit Sha

/-- A State in memory that has taken these bytes. -/
def StAt (gs T : Nat) (w : World) (msg : List UInt8) : Prop := ∃ s rest, MsgSt msg s rest ∧ w.heap[gs]? = some (.cells (stc true s rest msg.length) T (0, 0))

theorem SlB.drew {gs : Nat} {w : World} {v : Value} {bs : List UInt8} (h : SlB gs w v bs) : SlB gs w.drew v bs := h
theorem KAt.drew {w : World} (h : KAt w) : KAt w.drew := h
theorem row_drew {w : World} {g : Nat} {o : Obj} (h : w.heap[g]? = some o) : w.drew.heap[g]? = some o := h
theorem Only.of_drew {g : Nat} {w w' : World} (h : Only g w.drew w') : Only g w w' := ⟨h.os, h.tape, h.output, h.size, h.block⟩
/-- The end of take: the whole blocks of what is left are worked in, the rest waits. -/
theorem take_end {gs T : Nat} {w w1 w2 w3 : World} {msg bs M b1 rest : List UInt8} {q n : Nat} (hMb : M ++ b1 = msg ++ bs) (hM : M.length = 64 * q) (hr : rest.length = 64) (hn : n = (msg ++ bs).length)
    (h1 : Only gs w w1) (h2 : Only gs w1 w2) (h3 : Only gs w2 w3)
    (hrow : w3.heap[gs]? = some (.cells (stc true (blocksTo (blocksTo h0 M q) b1 (b1.length / 64)) (rest.take 0 ++ (b1.drop (64 * (b1.length / 64))).take (min (b1.drop (64 * (b1.length / 64))).length 64) ++ rest.drop (0 + min (b1.drop (64 * (b1.length / 64))).length 64)) n) T (0, 0))) :
    Only gs w w3 ∧ StAt gs T w3 (msg ++ bs) := by
  subst hn
  exact ⟨(h1.trans h2).trans h3, _, _, by rw [← hMb]; exact fin_aligned M b1 rest q hM hr, hrow⟩

set_option maxRecDepth 100000 in
set_option maxHeartbeats 1500000 in
theorem take_walk (gs T : Nat) (msg : List UInt8) (v : Value) (bs : List UInt8) (w : World) (hv : SlB gs w v bs)
    (hS : StAt gs T w msg) (hK : KAt w) (hgs : gs ≠ 2) (hlen : msg.length + bs.length ≤ 1099511627776) :
    Calls Tryd.prog 34 #[.pointer (some ⟨gs, 0, none⟩), v] w fun e w' => e = .returned (.tuple #[]) ∧ Only gs w w' ∧ StAt gs T w' (msg ++ bs) := by
  obtain ⟨s, rest, hM, hrow⟩ := hS
  have c73 : w.cell? ⟨gs, 73, none⟩ = some (.int .u64 (msg.length : Int)) := (cell_of_row _ _ _ _ _ _ hrow).trans (stc_count _ _ _ _ hM.len)
  have f73 : w.frozen? ⟨gs, 73, none⟩ = false := frozen_of_row _ _ _ _ _ hrow
  have HR := Lib.hid hrow
  clear hrow
  have hvl : ∃ p cap, v = .slice p bs.length cap := by
    rcases hv with ⟨g, o, cap, rfl, _⟩ | ⟨p, rfl, rfl⟩
    · exact ⟨_, _, rfl⟩
    · exact ⟨_, _, rfl⟩
  obtain ⟨p, cap, rfl⟩ := hvl
  have HV := Lib.hid hv
  clear hv
  by_cases h0 : msg.length % 64 = 0
  · have hqi : (msg.length : Int) % 64 = 0 := by omega
    have HQ := Lib.hid h0
    generalize hml : msg.length = m at *
    generalize hbl : bs.length = b at *
    have HM := Lib.hid hml
    have HL := Lib.hid hbl
    clear hml hbl h0
    have HO1 : Hid (Only gs w (w.setCell ⟨gs, 73, none⟩ (.int .u64 ((m : Int) + (b : Int))))) := Lib.hid ((Only.refl gs w).setCell _ _)
    have HS1 : Hid ((w.setCell ⟨gs, 73, none⟩ (.int .u64 ((m : Int) + (b : Int)))).heap[gs]? = some (.cells (stc true s rest (m + b)) T (0, 0))) :=
      Lib.hid ((heap_setCell_same _ _ _ _ _ _ HR.out).trans (by rw [← Int.natCast_add, stc_setc _ _ _ _ _ hM.len]))
    have al : Tryd.prog.arrayLen 53 = 64 := by kernel_rfl
    go_enter Tryd.func34, Tryd.ntmps34
    go_wp2_with fail
    generalize hw1 : w.setCell ⟨gs, 73, none⟩ (.int .u64 ((m : Int) + (b : Int))) = w1 at *
    have HV1 := Lib.hid (HV.out.only HO1.out)
    have HK1 := hK.only HO1.out hgs
    clear hw1 HV HR c73 f73 hK
    go_region_law (first | (refine step_copy_rest rfl (.tmp 47) (.tmp 51) rfl gs 0 64 64 T true _ rest (m + b) _ (bs.drop (64 * (bs.length / 64))) rfl rfl hv2 hr2 (by rw [hM.len]) _ rfl ?_; intro w3 ho3 hr3) | (go_simp; go_at_call 54; refine (each_walk gs T true s rest (m + b) _ bs _ HV1.out.drew (row_drew HS1.out) HK1.drew hgs).mono ?_; rintro e w2 ⟨v2, rfl, hv2, ho2, hr2⟩))
    go_wp2_with fail
    go_end0
    have hs := hM.hash
    have hr4 := hr3.out
    rw [hs, HM.out] at hr4
    exact ⟨rfl, take_end (n := m + b) rfl (by rw [HM.out]; have := HQ.out; omega) hM.len (by rw [List.length_append, HM.out, HL.out]) HO1.out ho2.of_drew ho3 hr4⟩
  · obtain ⟨q, hq⟩ : ∃ q, q = msg.length % 64 := ⟨_, rfl⟩
    have HQ := Lib.hid hq
    have hq1 : 0 < q := by omega
    have hq2 : q < 64 := by omega
    have hqi : (msg.length : Int) % 64 = (q : Int) := by omega
    clear hq
    generalize hml : msg.length = m at *
    generalize hbl : bs.length = b at *
    have HM := Lib.hid hml
    have HL := Lib.hid hbl
    clear hml hbl h0
    have al : Tryd.prog.arrayLen 53 = 64 := by kernel_rfl
    have hq3 : (q : Int) ≤ (64 : Int) := by omega
    have hq4 : (0 : Int) < (q : Int) := by omega
    have HO1 : Hid (Only gs w (w.setCell ⟨gs, 73, none⟩ (.int .u64 ((m : Int) + (b : Int))))) := Lib.hid ((Only.refl gs w).setCell _ _)
    have HS1 : Hid ((w.setCell ⟨gs, 73, none⟩ (.int .u64 ((m : Int) + (b : Int)))).heap[gs]? = some (.cells (stc true s rest (m + b)) T (0, 0))) :=
      Lib.hid ((heap_setCell_same _ _ _ _ _ _ HR.out).trans (by rw [← Int.natCast_add, stc_setc _ _ _ _ _ hM.len]))
    obtain ⟨c, hc⟩ : ∃ c, min bs.length (64 - q) = c := ⟨_, rfl⟩
    have HC := Lib.hid hc
    have hc1 : c ≤ b := by have := HL.out; omega
    have hc2 : c ≤ 64 - q := by omega
    clear hc
    by_cases hfull : q + c < 64
    · go_enter Tryd.func34, Tryd.ntmps34
      go_wp2_with (refine wpList_copy_rest rfl (.tmp 28) (.tmp 29) rfl gs q (64 - q) (64 - q) T true s rest (m + b) (.slice p b cap) bs rfl rfl (HV.out.only HO1.out) HS1.out (by rw [hM.len]; omega) c HC.out ?_; intro w1 ho1 hr1)
      have hst : StAt gs T w1 (msg ++ bs) := by
        have := fin_short hM bs (by rw [HM.out, ← HQ.out, HC.out]; exact hfull)
        rw [HM.out, ← HQ.out, HC.out] at this
        exact ⟨s, _, this, by rw [List.length_append, HM.out, HL.out]; exact hr1.out⟩
      exact bodyPost_ret (v := .tuple #[]) (results_none Tryd.results34 _ _ _) rfl ⟨rfl, HO1.out.trans ho1, hst⟩
    · have HCQ : Hid (c = 64 - q) := Lib.hid (by omega)
      have hge : (64 : Int) ≤ (q : Int) + (c : Int) := by omega
      obtain ⟨f1, f2, f3, f4, f5⟩ := fin_full hM bs (by rw [HM.out, ← HQ.out, HC.out]; exact hfull)
      rw [HM.out, ← HQ.out, ← HCQ.out] at f2 f3 f4 f5
      have F2 := Lib.hid f2
      have F3 := Lib.hid f3
      have F4 := Lib.hid f4
      have F5 := Lib.hid f5
      clear f1 f2 f3 f4 f5
      go_enter Tryd.func34, Tryd.ntmps34
      go_wp2_with (first | (refine wpList_copy_rest rfl (.tmp 28) (.tmp 29) rfl gs q (64 - q) (64 - q) T true s rest (m + b) (.slice p b cap) bs rfl rfl (HV.out.only HO1.out) HS1.out (by rw [hM.len]; omega) c HC.out ?_; intro w1 ho1 hr1) | fail)
      generalize hB : msg.drop (64 * (m / 64)) ++ bs.take c = blk at *
      have HO2 : Hid (Only gs w w1) := Lib.hid (HO1.out.trans ho1)
      have hr2 : w1.heap[gs]? = some (.cells (stc true s blk (m + b)) T (0, 0)) := by rw [← F3.out]; exact hr1.out
      have hby : BytesAt w1 gs 9 blk := fun i hi => (cell_of_row _ _ _ _ _ _ hr2).trans (stc_rest _ _ _ _ _ hi)
      refine (press_walk gs gs 9 64 T true s blk (m + b) blk _ F5.out (Nat.le_refl _) hby hr2 (hK.only HO2.out hgs)).mono ?_
      rintro e w2 ⟨rfl, ho3, hr3⟩
      have HO3 : Hid (Only gs w w2) := Lib.hid (HO2.out.trans ho3)
      have HR3 := Lib.hid hr3
      have HV3 := Lib.hid (HV.out.only HO3.out)
      clear hr3 ho3 hby hr2 HO2 ho1 hr1
      have hb0 : 0 < b := by omega
      obtain ⟨g, o, cap', e1, h2, h3, h4⟩ | ⟨p', e1, e2⟩ := HV3.out
      rotate_left
      · have := HL.out; rw [e2] at this; simp at this; omega
      · obtain ⟨rfl, e3, rfl⟩ : p = some ⟨g, o, none⟩ ∧ b = bs.length ∧ cap = cap' := by simpa using e1
        have h2' : b ≤ cap := by omega
        replace h3 : g ≠ gs := h3 (by omega)
        have h3' := h4.drop c
        clear e1 e3 h2 HV3 h4
        have hbl : (bs.drop c).length = b - c := by rw [List.length_drop, HL.out]
        have HK3 := hK.only HO3.out hgs
        have hcap0 : (0 : Int) ≤ (c : Int) := by omega
        have hcap1 : (c : Int) ≤ (b : Int) := by omega
        by_cases hcc : cap = c
        · have hbc : b = c := by omega
          have HV4 : Hid (SlB gs w2 (.slice (some ⟨g, o, none⟩) 0 0) (bs.drop c)) := Lib.hid (.inl ⟨g, o, 0, by rw [hbl, hbc, Nat.sub_self], by omega, fun _ => h3, fun i hi => by omega⟩)
          clear hbl
          go_wp2_with fail
          clear hbc hcc
          go_region_law (first | (refine step_copy_rest rfl (.tmp 47) (.tmp 51) rfl gs 0 64 64 T true _ blk (m + b) _ ((bs.drop c).drop (64 * ((bs.drop c).length / 64))) rfl rfl hv5 hr5 (by rw [F5.out]) _ rfl ?_; intro w6 ho6 hr6) | (go_simp; go_at_call 54; refine (each_walk gs T true (compress s blk) blk (m + b) _ (bs.drop c) _ HV4.out.drew (row_drew HR3.out) HK3.drew hgs).mono ?_; rintro e w5 ⟨v5, rfl, hv5, ho5, hr5⟩))
          go_wp2_with fail
          go_end0
          have hr7 := hr6.out
          rw [F4.out] at hr7
          exact ⟨rfl, take_end (n := m + b) (by rw [List.append_assoc, List.take_append_drop]) F2.out F5.out (by rw [List.length_append, HM.out, HL.out]) HO3.out ho5.of_drew ho6 hr7⟩
        · have HV4 : Hid (SlB gs w2 (.slice (some ⟨g, o + c, none⟩) (b - c) (cap - c)) (bs.drop c)) := Lib.hid (.inl ⟨g, o + c, cap - c, by rw [hbl], by omega, fun _ => h3, h3'⟩)
          clear hbl
          go_wp2_with fail
          go_region_law (first | (refine step_copy_rest rfl (.tmp 47) (.tmp 51) rfl gs 0 64 64 T true _ blk (m + b) _ ((bs.drop c).drop (64 * ((bs.drop c).length / 64))) rfl rfl hv5 hr5 (by rw [F5.out]) _ rfl ?_; intro w6 ho6 hr6) | (go_simp; go_at_call 54; refine (each_walk gs T true (compress s blk) blk (m + b) _ (bs.drop c) _ HV4.out.drew (row_drew HR3.out) HK3.drew hgs).mono ?_; rintro e w5 ⟨v5, rfl, hv5, ho5, hr5⟩))
          go_wp2_with fail
          go_end0
          have hr7 := hr6.out
          rw [F4.out] at hr7
          exact ⟨rfl, take_end (n := m + b) (by rw [List.append_assoc, List.take_append_drop]) F2.out F5.out (by rw [List.length_append, HM.out, HL.out]) HO3.out ho5.of_drew ho6 hr7⟩
end Go.Proofs.YtdkajbhhmgmohaaDoor
