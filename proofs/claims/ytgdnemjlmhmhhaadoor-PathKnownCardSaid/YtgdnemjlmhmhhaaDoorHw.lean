/-
  strings.SplitSeq at a slash.
-/
import Derived.Test.YtgdnemjlmhmhhaaDoorHv
namespace Go.Proofs.YtgdnemjlmhmhhaaDoor
open Go.RowKit
attribute [local go_sem] Oper.semAt_some

def encS (L : List (List UInt8)) (k : Nat) : Array Value := #[.string (sb (L.getD k []))]
def leftS (B : Nat) (w : World) : Nat := match w.cell? ⟨B, 0, none⟩ with | some (.string b) => b.size | _ => 0
theorem boxed_only {S : Nat → Prop} {W W' : World} {B : Nat} {t : TypeId} {v : Value} (h : Boxed W B t v) (ho : OnlyS S W W') (hB : ¬ S B) : Boxed W' B t v := (ho.block B h.lt hB).trans h
theorem parts_ne (l : List UInt8) : Pt.parts l ≠ [] := fun h => by have := parts_len l; rw [h] at this; simp at this
set_option maxRecDepth 100000 in
set_option maxHeartbeats 4000000 in
theorem split1_in (n : Nat) (hn : 3 ≤ n) (S : Nat → Prop) (l Bs Bp Bv : Nat) (raw : List UInt8) (hr : raw.length ≤ 100000) (hSs : ¬ S Bs) (hSp : ¬ S Bp) (hSv : ¬ S Bv) (hp : Bp ≠ Bs) (hv : Bv ≠ Bs) (J Jx : Nat → World → Prop)
    (hJs : ∀ k W1 v, J k W1 → J k (W1.setCell ⟨Bs, 0, none⟩ v))
    (hY : ∀ k W1, J k W1 → k < (Pt.parts raw).length → YieldAt Fence.wide (n - 1) Tryd.prog l (encS (Pt.parts raw) k) W1 fun e W' => (e = .returned (.bool true) ∧ J (k + 1) W' ∧ OnlyS S W1 W') ∨ (e = .returned (.bool false) ∧ Jx k W'))
    (W : World) (hbs : Boxed W Bs 9 (.string (sb raw))) (hbp : Boxed W Bp 9 (.string ⟨#[47]⟩)) (hbv : Boxed W Bv 3 (.int .i64 0)) (h0 : J 0 W) :
    CallsIn Fence.wide n Tryd.prog 79 #[.func (.yield l) #[] #[], .pointer (some ⟨Bp, 0, none⟩), .pointer (some ⟨Bs, 0, none⟩), .pointer (some ⟨Bv, 0, none⟩)] W fun e W' => (∃ v, e = .returned v) ∧ (J (Pt.parts raw).length W' ∨ ∃ k, k < (Pt.parts raw).length ∧ Jx k W') := by
  refine callsIn_of_wp Tryd.func79 rfl trivial ?_ rfl
  simp only [Tryd.ntmps79, List.size_toArray, List.length_cons, List.length_nil, Nat.reduceAdd, Nat.reduceSub, Array.replicate_succ, Array.replicate_zero, List.push_toArray, List.append_toArray, List.nil_append, List.cons_append]
  have h1n : 1 ≤ n := by omega
  have hcp := hbp.cell
  have hsz1 : ((⟨#[47]⟩ : ByteArray).size : Int) = 1 := by rfl
  obtain ⟨K, hK⟩ : ∃ K, (Pt.parts raw).length = K := ⟨_, rfl⟩
  have HK := Lib.hid hK
  rw [hK] at hY ⊢
  have HRR := Lib.hid hr
  have HBX := Lib.hid (And.intro hbs (And.intro hbp hbv))
  have HY := Lib.hid hY
  have HJ := Lib.hid hJs
  have H0 := Lib.hid h0
  clear hK hbs hbp hbv hr hY hJs h0
  gi_wp2
  gi_loopw [7] (fun _ wr => ∃ (k : Nat) (pre : List (List UInt8)) (rest : List UInt8), pre.length = k ∧ Pt.parts raw = pre ++ Pt.parts rest ∧ rest.length ≤ raw.length ∧ Boxed wr Bs 9 (.string (sb rest)) ∧ Boxed wr Bp 9 (.string ⟨#[47]⟩) ∧ Boxed wr Bv 3 (.int .i64 0) ∧ J k wr) (fun _ wr => leftS Bs wr)
  case atStart => exact ⟨0, [], raw, rfl, rfl, Nat.le_refl _, HBX.out.1, HBX.out.2.1, HBX.out.2.2, H0.out⟩
  case round =>
    obtain ⟨k, pre, rest, hpre, hpt, hrl, hbs, hbp, hbv, hJ⟩ := hrel
    have hkK : k < K := by
      have h1 := HK.out
      rw [hpt, List.length_append, hpre] at h1
      have := parts_ne rest
      have : 0 < (Pt.parts rest).length := List.length_pos_iff.2 this
      omega
    obtain ⟨fn, tmps, assign, body, hy, hR⟩ := HY.out k wr hJ hkK
    have hgd : (Pt.parts raw).getD k [] = (Pt.parts rest).getD 0 [] := by
      rw [hpt, List.getD_eq_getElem?_getD, List.getElem?_append_right (by omega), ← hpre, Nat.sub_self, ← List.getD_eq_getElem?_getD]
    have hcs := hbs.cell
    have hcp := hbp.cell
    have hcv := hbv.cell
    have hfs := hbs.frozen
    have HI := Lib.hid (index_walk (sb rest) wr)
    rw [sb_data] at HI
    have hsr := sb_size rest
    have HL : Hid (leftS Bs wr = rest.length) := Lib.hid (by unfold leftS; rw [hcs]; exact hsr)
    have HB := Lib.hid (And.intro hbs (And.intro hbp hbv))
    have HPT := Lib.hid hpt
    have HPR := Lib.hid hpre
    have HRL := Lib.hid hrl
    have hrr := HRR.out
    have HRD := Lib.hid hR
    unfold encS at hy
    rw [hgd] at hy
    clear hJ hR hgd hbs hbp hbv hpt hpre
    rcases first_spec rest 47 with ⟨h1, h2⟩ | ⟨a, b, h1, h2, h3⟩
    · rw [h2] at HI
      rw [parts_none rest h1] at hy HPT
      have hy2 : _ = _ := hy
      simp only [List.getD_cons_zero] at hy
      have HE : Hid (k + 1 = K) := Lib.hid (by
        have h1 := HK.out
        rw [HPT.out, List.length_append, HPR.out] at h1
        simpa using h1)
      clear h1 h2 hy2 hsr HB HPT HPR HL
      generalize sb rest = bx at *
      gi_wp2_with (refine ⟨trivial, ?_⟩; gi_at_call 59; refine (callsIn_wide.2 HI.out).mono ?_; rintro e w' ⟨rfl, hw⟩; rw [hw]; clear hw)
      refine HRD.out.mono ?_
      rintro e W3 (⟨rfl, hJ3, hk3⟩ | ⟨rfl, hJx3⟩)
      · gi_wp2
        go_end0
        exact ⟨⟨_, rfl⟩, .inl (by have := HE.out; rw [← this]; exact hJ3)⟩
      · gi_wp2
        go_end0
        exact ⟨⟨_, rfl⟩, .inr ⟨k, hkK, hJx3⟩⟩
    · have hlb : b.length + 1 ≤ rest.length := by rw [h1]; simp
      have hla : a.length ≤ rest.length := by rw [h1]; simp
      have hx1 : (sb rest).extract 0 a.length = sb a := by rw [sb_extract, h1]; simp
      have hx2 : (sb rest).extract (a.length + 1) (sb rest).size = sb b := by
        rw [sb_extract, sb_size, h1]
        rw [List.drop_append, List.drop_eq_nil_of_le (by omega), List.nil_append, Nat.add_sub_cancel_left, List.drop_succ_cons, List.drop_zero, List.take_of_length_le (by simp; omega)]
      rw [h3] at HI
      have hpp := parts_at a b h2
      rw [← h1] at hpp
      rw [hpp] at hy HPT
      simp only [List.getD_cons_zero] at hy
      have HBL := Lib.hid hlb
      have HX2 := Lib.hid hx2
      have hbsz : (a.length : Int) + 1 ≤ ((sb rest).size : Int) := by rw [sb_size, h1]; simp; omega
      have hbsz2 : ((sb rest).size : Int) ≤ 100000 := by rw [sb_size]; omega
      have hnl : ¬ ((a.length : Int) < 0) := by omega
      obtain ⟨A, hA⟩ : ∃ A, a.length = A := ⟨_, rfl⟩
      rw [hA] at HI hx1 HX2 hbsz hnl
      clear h1 h2 h3 hpp hsr hlb hla hx2 hrl hrr hA
      generalize sb rest = bx at *
      gi_wp2_with (refine ⟨trivial, ?_⟩; gi_at_call 59; refine (callsIn_wide.2 HI.out).mono ?_; rintro e w' ⟨rfl, hw⟩; rw [hw]; clear hw)
      refine HRD.out.mono ?_
      rintro e W3 (⟨rfl, hJ3, hk3⟩ | ⟨rfl, hJx3⟩)
      · have B1 := boxed_only HB.out.1 hk3 hSs
        have B2 := boxed_only HB.out.2.1 hk3 hSp
        have B3 := boxed_only HB.out.2.2 hk3 hSv
        have hcs3 := B1.cell
        have hfs3 := B1.frozen
        have hcp3 := B2.cell
        have HBB := Lib.hid (And.intro B1 (And.intro B2 B3))
        have HJ3 := Lib.hid (HJ.out _ _ (.string (sb b)) hJ3)
        have hx3 := HX2.out
        clear B1 B2 B3 hJ3
        gi_wp2
        go_roundw
        case rel => exact ⟨k + 1, pre ++ [a], b, by rw [List.length_append, HPR.out]; rfl, by rw [HPT.out, List.append_assoc]; rfl, by have := HBL.out; have := HRL.out; omega, HBB.out.1.set _, HBB.out.2.1.other (by omega) _, HBB.out.2.2.other (by omega) _, HJ3.out⟩
        case measure =>
          rw [HL.out]
          unfold leftS
          rw [(HBB.out.1.set (.string (sb b))).cell]
          show (sb b).size < _
          rw [sb_size]
          have := HBL.out; omega
      · gi_wp2
        refine bodyPost_ret (results_none rfl _ _ _) rfl ?_
        exact ⟨⟨_, rfl⟩, .inr ⟨k, hkK, hJx3⟩⟩
end Go.Proofs.YtgdnemjlmhmhhaaDoor
