/-
  PaxPuts.
-/
import Derived.Test.YtjgphicmkmdeiaaDoorPfh
import Derived.Test.YtjgphicmkmdeiaaDoorPfb
import Derived.Test.YtjgphicmkmdeiaaDoorPz
namespace Go.Proofs.YtjgphicmkmdeiaaDoor
open Go.RowKit Go.Maps Inv

/-- What both packages' Put answers, of the first records. -/
def pe (l : List Px.Rec) : Nat := if l.all (fun r => Px.sz r != 0) then 0 else 1
def px (l : List Px.Rec) : List UInt8 := if l.all (fun r => Px.sz r != 0) then Px.txts l else []
theorem pe_ok {l : List Px.Rec} (h : ∀ r ∈ l, Px.sz r ≠ 0) : pe l = 0 ∧ px l = Px.txts l := by
  have : l.all (fun r => Px.sz r != 0) = true := by rw [List.all_eq_true]; intro r hr; simpa using h r hr
  unfold pe px; rw [this]; exact ⟨rfl, rfl⟩
theorem pe_no {l : List Px.Rec} (h : ∃ r ∈ l, Px.sz r = 0) : pe l = 1 ∧ px l = [] := by
  obtain ⟨r, hr, h0⟩ := h
  have : l.all (fun r => Px.sz r != 0) = false := by rw [List.all_eq_false]; exact ⟨r, hr, by simp [h0]⟩
  unfold pe px; rw [this]; exact ⟨rfl, rfl⟩
theorem SlV.nil0 (w : World) : SlV w (.slice none 0 0) (bl []) := .inr ⟨none, rfl, rfl⟩
theorem put_few (w : World) (v : Value) (l : List Px.Rec) (hv : SlR w v l) (hl : l.length ≤ 20) (hz : ∀ r ∈ l, r.1.length ≤ 260 ∧ r.2.length ≤ 1200) (hP : PxAt w) :
    Calls Tryd.prog 11 #[v] w fun e w' => ∃ u, e = .returned (.tuple #[u, .int .i64 (pe l : Int)]) ∧ SlV w' u (bl (px l)) ∧ Below w.heap.size w w' := by
  refine (put_walk w v l hv (by omega) (fun r hr => by have := hz r hr; omega) hP).mono ?_
  rintro e w' ⟨hb, ⟨h, rfl⟩ | ⟨h, hbig, rfl⟩ | ⟨h, _, u, rfl, ho⟩⟩
  · obtain ⟨h1, h2⟩ := pe_no h
    rw [h1, h2]
    exact ⟨_, rfl, SlV.nil0 _, hb⟩
  · exfalso
    have h1 := txts_few l h hz
    rw [txts_len l h] at h1
    omega
  · obtain ⟨h1, h2⟩ := pe_ok h
    rw [h1, h2]
    exact ⟨u, rfl, OwnM.toV (OwnM.of_own ho), hb⟩
theorem rput_few (w : World) (v : Value) (l : List Px.Rec) (hv : SlR w v l) (hl : l.length ≤ 20) (hz : ∀ r ∈ l, r.1.length ≤ 260 ∧ r.2.length ≤ 1200) :
    Calls Tryd.prog 12 #[v] w fun e w' => ∃ u, e = .returned (.tuple #[u, .int .i64 (pe l : Int)]) ∧ SlV w' u (bl (px l)) ∧ Below w.heap.size w w' := by
  refine (rput_walk w v l hv hl hz).mono ?_
  rintro e w' ⟨hb, ⟨h, rfl⟩ | ⟨h, u, rfl, ho⟩⟩
  · obtain ⟨h1, h2⟩ := pe_no h
    rw [h1, h2]
    exact ⟨_, rfl, SlV.nil0 _, hb⟩
  · obtain ⟨h1, h2⟩ := pe_ok h
    rw [h1, h2]
    exact ⟨u, rfl, OwnM.toV (OwnM.of_own ho), hb⟩
theorem few_len (l : List Px.Rec) : (fewL l).length ≤ 20 := by unfold fewL; rw [List.length_map, List.length_take]; omega
theorem few_small (l : List Px.Rec) : ∀ r ∈ fewL l, r.1.length ≤ 260 ∧ r.2.length ≤ 1200 := by
  intro r hr
  unfold fewL at hr
  obtain ⟨x, _, rfl⟩ := List.mem_map.1 hr
  unfold cutR
  simp only [List.length_take]
  omega
set_option maxRecDepth 100000 in
set_option maxHeartbeats 4000000 in
theorem puts_walk (w : World) (v : Value) (l : List Px.Rec) (key : List UInt8) (hv : SlR w v l) (hl : l.length ≤ maxLen) (hz : ∀ r ∈ l, r.1.length ≤ maxLen ∧ r.2.length ≤ maxLen) (hP : PxAt w) :
    Calls Tryd.prog 3 #[v, .string ⟨key.toArray⟩] w (TellsPost w) := by
  have HFW := Lib.hid (few_walk w v l hv hl hz)
  have HP := Lib.hid hP
  have hfl := few_len l
  have hfs := few_small l
  unfold FewPost at HFW
  obtain ⟨F, hF⟩ : ∃ F, fewL l = F := ⟨_, rfl⟩
  rw [hF] at hfl hfs HFW
  have HFL := Lib.hid hfl
  have HFS := Lib.hid hfs
  obtain ⟨n, hn⟩ : ∃ n, F.length = n := ⟨_, rfl⟩
  have HN := Lib.hid hn
  have hnI : (n : Int) ≤ 20 := by omega
  obtain ⟨E, hE⟩ : ∃ E, pe F = E := ⟨_, rfl⟩
  have HE := Lib.hid hE
  obtain ⟨bk, hbk⟩ : ∃ x, (⟨key.toArray⟩ : ByteArray) = x := ⟨_, rfl⟩
  have HBK := Lib.hid hbk
  obtain ⟨K, hK⟩ : ∃ K, lastK F key = K := ⟨_, rfl⟩
  have HK := Lib.hid hK
  obtain ⟨K1, K2⟩ := K
  obtain ⟨bL, hbL⟩ : ∃ x, (⟨K1.toArray⟩ : ByteArray) = x := ⟨_, rfl⟩
  have HBL := Lib.hid hbL
  obtain ⟨bX, hbX⟩ : ∃ x, (⟨(px F).toArray⟩ : ByteArray) = x := ⟨_, rfl⟩
  have HBX := Lib.hid hbX
  rw [hbk]
  have hEE : ((E : Int) == (E : Int)) = true := beq_self_eq_true _
  have hLL : (bL.toList == bL.toList) = true := beq_self_eq_true _
  have hXX : (bX.toList == bX.toList) = true := beq_self_eq_true _
  have hKK : (K2 == K2) = true := beq_self_eq_true _
  clear hv hl hz hP hfl hfs hF hn hE hbk hK hbL hbX
  go_enter Tryd.func3, Tryd.ntmps3
  go_wp2_with (first
    | ((with_reducible refine HFW.out.mono ?_); rintro e w1 ⟨va, vb, rfl, ha, hb, hB⟩; obtain ⟨p1, c1, hv1⟩ := own_shape ha; obtain ⟨p2, c2, hv2⟩ := own_shape hb; subst hv1; subst hv2; rw [HN.out] at ha hb; have hle1 := ha.toR.le; have hle2 := hb.toR.le; rw [HN.out]; have HA1 := Lib.hid ha.toR; have HA2 := Lib.hid hb.toR; have HB1 := Lib.hid hB; have HC1 := Lib.hid (put_few w1 (.slice p1 n c1) F HA1.out HFL.out HFS.out (HP.out.below hB (Nat.le_refl _))); rw [HE.out] at HC1; clear ha hb hB)
    | ((with_reducible refine HC1.out.mono ?_); rintro e w2 ⟨u1, rfl, hs1, hb⟩; have HS1 := Lib.hid hs1; have HB2 := Lib.hid hb; have HC2 := Lib.hid (rput_few w2 (.slice p2 n c2) F (HA2.out.below hb (Nat.le_refl _)) HFL.out HFS.out); rw [HE.out] at HC2; clear hs1 hb)
    | ((with_reducible refine HC2.out.mono ?_); rintro e w3 ⟨u2, rfl, hs2, hb⟩; have HS2 := Lib.hid hs2; have HS12 := Lib.hid (HS1.out.below hb (Nat.le_refl _)); have HB3 : Hid (Below w1.heap.size w1 w3) := Lib.hid (HB2.out.trans (hb.mono HB2.out.size)); have HC3 := Lib.hid (last_walk F (by have := HFL.out; omega) (.slice p1 n c1) key w3 (HA1.out.below HB3.out (Nat.le_refl _))); unfold LastPost at HC3; rw [HK.out, HBK.out] at HC3; dsimp only at HC3; rw [HBL.out] at HC3; clear hs2 hb)
    | ((with_reducible refine HC3.out.mono ?_); rintro e w4 ⟨rfl, hb⟩; have HS22 := Lib.hid (HS2.out.below hb (Nat.le_refl _)); have HS13 := Lib.hid (HS12.out.below hb (Nat.le_refl _)); have HB4 : Hid (Below w1.heap.size w1 w4) := Lib.hid (HB3.out.trans (hb.mono HB3.out.size)); have HC4 := Lib.hid (rlast_walk w4 (.slice p2 n c2) F key (HA2.out.below HB4.out (Nat.le_refl _)) (by have := HFL.out; omega)); rw [HK.out, HBK.out] at HC4; dsimp only at HC4; rw [HBL.out] at HC4; clear hb)
    | ((with_reducible refine HC4.out.mono ?_); rintro e w5 ⟨rfl, hb⟩; subst hb))
  clear HFW HC1 HC2 HC3 HC4
  go_loopw [15] (fun i wr => ∃ j : Nat, j ≤ n ∧ i = .int .i64 (j : Int) ∧ Below w5.heap.size w5 wr) (fun i _ => n - (intOf i).toNat)
  case atStart => exact ⟨0, Nat.zero_le _, rfl, Below.refl _ _⟩
  case round =>
    obtain ⟨j, hj, rfl, hb⟩ := hrel
    have HBR := Lib.hid hb
    clear hb
    have HW : Hid (Below w1.heap.size w1 wr) := Lib.hid (HB4.out.trans (HBR.out.mono HB4.out.size))
    have H5 := Lib.hid HB4.out.size
    by_cases hjn : j < n
    · have hjl : j < F.length := by rw [HN.out]; exact hjn
      obtain ⟨r, hr⟩ : ∃ r, F[j]? = some r := ⟨_, List.getElem?_eq_getElem hjl⟩
      have HV2 := Lib.hid HA1.out
      have HV3 := Lib.hid HA2.out
      obtain ⟨g, o, hp1, -, hcell⟩ := HV2.out.at (by omega)
      obtain ⟨h, p, hp2, -, hcell2⟩ := HV3.out.at (by omega)
      subst hp1 hp2
      obtain ⟨e0, e1⟩ := hcell j r hr
      obtain ⟨f0, f1⟩ := hcell2 j r hr
      have hrm : r ∈ F := List.mem_of_getElem? hr
      have hr2 := HFS.out r hrm
      have hPW := HP.out.below (HB1.out.trans (HW.out.mono HB1.out.size)) (Nat.le_refl _)
      have hS := fun W (hW : Below w5.heap.size wr W) => size_walk r W (by omega) (HP.out.below (HB1.out.trans ((HW.out.trans (hW.mono H5.out)).mono HB1.out.size)) (Nat.le_refl _))
      have hR := fun W => rsize_walk r W (by omega) (by omega)
      obtain ⟨k1, k2⟩ := r
      simp only at e0 e1 f0 f1 hS hR
      obtain ⟨b1, hb1⟩ : ∃ x, (⟨k1.toArray⟩ : ByteArray) = x := ⟨_, rfl⟩
      obtain ⟨b2, hb2⟩ : ∃ x, (⟨k2.toArray⟩ : ByteArray) = x := ⟨_, rfl⟩
      obtain ⟨q, hq⟩ : ∃ q, Px.sz (k1, k2) = q := ⟨_, rfl⟩
      rw [hb1] at e0 f0 hS hR
      rw [hb2] at e1 f1 hS hR
      rw [hq] at hS hR
      have hjI : (j : Int) < (n : Int) := by omega
      have HRG : Hid (∀ a0 : Act, _ → _ → _ → _ → ∀ Q, _ → _) := Lib.hid (fun (a0 : Act) hn x5 x6 x15 Q hQ => puts_region a0 hn wr w5.heap.size HBR.out.size g o h p n c1 c2 j q b1 b2 hjI
        (fun W hW => ⟨((HW.out.trans (hW.mono H5.out)).cell (p := ⟨g, o + j * 2, none⟩) (block_lt_of_cell e0)).trans e0, ((HW.out.trans (hW.mono H5.out)).cell (p := ⟨g, o + j * 2 + 1, none⟩) (block_lt_of_cell e1)).trans e1⟩)
        (fun W hW => ⟨((HW.out.trans (hW.mono H5.out)).cell (p := ⟨h, p + j * 2, none⟩) (block_lt_of_cell f0)).trans f0, ((HW.out.trans (hW.mono H5.out)).cell (p := ⟨h, p + j * 2 + 1, none⟩) (block_lt_of_cell f1)).trans f1⟩) hS hR x5 x6 x15 Q hQ)
      have HJ := Lib.hid hjn
      clear hjn hjl hr HV2 HV3 hcell hcell2 e0 e1 f0 f1 hrm hr2 hPW hS hR hb1 hb2 hq
      go_wp2_with fail
      refine HRG.out _ ?_ ?_ ?_ ?_ _ ?_
      · rfl
      · rfl
      · rfl
      · rfl
      intro W hW
      have HW2 : Hid (Below w5.heap.size w5 W) := Lib.hid (HBR.out.trans hW)
      simp only [putAll, Act.put, List.setIfInBounds_toArray, List.set_cons_zero, List.set_cons_succ]
      go_wp2_with fail
      refine ⟨⟨j + 1, HJ.out, by go_num, HW2.out⟩, ?_⟩
      have := HJ.out
      simp only [intOf]; omega
    · obtain rfl : j = n := by omega
      have hjI : decide ((j : Int) < (j : Int)) = false := decide_eq_false (by omega)
      have hcv1 := run_toString (HS13.out.below HBR.out (Nat.le_refl _))
      have hcv2 := run_toString (HS22.out.below HBR.out (Nat.le_refl _))
      rw [HBX.out] at hcv1 hcv2
      have HBW : Hid (Below w.heap.size w wr) := Lib.hid (HB1.out.trans (HW.out.mono HB1.out.size))
      have HT := Lib.hid (tells_walk wr (HP.out.below HBW.out (Nat.le_refl _)))
      clear hjn hj
      go_wp2_with ((with_reducible refine HT.out.mono ?_); rintro e w6 ⟨rfl, hb⟩; have HB6 := Lib.hid hb; clear hb)
      go_ret
      exact ⟨rfl, HBW.out.trans (HB6.out.mono HBW.out.size)⟩
end Go.Proofs.YtjgphicmkmdeiaaDoor
