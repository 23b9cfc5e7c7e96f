/-
  The document's own Put.
-/
import Derived.Test.YtjgphicmkmdeiaaDoorPfe
import Derived.Test.YtjgphicmkmdeiaaDoorPu
import Derived.Test.YtjgphicmkmdeiaaDoorPff
namespace Go.Proofs.YtjgphicmkmdeiaaDoor
open Go.RowKit Go.Maps Inv

theorem cat5 (d k z : List UInt8) : ((((⟨d.toArray⟩ : ByteArray) ++ ⟨#[32]⟩) ++ ⟨k.toArray⟩) ++ ⟨#[61]⟩) ++ ⟨z.toArray⟩ ++ ⟨#[10]⟩ = (⟨(d ++ 32 :: (k ++ 61 :: (z ++ [10]))).toArray⟩ : ByteArray) := by
  apply ByteArray.ext
  simp only [ByteArray.data_append]
  simp
/-- The document's own Put's answer. -/
def RPutPost (w : World) (l : List Px.Rec) (e : Ending) (w' : World) : Prop := Below w.heap.size w w' ∧
  (((∃ r ∈ l, Px.sz r = 0) ∧ e = .returned (.tuple #[.slice none 0 0, .int .i64 1])) ∨
   ((∀ r ∈ l, Px.sz r ≠ 0) ∧ ∃ u, e = .returned (.tuple #[u, .int .i64 0]) ∧ OwnBy w.heap.size w' u (Px.txts l)))
theorem txts_few (l : List Px.Rec) (h : ∀ r ∈ l, Px.sz r ≠ 0) (hz : ∀ r ∈ l, r.1.length ≤ 260 ∧ r.2.length ≤ 1200) : (Px.txts l).length ≤ l.length * 1500 := by
  induction l with
  | nil => simp [Px.txts]
  | cons r t ih =>
    have hk := Px.sz_pos (h r (by simp))
    have h1 := Px.sz_fix hk
    have h2 := hz r (by simp)
    have h3 : Px.sz r ≤ 10000 := by
      rw [Px.sz_ok hk]; unfold Px.wd
      have a1 : Lib.nDigits (r.1.length + r.2.length + 3) ≤ 20 := Px.dg_lt (k := 19) (by omega)
      have a2 : Lib.nDigits (r.1.length + r.2.length + 3 + Lib.nDigits (r.1.length + r.2.length + 3)) ≤ 20 := Px.dg_lt (k := 19) (by omega)
      omega
    have h4 : Lib.nDigits (Px.sz r) ≤ 5 := Px.dg_lt (k := 4) (by omega)
    rw [Px.txts, List.length_append, Px.txt_len hk, List.length_cons]
    have := ih (fun x hx => h x (by simp [hx])) (fun x hx => hz x (by simp [hx]))
    omega
theorem txts_take_len (l : List Px.Rec) (k : Nat) : (Px.txts (l.take k)).length ≤ (Px.txts l).length := by
  have e : Px.txts l = Px.txts (l.take k) ++ Px.txts (l.drop k) := by rw [← txts_append, List.take_append_drop]
  have := congrArg List.length e
  rw [List.length_append] at this
  omega
theorem dec_len20 (q : Nat) (h : q ≤ 1099511627776) : (Lib.decDigits q).length ≤ 20 := by rw [Px.dec_len]; exact Px.dg_lt (k := 19) (by omega)
theorem bsz (l : List UInt8) : (⟨l.toArray⟩ : ByteArray).size = l.length := by simp [ByteArray.size]
set_option maxRecDepth 100000 in
set_option maxHeartbeats 4000000 in
theorem rput_walk (w : World) (v : Value) (l : List Px.Rec) (hv : SlR w v l) (hl : l.length ≤ 20) (hz : ∀ r ∈ l, r.1.length ≤ 260 ∧ r.2.length ≤ 1200) :
    Calls Tryd.prog 12 #[v] w (RPutPost w l) := by
  obtain ⟨p, cap, rfl⟩ := hv.shape
  have HV := Lib.hid hv
  have HZ := Lib.hid hz
  have HTX := Lib.hid (fun h => txts_few l h hz)
  have hcap := hv.le
  obtain ⟨n, hn⟩ : ∃ n, l.length = n := ⟨_, rfl⟩
  rw [hn] at hcap hl ⊢
  have hnI : (n : Int) ≤ 20 := by omega
  have HN := Lib.hid hn
  clear hv hz hn
  go_enter Tryd.func12, Tryd.ntmps12
  go_wp2_with fail
  go_loopw [5] (fun i wr => ∃ j : Nat, j ≤ n ∧ i = .int .i64 (j : Int) ∧ (∀ r ∈ l.take j, Px.sz r ≠ 0) ∧ Below w.heap.size w wr) (fun i _ => n - (intOf i).toNat)
  case atStart => exact ⟨0, Nat.zero_le _, rfl, by simp, Below.refl _ _⟩
  case round =>
    obtain ⟨j, hj, rfl, hok, hb⟩ := hrel
    have HOK := Lib.hid hok
    have HB := Lib.hid hb
    clear hok hb
    by_cases hjn : j < n
    · have hjl : j < l.length := by rw [HN.out]; exact hjn
      obtain ⟨r, hr⟩ : ∃ r, l[j]? = some r := ⟨_, List.getElem?_eq_getElem hjl⟩
      have HV2 := Lib.hid (HV.out.below HB.out (Nat.le_refl _))
      rw [HN.out] at HV2
      obtain ⟨g, o, rfl, hcap2, hcell⟩ := HV2.out.at (by omega)
      obtain ⟨e0, e1⟩ := hcell j r hr
      have hrm : r ∈ l := List.mem_of_getElem? hr
      have hr2 := HZ.out r hrm
      have HTK : Hid (∀ x ∈ l.take (j + 1), x ∈ l.take j ∨ x = r) := Lib.hid (fun x hx => by
        rw [List.take_add_one, hr, Option.toList_some] at hx
        simpa using hx)
      have HRM := Lib.hid hrm
      have HC := Lib.hid (rsize_walk r wr (by omega) (by omega))
      obtain ⟨k1, k2⟩ := r
      simp only at e0 e1 HC
      obtain ⟨b1, hb1⟩ : ∃ x, (⟨k1.toArray⟩ : ByteArray) = x := ⟨_, rfl⟩
      obtain ⟨b2, hb2⟩ : ∃ x, (⟨k2.toArray⟩ : ByteArray) = x := ⟨_, rfl⟩
      rw [hb1] at e0 HC
      rw [hb2] at e1 HC
      obtain ⟨q, hq⟩ : ∃ q, Px.sz (k1, k2) = q := ⟨_, rfl⟩
      have HQ := Lib.hid hq
      rw [hq] at HC
      have hjI : (j : Int) < (n : Int) := by omega
      clear hr hcell hrm hr2 HV2 hb1 hb2 hq hjl
      by_cases hq0 : q = 0
      · subst hq0
        go_wp2_with ((with_reducible refine HC.out.mono ?_); rintro e w1 ⟨rfl, hb⟩; have HB1 := Lib.hid (HB.out.trans (hb.mono HB.out.size)); clear hb)
        go_ret2
        exact ⟨HB1.out, .inl ⟨⟨_, HRM.out, HQ.out⟩, rfl⟩⟩
      · have hq1 : ((q : Int) == 0) = false := by rw [beq_eq_false_iff_ne]; omega
        go_wp2_with ((with_reducible refine HC.out.mono ?_); rintro e w1 ⟨rfl, hb⟩; have HB1 := Lib.hid (HB.out.trans (hb.mono HB.out.size)); clear hb)
        refine ⟨⟨j + 1, hjn, by go_num, fun x hx => ?_, HB1.out⟩, by simp only [intOf]; omega⟩
        rcases HTK.out x hx with h | h
        · exact HOK.out x h
        · rw [h, HQ.out]; exact hq0
    · obtain rfl : j = n := by omega
      clear hjn hj
      have hlt : l.take j = l := List.take_of_length_le (by rw [HN.out]; exact Nat.le_refl _)
      rw [hlt] at HOK
      clear hlt
      have HTL := Lib.hid (HTX.out HOK.out)
      rw [HN.out] at HTL
      go_wp2_with fail
      go_loopw [4, 6] (fun b i wx => ∃ k : Nat, k ≤ j ∧ i = .int .i64 (k : Int) ∧ OwnBy w.heap.size wx b (Px.txts (l.take k)) ∧ Below w.heap.size w wx) (fun _ i _ => j - (intOf i).toNat)
      case atStart => exact ⟨0, Nat.zero_le _, rfl, ⟨rfl, .inl ⟨rfl, rfl⟩⟩, HB.out⟩
      case round =>
        obtain ⟨k, hk, rfl, ho, hb⟩ := hrel
        obtain ⟨p8, c8, rfl⟩ := own_shape ho
        have HO := Lib.hid ho
        have HBW := Lib.hid hb
        clear ho hb
        by_cases hkj : k < j
        · have hkl : k < l.length := by rw [HN.out]; exact hkj
          obtain ⟨r, hr⟩ : ∃ r, l[k]? = some r := ⟨_, List.getElem?_eq_getElem hkl⟩
          have HV2 := Lib.hid HV.out
          rw [HN.out] at HV2
          obtain ⟨g, o, rfl, hcap2, hcell⟩ := HV2.out.at (by omega)
          obtain ⟨e0, e1⟩ := hcell k r hr
          have hrm : r ∈ l := List.mem_of_getElem? hr
          have hr2 := HZ.out r hrm
          have HST := Lib.hid (txts_step l k r hr)
          have hTk := txts_take_len l k
          have hTL2 := HTL.out
          have HTK : Hid ((Px.txts (l.take k)).length ≤ 30000) := Lib.hid (by omega)
          have HTK1 : Hid ((Px.txts (l.take (k + 1))).length ≤ 30000) := Lib.hid (by have := txts_take_len l (k + 1); omega)
          have hszq : Px.sz r ≤ 1099511627776 := by have := sz_le r (by omega); omega
          have hok2 : Px.okK r.1 = true := Px.sz_pos (HOK.out r hrm)
          have htl := Px.txt_len hok2
          have htx : Px.txt r = Lib.decDigits (Px.sz r) ++ 32 :: (r.1 ++ 61 :: (r.2 ++ [10])) := rfl
          have hdl := dec_len20 (Px.sz r) hszq
          have hS := fun W => rsize_walk r W (by omega) (by omega)
          have hD := fun W => rdigits_walk W (Px.sz r) (by omega)
          obtain ⟨T, hT⟩ : ∃ T, Px.txts (l.take k) = T := ⟨_, rfl⟩
          rw [hT] at HO HTK HST
          rw [hT]
          obtain ⟨k1, k2⟩ := r
          simp only at e0 e1 hS hr2 hD htx hdl hszq
          obtain ⟨q, hq⟩ : ∃ q, Px.sz (k1, k2) = q := ⟨_, rfl⟩
          obtain ⟨tx, htx2⟩ : ∃ tx, Px.txt (k1, k2) = tx := ⟨_, rfl⟩
          rw [hq] at hS hD htx hdl hszq
          rw [htx2] at htx HST htl
          have h5 := cat5 (Lib.decDigits q) k1 k2
          rw [← htx] at h5
          obtain ⟨bd, hbd⟩ : ∃ x, (⟨(Lib.decDigits q).toArray⟩ : ByteArray) = x := ⟨_, rfl⟩
          obtain ⟨bk, hbk⟩ : ∃ x, (⟨k1.toArray⟩ : ByteArray) = x := ⟨_, rfl⟩
          obtain ⟨bz, hbz⟩ : ∃ x, (⟨k2.toArray⟩ : ByteArray) = x := ⟨_, rfl⟩
          have zd : bd.size = (Lib.decDigits q).length := by rw [← hbd, bsz]
          have zk : bk.size = k1.length := by rw [← hbk, bsz]
          have zz : bz.size = k2.length := by rw [← hbz, bsz]
          rw [hbd, hbk, hbz] at h5
          rw [hbd] at hD
          rw [hbk, hbz] at hS
          rw [hbk] at e0
          rw [hbz] at e1
          obtain ⟨s1, e1'⟩ : ∃ x, bd ++ (⟨#[32]⟩ : ByteArray) = x := ⟨_, rfl⟩
          rw [e1'] at h5
          obtain ⟨s2, e2'⟩ : ∃ x, s1 ++ bk = x := ⟨_, rfl⟩
          rw [e2'] at h5
          obtain ⟨s3, e3'⟩ : ∃ x, s2 ++ (⟨#[61]⟩ : ByteArray) = x := ⟨_, rfl⟩
          rw [e3'] at h5
          obtain ⟨s4, e4'⟩ : ∃ x, s3 ++ bz = x := ⟨_, rfl⟩
          rw [e4'] at h5
          obtain ⟨s5, e5'⟩ : ∃ x, s4 ++ (⟨#[10]⟩ : ByteArray) = x := ⟨_, rfl⟩
          have z1 : s1.size = bd.size + 1 := by rw [← e1', ByteArray.size_append]; rfl
          have z2 : s2.size = s1.size + bk.size := by rw [← e2', ByteArray.size_append]
          have z3 : s3.size = s2.size + 1 := by rw [← e3', ByteArray.size_append]; rfl
          have z4 : s4.size = s3.size + bz.size := by rw [← e4', ByteArray.size_append]
          have z5 : s5.size = s4.size + 1 := by rw [← e5', ByteArray.size_append]; rfl
          have h5s : s5.data.toList = tx := by rw [← e5', h5]
          have HSC := Lib.hid (strCells_bl s5 tx h5s)
          have z6 : tx.length = s5.size := by rw [← h5s]; exact (Lib.size_eq s5).symm
          obtain ⟨m, hm⟩ : ∃ m, T.length + s5.size = m := ⟨_, rfl⟩
          have HFIN : Hid (∀ (W : World) (v' : Value), W.ownsRow w.heap.size 5 1 v' m (bl T ++ Lib.strCells s5) → OwnBy w.heap.size W v' (Px.txts (l.take (k + 1)))) := Lib.hid (fun W v' h => by
            rw [HST.out]; unfold OwnBy
            rw [List.length_append, z6, hm, bl_append, ← HSC.out]; exact h)
          have hm3 : m ≤ 30000 := by
            have h9 := HTK1.out
            rw [HST.out, List.length_append] at h9
            omega
          have hmI : decide (16777216 < (m : Int)) = false := decide_eq_false (by omega)
          have hmN : decide (16777216 < m) = false := decide_eq_false (by omega)
          have HM3 := Lib.hid hm3
          have HRG : Hid (∀ a0 : Act, _ → _ → _ → _ → ∀ Q, _ → _) := Lib.hid (fun (a0 : Act) hn b4 b0 b6 Q hQ => rput_region a0 hn wr w.heap.size g o j cap k q (.slice p8 T.length c8) T bk bz bd s1 s2 s3 s4 s5 b4 b0 b6 (by omega) (by omega)
            (fun W hW => ((HBW.out.trans hW).cell (p := ⟨g, o + k * 2, none⟩) (block_lt_of_cell e0)).trans e0) (fun W hW => ((HBW.out.trans hW).cell (p := ⟨g, o + k * 2 + 1, none⟩) (block_lt_of_cell e1)).trans e1) hS hD e1' e2' e3' e4' e5' (by omega) (by omega) (by omega) (by omega) (by omega) (by omega) (by omega) (by omega) HO.out HBW.out.size (by have := HTK.out; omega) Q hQ)
          rw [hm] at HRG
          have hkI : (k : Int) < (j : Int) := by omega
          have HK := Lib.hid hkj
          have HE := Lib.hid (And.intro e0 e1)
          clear hr hcell hrm hr2 HV2 hTk hTL2 hszq hok2 htl htx hdl hS hD hT hq htx2 h5 hbd hbk hbz zd zk zz z1 z2 z3 z4 z5 z6 h5s e1' e2' e3' e4' e5' hm hm3 e0 e1 hkj hk hkl HSC
          go_wp2_with fail
          refine HRG.out _ ?_ ?_ ?_ ?_ _ ?_
          · rfl
          · rfl
          · rfl
          · rfl
          intro v' W hown hbl
          obtain ⟨p9, c9, hv9⟩ := own_shape hown
          subst hv9
          have HO9 := Lib.hid (HFIN.out W _ hown)
          have HB9 := Lib.hid (HBW.out.trans hbl)
          clear hown hbl HRG HFIN
          simp only [putAll, Act.put, List.setIfInBounds_toArray, List.set_cons_zero, List.set_cons_succ]
          go_wp2_with fail
          refine ⟨⟨k + 1, HK.out, by go_num, HO9.out, HB9.out⟩, ?_⟩
          have := HK.out
          simp only [intOf]; omega
        · obtain rfl : k = j := by omega
          have hlt : l.take k = l := List.take_of_length_le (by rw [HN.out]; exact Nat.le_refl _)
          rw [hlt] at HO ⊢
          have HQ : Hid (RPutPost w l (.returned (.tuple #[.slice p8 (Px.txts l).length c8, .int .i64 0])) wr) := Lib.hid ⟨HBW.out, .inr ⟨HOK.out, _, rfl, HO.out⟩⟩
          obtain ⟨L9, hL9⟩ : ∃ x, Px.txts l = x := ⟨_, rfl⟩
          rw [hL9] at HQ ⊢
          clear hkj hk hlt hL9
          go_wp2_with fail
          go_ret2
          exact HQ.out
end Go.Proofs.YtjgphicmkmdeiaaDoor
