/-
  Put.
-/
import Derived.Test.YtjgphicmkmdeiaaDoorPq
import Derived.Laws.MakeOwn
namespace Go.Proofs.YtjgphicmkmdeiaaDoor
open Go.RowKit Go.Maps

theorem nr_get (ss : List Px.Rec) : ∀ (i : Nat) (s : Px.Rec), ss[i]? = some s → (nr ss)[i * 2]? = some (.string ⟨s.1.toArray⟩) ∧ (nr ss)[i * 2 + 1]? = some (.string ⟨s.2.toArray⟩) := by
  induction ss with
  | nil => intro i s h; simp at h
  | cons a t ih =>
    intro i s h
    cases i with
    | zero => simp at h; subst h; exact ⟨rfl, rfl⟩
    | succ i =>
      simp at h
      obtain ⟨h1, h2⟩ := ih i s h
      have e : nr (a :: t) = .string ⟨a.1.toArray⟩ :: .string ⟨a.2.toArray⟩ :: nr t := rfl
      rw [e, show (i + 1) * 2 = i * 2 + 1 + 1 by omega]
      simp only [List.getElem?_cons_succ]
      exact ⟨h1, h2⟩
theorem SlR.at {w : World} {p : Option Addr} {n cap : Nat} {ss : List Px.Rec} (h : SlR w (.slice p n cap) ss) (h0 : 0 < n) : ∃ g o, p = some ⟨g, o, none⟩ ∧ n ≤ cap ∧ ∀ i s, ss[i]? = some s →
    w.cell? ⟨g, o + i * 2, none⟩ = some (.string ⟨s.1.toArray⟩) ∧ w.cell? ⟨g, o + i * 2 + 1, none⟩ = some (.string ⟨s.2.toArray⟩) := by
  obtain ⟨_, ⟨g, o, cap', h, h2, hB⟩ | ⟨p', h, h3⟩⟩ := h
  · cases h
    refine ⟨g, o, rfl, h2, fun i s hi => ?_⟩
    obtain ⟨h1, h3⟩ := nr_get ss i s hi
    exact ⟨hB _ _ h1, by rw [Nat.add_assoc]; exact hB _ _ h3⟩
  · cases h; omega
theorem SlR.shape {w : World} {v : Value} {ss : List Px.Rec} (h : SlR w v ss) : ∃ p cap, v = .slice p ss.length cap := SlK.shape h
theorem SlR.below {w w' : World} {v : Value} {ss : List Px.Rec} (h : SlR w v ss) {B : Nat} (hb : Below B w w') (hB : w.heap.size ≤ B) : SlR w' v ss := SlK.below h hb hB
theorem SlR.le {w : World} {p : Option Addr} {n cap : Nat} {ss : List Px.Rec} (h : SlR w (.slice p n cap) ss) : n ≤ cap := by
  obtain ⟨_, ⟨g, o, c, h, h2, _⟩ | ⟨p', h, h2⟩⟩ := h
  · obtain ⟨_, h3, h4⟩ := Value.slice.inj h; omega
  · obtain ⟨_, h3, h4⟩ := Value.slice.inj h; omega
/-- The sum of the sizes. -/
def sums (l : List Px.Rec) : Nat := (l.map Px.sz).sum
theorem sums_step (l : List Px.Rec) (i : Nat) (r : Px.Rec) (h : l[i]? = some r) : sums (l.take (i + 1)) = sums (l.take i) + Px.sz r := by
  unfold sums
  rw [List.take_add_one, h, Option.toList_some, List.map_append, List.sum_append]
  simp
theorem txts_append (a b : List Px.Rec) : Px.txts (a ++ b) = Px.txts a ++ Px.txts b := by
  induction a with
  | nil => rfl
  | cons x t ih => rw [List.cons_append, Px.txts, Px.txts, ih, List.append_assoc]
theorem txts_step (l : List Px.Rec) (i : Nat) (r : Px.Rec) (h : l[i]? = some r) : Px.txts (l.take (i + 1)) = Px.txts (l.take i) ++ Px.txt r := by
  rw [List.take_add_one, h, Option.toList_some, txts_append]
  show _ ++ (Px.txt r ++ []) = _
  rw [List.append_nil]
theorem sz_le (r : Px.Rec) (h : r.2.length ≤ 1099511000) : Px.sz r ≤ 1099511500 := by
  by_cases hk : Px.okK r.1 = true
  · have h1 := Px.sz_fix hk
    have h3 := (Px.okK_ne hk).2.1
    have h2 : Lib.nDigits (Px.sz r) ≤ 20 := by
      rw [Px.sz_ok hk]; unfold Px.wd
      have a1 : Lib.nDigits (r.1.length + r.2.length + 3) ≤ 20 := Px.dg_lt (k := 19) (by omega)
      have a2 : Lib.nDigits (r.1.length + r.2.length + 3 + Lib.nDigits (r.1.length + r.2.length + 3)) ≤ 20 := Px.dg_lt (k := 19) (by omega)
      exact Px.dg_lt (k := 19) (by omega)
    omega
  · unfold Px.sz; rw [if_neg hk]; omega
theorem sums_le (l : List Px.Rec) (h : ∀ r ∈ l, r.2.length ≤ 1099511000) (i : Nat) (hi : i ≤ l.length) : sums (l.take i) ≤ 1099511500 * i := by
  induction i with
  | zero => simp [sums]
  | succ i ih =>
    have hlt : i < l.length := by omega
    rw [sums_step l i l[i] (List.getElem?_eq_getElem hlt)]
    have := sz_le l[i] (h _ (List.getElem_mem hlt))
    have := ih (by omega)
    omega
theorem txts_len (l : List Px.Rec) (h : ∀ r ∈ l, Px.sz r ≠ 0) : (Px.txts l).length = sums l := by
  induction l with
  | nil => rfl
  | cons r t ih =>
    have hk : Px.okK r.1 = true := by
      have := h r (by simp)
      rw [Ne, Px.sz_zero] at this
      simpa using this
    rw [Px.txts, List.length_append, Px.txt_len hk, ih (fun x hx => h x (by simp [hx]))]
    simp [sums]
theorem sums_take (l : List Px.Rec) (i : Nat) : sums (l.take i) ≤ sums l := by
  have h : sums l = sums (l.take i) + sums (l.drop i) := by
    unfold sums
    rw [← List.sum_append, ← List.map_append, List.take_append_drop]
  omega
/-- Put's answer. -/
def PutPost (w : World) (l : List Px.Rec) (e : Ending) (w' : World) : Prop := Below w.heap.size w w' ∧
  (((∃ r ∈ l, Px.sz r = 0) ∧ e = .returned (.tuple #[.slice none 0 0, .int .i64 1])) ∨
   ((∀ r ∈ l, Px.sz r ≠ 0) ∧ 16777216 < sums l ∧ e = .returned (.tuple #[.slice none 0 0, .int .i64 3])) ∨
   ((∀ r ∈ l, Px.sz r ≠ 0) ∧ sums l ≤ 16777216 ∧ ∃ u, e = .returned (.tuple #[u, .int .i64 0]) ∧ OwnBy w.heap.size w' u (Px.txts l)))
set_option maxRecDepth 100000 in
set_option maxHeartbeats 4000000 in
theorem put_walk (w : World) (v : Value) (l : List Px.Rec) (hv : SlR w v l) (hl : l.length ≤ 100000) (hz : ∀ r ∈ l, r.2.length ≤ 1099511000) (hP : PxAt w) :
    Calls Tryd.prog 11 #[v] w (PutPost w l) := by
  obtain ⟨p, cap, rfl⟩ := hv.shape
  have HV := Lib.hid hv
  have HP := Lib.hid hP
  have HZ := Lib.hid hz
  have HLL := Lib.hid (sums_le l hz)
  have HLE := Lib.hid hl
  obtain ⟨i0, hi, hz0, hz1, hz2⟩ := info_parts info5
  have HI0 := Lib.hid (And.intro hi (And.intro hz0 (And.intro hz1 hz2)))
  have hcap := hv.le
  obtain ⟨n, hn⟩ : ∃ n, l.length = n := ⟨_, rfl⟩
  rw [hn] at hcap hl ⊢
  have hnI : (n : Int) ≤ 100000 := by omega
  have HN := Lib.hid hn
  clear hi hz0 hz1 hz2 hv hP hz hn hl
  go_enter Tryd.func11, Tryd.ntmps11
  go_wp2_with fail
  go_loopw [4, 13] (fun a i wr => ∃ j : Nat, j ≤ n ∧ i = .int .i64 (j : Int) ∧ a = .int .i64 (sums (l.take j) : Int) ∧ (∀ r ∈ l.take j, Px.sz r ≠ 0) ∧ Below w.heap.size w wr) (fun _ i _ => n - (intOf i).toNat)
  case atStart => exact ⟨0, Nat.zero_le _, rfl, rfl, by simp, Below.refl _ _⟩
  case round =>
    obtain ⟨j, hj, rfl, rfl, hok, hb⟩ := hrel
    have HOK := Lib.hid hok
    have HB := Lib.hid hb
    have hs0 := HLL.out j (by rw [HN.out]; exact hj)
    obtain ⟨A, hA⟩ : ∃ A, sums (l.take j) = A := ⟨_, rfl⟩
    have HA := Lib.hid hA
    rw [hA] at hs0 ⊢
    have hAI : (A : Int) ≤ 1099511500 * 100000 := by omega
    clear hok hb hA hs0
    by_cases hjn : j < n
    · have hjl : j < l.length := by rw [HN.out]; exact hjn
      obtain ⟨r, hr⟩ : ∃ r, l[j]? = some r := ⟨_, List.getElem?_eq_getElem hjl⟩
      have HV2 := Lib.hid (HV.out.below HB.out (Nat.le_refl _))
      rw [HN.out] at HV2
      obtain ⟨g, o, rfl, hcap2, hcell⟩ := HV2.out.at (by omega)
      obtain ⟨e0, e1⟩ := hcell j r hr
      have hrm : r ∈ l := List.mem_of_getElem? hr
      have hr2 := HZ.out r hrm
      have hsz := sz_le r hr2
      have HST := Lib.hid (sums_step l j r hr)
      have HTK : Hid (∀ x ∈ l.take (j + 1), x ∈ l.take j ∨ x = r) := Lib.hid (fun x hx => by
        rw [List.take_add_one, hr, Option.toList_some] at hx
        simpa using hx)
      have HRM := Lib.hid hrm
      have HPX := Lib.hid (HP.out.below HB.out (Nat.le_refl _))
      have HS : Hid (∀ w1, Below wr.heap.size wr w1 → Calls Tryd.prog 15 #[.agg #[.string ⟨r.1.toArray⟩, .string ⟨r.2.toArray⟩]] w1 fun e w' => e = .returned (.int .i64 (Px.sz r : Int)) ∧ Below wr.heap.size wr w') := Lib.hid (fun w1 hb =>
        (size_walk r w1 (by omega) (HPX.out.below hb (Nat.le_refl _))).mono fun _ _ ⟨h1, h2⟩ => ⟨h1, hb.trans (h2.mono hb.size)⟩)
      obtain ⟨k1, k2⟩ := r
      simp only at e0 e1 HS
      obtain ⟨b1, hb1⟩ : ∃ x, (⟨k1.toArray⟩ : ByteArray) = x := ⟨_, rfl⟩
      obtain ⟨b2, hb2⟩ : ∃ x, (⟨k2.toArray⟩ : ByteArray) = x := ⟨_, rfl⟩
      rw [hb1] at e0 HS
      rw [hb2] at e1 HS
      have HAL : Hid (Below wr.heap.size wr (wr.alloc (.cells #[.string b1, .string b2] 37))) := Lib.hid ((Below.refl _ _).alloc (Nat.le_refl _) _)
      have HC := Lib.hid (HS.out _ HAL.out)
      obtain ⟨q, hq⟩ : ∃ q, Px.sz (k1, k2) = q := ⟨_, rfl⟩
      have HQ := Lib.hid hq
      rw [hq] at HC hsz
      have hqI : (q : Int) ≤ 1099511500 := by omega
      have hjI : (j : Int) < (n : Int) := by omega
      clear hr hcell hrm hr2 HV2 hb1 hb2 HS hq hjl
      by_cases hq0 : q = 0
      · subst hq0
        go_wp2_with ((with_reducible refine HC.out.mono ?_); rintro e w1 ⟨rfl, hb⟩; have HB1 := Lib.hid (HB.out.trans (hb.mono HB.out.size)); clear hb)
        go_ret2
        exact ⟨HB1.out, .inl ⟨⟨_, HRM.out, HQ.out⟩, rfl⟩⟩
      · have hq1 : ((q : Int) == 0) = false := by rw [beq_eq_false_iff_ne]; omega
        go_wp2_with ((with_reducible refine HC.out.mono ?_); rintro e w1 ⟨rfl, hb⟩; have HB1 := Lib.hid (HB.out.trans (hb.mono HB.out.size)); clear hb)
        refine ⟨⟨j + 1, hjn, by go_num, ?_, fun x hx => ?_, HB1.out⟩, by simp only [intOf]; omega⟩
        · rw [HST.out, HA.out, HQ.out]; go_num
        · rcases HTK.out x hx with h | h
          · exact HOK.out x h
          · rw [h, HQ.out]; exact hq0
    · obtain rfl : j = n := by omega
      clear hjn hj
      have hlt : l.take j = l := List.take_of_length_le (by rw [HN.out]; exact Nat.le_refl _)
      rw [hlt] at HA HOK
      clear hlt
      by_cases hbig : 16777216 < A
      · have hd : decide (16777216 < (A : Int)) = true := decide_eq_true (by omega)
        have hd2 : decide (16777216 < A) = true := decide_eq_true hbig
        have HQ : Hid (PutPost w l (.returned (.tuple #[.slice none 0 0, .int .i64 3])) wr) := Lib.hid ⟨HB.out, .inr (.inl ⟨HOK.out, by rw [HA.out]; exact hbig, rfl⟩)⟩
        clear hbig
        go_wp2_with fail
        go_ret2
        exact HQ.out
      · have hd : decide (16777216 < (A : Int)) = false := decide_eq_false (by omega)
        have hd2 : decide (16777216 < A) = false := decide_eq_false hbig
        obtain ⟨wm, hm1, hm2, hm3⟩ := run_make_own (P := Tryd.prog) wr w.heap.size 26 5 i0 (.int .u8 0) 1 Tryd.underlying26 HI0.out.1 HI0.out.2.1 HI0.out.2.2.1 .i64 .i64 A (by rw [HI0.out.2.2.2]; omega) (by unfold maxLen; omega) HB.out.size
        have HBM : Hid (Below w.heap.size w wm) := Lib.hid (HB.out.grown hm3 HB.out.size (by intro k hk; cases hk))
        have HO : Hid (OwnBy w.heap.size wm (.slice (some ⟨wr.heap.size, 0, none⟩) 0 A) (Px.txts (l.take 0))) := Lib.hid hm2
        have HAM : Hid (A ≤ 16777216) := Lib.hid (by omega)
        clear hm2 hm3 hbig
        go_wp2_with fail
        go_loopw [8, 31] (fun b i wx => ∃ k : Nat, k ≤ j ∧ i = .int .i64 (k : Int) ∧ OwnBy w.heap.size wx b (Px.txts (l.take k)) ∧ Below w.heap.size w wx) (fun _ i _ => j - (intOf i).toNat)
        case atStart => exact ⟨0, Nat.zero_le _, rfl, HO.out, HBM.out⟩
        case round =>
          rename_i wx0
          clear HO HBM hm1
          obtain ⟨k, hk, rfl, ho, hb⟩ := hrel
          obtain ⟨p8, c8, rfl⟩ := own_shape ho
          have HO := Lib.hid ho
          have HBW := Lib.hid hb
          clear ho hb
          by_cases hkj : k < j
          · have hkl : k < l.length := by rw [HN.out]; exact hkj
            obtain ⟨r, hr⟩ : ∃ r, l[k]? = some r := ⟨_, List.getElem?_eq_getElem hkl⟩
            have HV2 := Lib.hid (HV.out.below HBW.out (Nat.le_refl _))
            rw [HN.out] at HV2
            obtain ⟨g, o, rfl, hcap2, hcell⟩ := HV2.out.at (by omega)
            obtain ⟨e0, e1⟩ := hcell k r hr
            have hrm : r ∈ l := List.mem_of_getElem? hr
            have hr2 := HZ.out r hrm
            have hk2 : Px.okK r.1 = true := by have := HOK.out r hrm; rw [Ne, Px.sz_zero] at this; simpa using this
            have hr1 := (Px.okK_ne hk2).2.1
            have HST := Lib.hid (txts_step l k r hr)
            have HTL : Hid ((Px.txts (l.take k)).length ≤ 16777216) := Lib.hid (by
              rw [txts_len _ (fun x hx => HOK.out x (List.mem_of_mem_take hx))]
              have := sums_take l k; have := HA.out; have := HAM.out; omega)
            have HPX := Lib.hid (HP.out.below HBW.out (Nat.le_refl _))
            have HSZ := Lib.hid HBW.out.size
            have HC : Hid (∀ w1, Below _ _ w1 → _) := Lib.hid (fun w1 (hb : Below wr.heap.size wr w1) => lay_walk w.heap.size w1 (.slice p8 (Px.txts (l.take k)).length c8) (Px.txts (l.take k)) r (own_staysK HO.out (fun j hj => hb.block j (HO.out.lt j hj).2)) (Nat.le_trans HSZ.out hb.size) (by have := HTL.out; omega) (by omega) (by omega) (HPX.out.below hb (Nat.le_refl _)))
            obtain ⟨k1, k2⟩ := r
            simp only at e0 e1 HC
            obtain ⟨b1, hb1⟩ : ∃ x, (⟨k1.toArray⟩ : ByteArray) = x := ⟨_, rfl⟩
            obtain ⟨b2, hb2⟩ : ∃ x, (⟨k2.toArray⟩ : ByteArray) = x := ⟨_, rfl⟩
            rw [hb1] at e0 HC
            rw [hb2] at e1 HC
            have HAL : Hid (Below wr.heap.size wr (wr.alloc (.cells #[.string b1, .string b2] 37))) := Lib.hid ((Below.refl _ _).alloc (Nat.le_refl _) _)
            have HC2 := Lib.hid (HC.out _ HAL.out)
            have HBA : Hid (Below w.heap.size w (wr.alloc (.cells #[.string b1, .string b2] 37))) := Lib.hid (HBW.out.alloc HBW.out.size _)
            have hkI : (k : Int) < (j : Int) := by omega
            clear hr hcell hrm hr2 hr1 hk2 HV2 hb1 hb2 HC hkl
            go_wp2_with ((with_reducible refine HC2.out.mono ?_); rintro e w1 ⟨u, rfl, ho, hb⟩; have HO1 := Lib.hid ho; have HB1 := Lib.hid (HBA.out.trans hb); clear ho hb)
            refine ⟨⟨k + 1, hkj, by go_num, by rw [HST.out]; exact HO1.out, HB1.out⟩, by simp only [intOf]; omega⟩
          · obtain rfl : k = j := by omega
            have hlt : l.take k = l := List.take_of_length_le (by rw [HN.out]; exact Nat.le_refl _)
            rw [hlt] at HO
            have HQ : Hid (PutPost w l (.returned (.tuple #[.slice p8 (Px.txts (l.take k)).length c8, .int .i64 0])) wr) := Lib.hid ⟨HBW.out, .inr (.inr ⟨HOK.out, by rw [HA.out]; exact HAM.out, _, rfl, by rw [hlt]; exact HO.out⟩)⟩
            rw [hlt] at HQ ⊢
            clear hkj hk hlt
            go_wp2_with fail
            go_ret2
            exact HQ.out
end Go.Proofs.YtjgphicmkmdeiaaDoor
