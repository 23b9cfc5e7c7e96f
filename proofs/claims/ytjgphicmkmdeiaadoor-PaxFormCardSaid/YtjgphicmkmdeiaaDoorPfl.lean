/-
  PaxForm.
-/
import Derived.Test.YtjgphicmkmdeiaaDoorPfk
import Derived.Test.YtjgphicmkmdeiaaDoorPfb
import Derived.BigQuiet
import Derived.Deep.CutRange
namespace Go.Proofs.YtjgphicmkmdeiaaDoor
open Go.RowKit Go.Maps Inv

theorem wpList_insert_in {H : Type} {P : Program} (w : World) {ops : Array Oper} {rest : List Oper} {o : Oper} {a : Act} {Q : Exit → Act → World → Prop} (hg : o.guard = none) (m x v : Operand) (t : TypeId) (hop : o.op = Op.insert t m x v)
    (k e : TypeId) (K : Keyed P k) (ht : P.underlying t = some (.map k e)) (R : Value → Option (DataW H × List MemPlace)) (b n : Nat) (D : DataW H)
    (hm : a.eval m = .map (some b)) (hown : w.ownsMap P k R b n D) (hn : n < maxLen) (key val : Value) (kl : Lit) (hx : a.eval x = key) (hv : a.eval v = val) (hkey : keyOf P k key = some kl)
    (d : DataW H) (ps : List MemPlace) (hval : R val = some (d, ps))
    (hK : ∀ w', w'.ownsMap P k R b (n + 1) (D.put kl d) → w.mapTurned w' b → wpList P ops Q rest (a.put o.dst undef) w') :
    wpList P ops Q (o :: rest) a w := by
  refine wpList_plain hg fun K' hK' => ?_
  obtain ⟨w', hrun, r1, r2⟩ := hown.store K ht hn hkey hval
  unfold Oper.wp
  simp [execOp, hop, hm, hx, hv, hrun, Result.andThen]
  exact hK' _ _ (hK w' r1 r2)
theorem mk_imap (w : World) : (Instr.makeMap 53 none).run Tryd.prog w = .ok (.map (some w.heap.size)) (w.alloc (.map #[] 0)) := by
  unfold Instr.makeMap
  simp only [Sem.run_bind, Sem.run_pure, run_newObj_alloc, Result.andThen]
/-- The sum of the first records' sizes. -/
def Sn (F : List Px.Rec) (i : Nat) : Nat := sums (F.take i)
structure EndsAt (w : World) (B : Nat) (F : List Px.Rec) (j : Nat) : Prop where
  ex : ∃ (D : DataW Unit) (n : Nat), n ≤ j + 1 ∧ w.ownsMap Tryd.prog 3 (plainElem Tryd.prog 3) B n D ∧ EndsD D (Sn F) j
theorem EndsAt.kept {w w' : World} {B : Nat} {F : List Px.Rec} {j : Nat} (h : EndsAt w B F j) {C : Nat} (hb : Below C w w') (hC : B < C) : EndsAt w' B F j := by
  obtain ⟨D, n, h1, h2, h3⟩ := h.ex
  obtain ⟨es, cl, h4, h5⟩ := h2
  exact ⟨D, n, h1, ⟨es, cl, (hb.block B hC).trans h4, h5⟩, h3⟩
theorem EndsAt.lt {w : World} {B : Nat} {F : List Px.Rec} {j : Nat} (h : EndsAt w B F j) : B < w.heap.size := by
  obtain ⟨D, n, h1, h2, h3⟩ := h.ex
  exact h2.lt
theorem below_drewN {B : Nat} {a w : World} (h : Below B a w) (n : Nat) : Below B a (w.drewN n) := ⟨h.os, h.tape, h.output, h.size, h.block⟩
theorem zero3 (w : World) : (zeroValue 3).run Tryd.prog w = .ok (.int .i64 0) w := by kernel_rfl
theorem wf_i64 (x : Nat) (h : x ≤ 1000000) : (Lit.int .i64 (x : Int)).wf = true := by
  show (decide (IntKind.i64.min ≤ (x : Int)) && decide ((x : Int) ≤ IntKind.i64.max)) = true
  have h1 : IntKind.i64.min = -9223372036854775808 := rfl
  have h2 : IntKind.i64.max = 9223372036854775807 := rfl
  rw [h1, h2, Bool.and_eq_true, decide_eq_true_eq, decide_eq_true_eq]
  omega
theorem ends_put {w : World} {B : Nat} {F : List Px.Rec} {j : Nat} (h : EndsAt w B F j) (hj : j ≤ 20) : ∃ (D : DataW Unit) (n : Nat), n < maxLen ∧ w.ownsMap Tryd.prog 3 (plainElem Tryd.prog 3) B n D ∧
    (∀ w' : World, w'.ownsMap Tryd.prog 3 (plainElem Tryd.prog 3) B (n + 1) (D.put (.int .i64 (Sn F (j + 1) : Int)) (.lit (.int .i64 ((j + 1 : Nat) : Int)))) → EndsAt w' B F (j + 1)) := by
  obtain ⟨D, n, h1, h2, h3⟩ := h.ex
  exact ⟨D, n, by unfold maxLen; omega, h2, fun w' h4 => ⟨_, _, by omega, h4, h3.step⟩⟩
theorem Sn_step (F : List Px.Rec) (j : Nat) (r : Px.Rec) (h : F[j]? = some r) : Sn F (j + 1) = Sn F j + Px.sz r := sums_step F j r h
theorem sz_small (r : Px.Rec) (h : r.1.length ≤ 260 ∧ r.2.length ≤ 1200) : Px.sz r ≤ 1500 := by
  by_cases hk : Px.okK r.1 = true
  · have h1 := Px.sz_fix hk
    have h3 : Px.sz r ≤ 10000 := by
      rw [Px.sz_ok hk]; unfold Px.wd
      have a1 : Lib.nDigits (r.1.length + r.2.length + 3) ≤ 20 := Px.dg_lt (k := 19) (by omega)
      have a2 : Lib.nDigits (r.1.length + r.2.length + 3 + Lib.nDigits (r.1.length + r.2.length + 3)) ≤ 20 := Px.dg_lt (k := 19) (by omega)
      omega
    have h4 : Lib.nDigits (Px.sz r) ≤ 5 := Px.dg_lt (k := 4) (by omega)
    omega
  · unfold Px.sz; rw [if_neg hk]; omega
theorem Sn_le (F : List Px.Rec) (h : ∀ r ∈ F, r.1.length ≤ 260 ∧ r.2.length ≤ 1200) (j : Nat) : Sn F j ≤ 1500 * j := by
  induction j with
  | zero => simp [Sn, sums]
  | succ j ih =>
    cases hr : F[j]? with
    | none =>
      have : Sn F (j + 1) = Sn F j := by unfold Sn; rw [List.take_add_one, hr]; simp
      omega
    | some r =>
      rw [Sn_step F j r hr]
      have := sz_small r (h r (List.mem_of_getElem? hr))
      omega
theorem all_step (F : List Px.Rec) (j : Nat) (r : Px.Rec) (h : F[j]? = some r) : (F.take (j + 1)).all (fun r => Px.sz r != 0) = ((F.take j).all (fun r => Px.sz r != 0) && (Px.sz r != 0)) := by
  rw [List.take_add_one, h, Option.toList_some, List.all_append]; simp
set_option maxRecDepth 100000 in
set_option maxHeartbeats 8000000 in
theorem form_walk (w : World) (v av : Value) (l : List Px.Rec) (A : List UInt8) (c : Nat) (hv : SlR w v l) (hl : l.length ≤ maxLen) (hz : ∀ r ∈ l, r.1.length ≤ maxLen ∧ r.2.length ≤ maxLen) (hav : SlV w av (bl A)) (hA : A.length ≤ maxLen) (hc : c < 65536) (hP : PxAt w) :
    Calls Tryd.prog 6 #[v, av, .int .u16 (c : Int)] w (TellsPost w) := by
  have HFW := Lib.hid (few_walk w v l hv hl hz)
  have HP := Lib.hid hP
  have hfl := few_len l
  have hfs := few_small l
  unfold FewPost at HFW
  obtain ⟨F, hF⟩ : ∃ F, fewL l = F := ⟨_, rfl⟩
  rw [hF] at hfl hfs HFW
  have HFL := Lib.hid hfl
  have HFS := Lib.hid hfs
  obtain ⟨n, hn⟩ : ∃ n, F.length = n := ⟨_, rfl⟩
  have HN := Lib.hid hn
  have hnI : (n : Int) ≤ 20 := by omega
  obtain ⟨E, hE⟩ : ∃ E, pe F = E := ⟨_, rfl⟩
  have HE := Lib.hid hE
  have hcI : (c : Int) < 65536 := by omega
  obtain ⟨pa, ca, rfl⟩ := hav.shape
  rw [bl_length] at hav ⊢
  have hcv := hav.le
  obtain ⟨na, hna⟩ : ∃ n, A.length = n := ⟨_, rfl⟩
  unfold maxLen at hA
  rw [hna] at hav hA hcv ⊢
  obtain ⟨k2, hk2⟩ : ∃ k, min na 2000 = k := ⟨_, rfl⟩
  have hmin : min (na : Int) 2000 = (k2 : Int) := by omega
  have hkn : k2 ≤ na := by omega
  have hk22 : k2 ≤ 2000 := by omega
  have hsl := slice_toB hav k2 hkn
  have hvt := SlV.takeB hav k2 hkn
  obtain ⟨T, hT⟩ : ∃ T, A.take k2 = T := ⟨_, rfl⟩
  rw [hT] at hvt
  have hTl : T.length ≤ 2000 := by rw [← hT, List.length_take]; omega
  have HTL := Lib.hid hTl
  have HVT := Lib.hid hvt
  have hnaI : (na : Int) ≤ 9223372036854775807 := by omega
  have hk2I : (k2 : Int) ≤ 2000 := by omega
  have HCV := Lib.hid (And.intro hkn hcv)
  clear hv hl hz hP hfl hfs hF hn hE hav hna hk2 hT hvt hTl hA hcv hkn hk22
  have hmk := mk_imap
  go_enter Tryd.func6, Tryd.ntmps6
  go_wp2_with (first
    | ((with_reducible refine HFW.out.mono ?_); rintro e w1 ⟨va, vb, rfl, ha, hb, hB⟩; obtain ⟨p1, c1, hv1⟩ := own_shape ha; subst hv1; rw [HN.out] at ha; have hle1 := ha.toR.le; rw [HN.out]; have HA1 := Lib.hid ha.toR; have HB1 := Lib.hid hB; have HC1 := Lib.hid (put_few w1 (.slice p1 n c1) F HA1.out HFL.out HFS.out (HP.out.below hB (Nat.le_refl _))); rw [HE.out] at HC1; clear ha hb hB)
    | ((with_reducible refine HC1.out.mono ?_); rintro e w2 ⟨u1, rfl, hs1, hb⟩; have HS1 := Lib.hid hs1; have HB2 := Lib.hid hb; obtain ⟨p3, c3, hu1⟩ := hs1.shape; subst hu1; rw [bl_length]; clear hs1 hb)
    | (refine wpList_insert_in (H := Unit) _ rfl _ _ _ 53 rfl 3 3 mapK Tryd.underlying53 (plainElem Tryd.prog 3) w2.heap.size 0 (.map []) rfl (World.ownsMap_made w2 Tryd.prog 3 _) (by decide) _ _ (.int .i64 0) rfl rfl (keyOf_int_mk Tryd.underlying3 (by decide)) (.lit (.int .i64 0)) [] (plainElem_int Tryd.underlying3 (by decide)) ?_; intro w3 hown hturn; have HEN : Hid (EndsAt w3 w2.heap.size F 0) := Lib.hid ⟨_, _, Nat.le_refl _, hown, EndsD.start (Sn F) rfl⟩; have HB3 : Hid (Below w2.heap.size w2 w3) := Lib.hid (((Below.refl _ _).alloc (Nat.le_refl _) _).grown hturn.grown (by rw [World.size_alloc]; omega) (fun k hk => by cases hk; exact Nat.le_refl _)); clear hown hturn))
  clear HFW HC1
  go_loopw [11, 12, 43] (fun m s i wr => ∃ j : Nat, j ≤ n ∧ i = .int .i64 (j : Int) ∧ m = .bool ((F.take j).all (fun r => Px.sz r != 0)) ∧ s = .int .i64 (Sn F j : Int) ∧ EndsAt wr w2.heap.size F j ∧ Below w2.heap.size w2 wr) (fun _ _ i _ => n - (intOf i).toNat)
  case atStart => exact ⟨0, Nat.zero_le _, rfl, rfl, rfl, HEN.out, HB3.out⟩
  case round =>
    obtain ⟨j, hj, rfl, rfl, rfl, hen, hb⟩ := hrel
    have HE2 := Lib.hid hen
    have HBR := Lib.hid hb
    have hSl := Sn_le F HFS.out j
    obtain ⟨mb, hmb⟩ : ∃ x, (F.take j).all (fun r => Px.sz r != 0) = x := ⟨_, rfl⟩
    have HMB := Lib.hid hmb
    obtain ⟨S, hS⟩ : ∃ x, Sn F j = x := ⟨_, rfl⟩
    have HS := Lib.hid hS
    rw [hmb, hS]
    rw [hS] at hSl
    clear hen hb hmb hS
    by_cases hjn : j < n
    · have hjl : j < F.length := by rw [HN.out]; exact hjn
      obtain ⟨r, hr⟩ : ∃ r, F[j]? = some r := ⟨_, List.getElem?_eq_getElem hjl⟩
      have HB12 := Lib.hid (HB2.out.trans (HBR.out.mono HB2.out.size))
      have HV2 := Lib.hid (HA1.out.below HB12.out (Nat.le_refl _))
      obtain ⟨g, o, hp1, -, hcell⟩ := HV2.out.at (by omega)
      subst hp1
      obtain ⟨e0, e1⟩ := hcell j r hr
      have hrs := HFS.out r (List.mem_of_getElem? hr)
      have hsz := sz_small r hrs
      have HSN := Lib.hid (Sn_step F j r hr)
      have HAL := Lib.hid (all_step F j r hr)
      have HPR := Lib.hid (HP.out.below (HB1.out.trans (HB12.out.mono HB1.out.size)) (Nat.le_refl _))
      have HSZ : Hid (∀ w1, Below wr.heap.size wr w1 → Calls Tryd.prog 15 #[.agg #[.string ⟨r.1.toArray⟩, .string ⟨r.2.toArray⟩]] w1 fun e w' => e = .returned (.int .i64 (Px.sz r : Int)) ∧ Below wr.heap.size wr w') := Lib.hid (fun w1 hb =>
        (size_walk r w1 (by omega) (HPR.out.below hb (Nat.le_refl _))).mono fun _ _ ⟨h1, h2⟩ => ⟨h1, hb.trans (h2.mono hb.size)⟩)
      obtain ⟨k1, k2'⟩ := r
      simp only at e0 e1 HSZ
      obtain ⟨b1, hb1⟩ : ∃ x, (⟨k1.toArray⟩ : ByteArray) = x := ⟨_, rfl⟩
      obtain ⟨b2, hb2⟩ : ∃ x, (⟨k2'.toArray⟩ : ByteArray) = x := ⟨_, rfl⟩
      rw [hb1] at e0 HSZ
      rw [hb2] at e1 HSZ
      have HAA : Hid (Below wr.heap.size wr (wr.alloc (.cells #[.string b1, .string b2] 37))) := Lib.hid ((Below.refl _ _).alloc (Nat.le_refl _) _)
      have HC := Lib.hid (HSZ.out _ HAA.out)
      obtain ⟨q, hq⟩ : ∃ q, Px.sz (k1, k2') = q := ⟨_, rfl⟩
      rw [hq] at HC HSN HAL hsz
      have hjI : (j : Int) < (n : Int) := by omega
      have hj20 : (j : Int) ≤ 20 := by omega
      have hSI : (S : Int) ≤ 30000 := by omega
      have hqI : (q : Int) ≤ 1500 := by omega
      have hq0 : decide ((q : Int) > 0) = (q != 0) := by
        by_cases h : q = 0
        · subst h; rfl
        · rw [decide_eq_true (by omega)]; simp [h]
      have HJ := Lib.hid hjn
      have HNB : Hid (S + q ≤ 1000000 ∧ j + 1 ≤ 1000000 ∧ j ≤ 20) := Lib.hid ⟨by omega, by omega, by omega⟩
      clear hr hcell HV2 hrs hb1 hb2 hq HSZ hjl hjn hj hSl hsz
      cases hqb : q != 0 with
      | true =>
        rw [hqb] at hq0
        have hq1 : decide (0 < (q : Int)) = true := hq0
        have hq2 : decide (0 < q) = true := decide_eq_true (Nat.pos_of_ne_zero (by simpa using hqb))
        have HQB := Lib.hid hqb
        clear hqb
        obtain ⟨D, m0, hm0, hown0, hput⟩ := ends_put HE2.out HNB.out.2.2
        have HPUT := Lib.hid hput
        have HM0 := Lib.hid hm0
        have HOW := Lib.hid hown0
        have hkey : keyOf Tryd.prog 3 (.int .i64 ((S : Int) + (q : Int))) = some (.int .i64 (Sn F (j + 1) : Int)) := by
          have h9 : ((S : Int) + (q : Int)) = ((Sn F (j + 1) : Nat) : Int) := by rw [HSN.out, HS.out]; omega
          rw [h9]; exact keyOf_int_mk Tryd.underlying3 (wf_i64 _ (by rw [HSN.out, HS.out]; exact HNB.out.1))
        have hval : plainElem (H := Unit) Tryd.prog 3 (.int .i64 ((j : Int) + 1)) = some (.lit (.int .i64 ((j + 1 : Nat) : Int)), []) := by
          have h9 : ((j : Int) + 1) = ((j + 1 : Nat) : Int) := by omega
          rw [h9]; exact plainElem_int Tryd.underlying3 (wf_i64 _ HNB.out.2.1)
        have HKY := Lib.hid (And.intro hkey hval)
        clear hput hm0 hown0 hkey hval
        cases mb
        all_goals go_wp2_with (first
          | ((with_reducible refine HC.out.mono ?_); rintro e w4 ⟨rfl, hb⟩; have HB4 := Lib.hid hb; have HO4 : Hid (w4.ownsMap Tryd.prog 3 (plainElem Tryd.prog 3) w2.heap.size m0 D) := Lib.hid (by obtain ⟨es, cl, h4, h5⟩ := HOW.out; exact ⟨es, cl, (hb.block _ HE2.out.lt).trans h4, h5⟩); clear hb)
          | (refine wpList_mapUpdate_in (H := Unit) _ rfl _ _ _ 53 rfl 3 3 mapK Tryd.underlying53 (plainElem Tryd.prog 3) w2.heap.size m0 D rfl HO4.out HM0.out _ _ (.int .i64 (Sn F (j + 1) : Int)) rfl rfl HKY.out.1 (.lit (.int .i64 ((j + 1 : Nat) : Int))) [] HKY.out.2 ?_; intro w5 hown hturn; have HE5 := Lib.hid (HPUT.out w5 hown); have HB5 : Hid (Below w2.heap.size w2 w5) := Lib.hid ((HBR.out.trans (HB4.out.mono HBR.out.size)).grown hturn.grown (Nat.le_trans HBR.out.size HB4.out.size) (fun k hk => by cases hk; exact Nat.le_refl _)); clear hown hturn))
        all_goals refine ⟨⟨j + 1, HJ.out, by go_num, ?_, ?_, HE5.out, HB5.out⟩, by have := HJ.out; simp only [intOf]; omega⟩
        all_goals first | (rw [HAL.out, HMB.out, HQB.out]; done) | (rw [HAL.out, HMB.out, HQB.out]; rfl) | (rw [HSN.out, HS.out]; go_num)
      | false =>
        rw [hqb] at hq0
        have hq1 : decide (0 < (q : Int)) = false := hq0
        have hq2 : decide (0 < q) = false := decide_eq_false (by have : q = 0 := (by simpa using hqb); omega)
        have HQB := Lib.hid hqb
        clear hqb
        obtain ⟨D, m0, hm0, hown0, hput⟩ := ends_put HE2.out HNB.out.2.2
        have HPUT := Lib.hid hput
        have HM0 := Lib.hid hm0
        have HOW := Lib.hid hown0
        have hkey : keyOf Tryd.prog 3 (.int .i64 ((S : Int) + (q : Int))) = some (.int .i64 (Sn F (j + 1) : Int)) := by
          have h9 : ((S : Int) + (q : Int)) = ((Sn F (j + 1) : Nat) : Int) := by rw [HSN.out, HS.out]; omega
          rw [h9]; exact keyOf_int_mk Tryd.underlying3 (wf_i64 _ (by rw [HSN.out, HS.out]; exact HNB.out.1))
        have hval : plainElem (H := Unit) Tryd.prog 3 (.int .i64 ((j : Int) + 1)) = some (.lit (.int .i64 ((j + 1 : Nat) : Int)), []) := by
          have h9 : ((j : Int) + 1) = ((j + 1 : Nat) : Int) := by omega
          rw [h9]; exact plainElem_int Tryd.underlying3 (wf_i64 _ HNB.out.2.1)
        have HKY := Lib.hid (And.intro hkey hval)
        clear hput hm0 hown0 hkey hval
        cases mb
        all_goals go_wp2_with (first
          | ((with_reducible refine HC.out.mono ?_); rintro e w4 ⟨rfl, hb⟩; have HB4 := Lib.hid hb; have HO4 : Hid (w4.ownsMap Tryd.prog 3 (plainElem Tryd.prog 3) w2.heap.size m0 D) := Lib.hid (by obtain ⟨es, cl, h4, h5⟩ := HOW.out; exact ⟨es, cl, (hb.block _ HE2.out.lt).trans h4, h5⟩); clear hb)
          | (refine wpList_mapUpdate_in (H := Unit) _ rfl _ _ _ 53 rfl 3 3 mapK Tryd.underlying53 (plainElem Tryd.prog 3) w2.heap.size m0 D rfl HO4.out HM0.out _ _ (.int .i64 (Sn F (j + 1) : Int)) rfl rfl HKY.out.1 (.lit (.int .i64 ((j + 1 : Nat) : Int))) [] HKY.out.2 ?_; intro w5 hown hturn; have HE5 := Lib.hid (HPUT.out w5 hown); have HB5 : Hid (Below w2.heap.size w2 w5) := Lib.hid ((HBR.out.trans (HB4.out.mono HBR.out.size)).grown hturn.grown (Nat.le_trans HBR.out.size HB4.out.size) (fun k hk => by cases hk; exact Nat.le_refl _)); clear hown hturn))
        all_goals refine ⟨⟨j + 1, HJ.out, by go_num, ?_, ?_, HE5.out, HB5.out⟩, by have := HJ.out; simp only [intOf]; omega⟩
        all_goals first | (rw [HAL.out, HMB.out, HQB.out]; done) | (rw [HAL.out, HMB.out, HQB.out]; rfl) | (rw [HSN.out, HS.out]; go_num)
    · -- TAILBASE
      obtain rfl : j = n := by omega
      have hjI : decide ((j : Int) < (j : Int)) = false := decide_eq_false (by omega)
      have hjN : decide (j < j) = false := decide_eq_false (by omega)
      have hall : F.all (fun r => Px.sz r != 0) = mb := by
        have h9 := HMB.out
        rwa [List.take_of_length_le (by rw [HN.out]; omega)] at h9
      have HBT : Hid (Below w.heap.size w wr) := Lib.hid (HB1.out.trans ((HB2.out.trans (HBR.out.mono HB2.out.size)).mono HB1.out.size))
      cases mb with
      | false =>
        have hpe : pe F = 1 ∧ px F = [] := by unfold pe px; rw [hall]; exact ⟨rfl, rfl⟩
        obtain rfl : E = 1 := by rw [← HE.out]; exact hpe.1
        rw [hpe.2]
        clear hjn hj hall hpe
        have HVW := Lib.hid (HVT.out.below HBT.out (Nat.le_refl _))
        have HPW := Lib.hid (HP.out.below HBT.out (Nat.le_refl _))
        cases hg : Px.get T with
        | error x =>
          have HG := Lib.hid hg
          have hx := Px.get_e _ T x (Nat.le_refl _) hg
          have HC7 := Lib.hid (getG_err wr (.slice pa k2 ca) T HVW.out (by have := HTL.out; omega) HPW.out x hg)
          clear hg
          rcases hx with rfl | rfl
          all_goals go_wp2_with (first
            | ((with_reducible refine HC7.out.mono ?_); rintro e w7 ⟨rfl, hb⟩; have HB7 : Hid (Below w.heap.size w w7) := Lib.hid (HBT.out.trans (hb.mono HBT.out.size)); have HC8 := Lib.hid (tells_walk w7 (HP.out.below HB7.out (Nat.le_refl _))); clear hb)
            | ((with_reducible refine HC8.out.mono ?_); rintro e w8 ⟨rfl, hb⟩; have HB8 : Hid (Below w.heap.size w w8) := Lib.hid (HB7.out.trans (hb.mono HB7.out.size)); clear hb))
          all_goals go_ret
          all_goals exact ⟨rfl, HB8.out⟩
        | ok rs =>
          have HG := Lib.hid hg
          have HC7 := Lib.hid (getG_good wr (.slice pa k2 ca) T HVW.out (by have := HTL.out; omega) HPW.out rs hg)
          obtain ⟨bT, hbT⟩ : ∃ x, (⟨T.toArray⟩ : ByteArray) = x := ⟨_, rfl⟩
          have HBT2 := Lib.hid hbT
          have hTT : (bT.toList == bT.toList) = true := beq_self_eq_true _
          clear hg hbT
          go_wp2_with (first
            | ((with_reducible refine HC7.out.mono ?_); rintro e w7 ⟨u7, rfl, hs, hb⟩; have HB7 : Hid (Below w.heap.size w w7) := Lib.hid (HBT.out.trans (hb.mono HBT.out.size)); have HC8 := Lib.hid (put_back w7 u7 T rs hs HTL.out (HP.out.below HB7.out (Nat.le_refl _)) HG.out); clear hs hb)
            | ((with_reducible refine HC8.out.mono ?_); rintro e w8 ⟨u8, rfl, hs, hb⟩; have HB8 : Hid (Below w.heap.size w w8) := Lib.hid (HB7.out.trans (hb.mono HB7.out.size)); have hcv1 := run_toString hs; have hcv2 := run_toString (HVT.out.below HB8.out (Nat.le_refl _)); rw [HBT2.out] at hcv1 hcv2; have HC9 := Lib.hid (tells_walk w8 (HP.out.below HB8.out (Nat.le_refl _))); clear hs hb)
            | ((with_reducible refine HC9.out.mono ?_); rintro e w9 ⟨rfl, hb⟩; have HB9 : Hid (Below w.heap.size w w9) := Lib.hid (HB8.out.trans (hb.mono HB8.out.size)); clear hb))
          go_ret
          exact ⟨rfl, HB9.out⟩
      | true =>
        have hvd : ∀ r ∈ F, Px.sz r ≠ 0 := by
          intro r hr
          have := List.all_eq_true.1 hall r hr
          simpa using this
        have hpe : pe F = 0 ∧ px F = Px.txts F := by unfold pe px; rw [hall]; exact ⟨rfl, rfl⟩
        obtain rfl : E = 0 := by rw [← HE.out]; exact hpe.1
        obtain ⟨X, hX⟩ : ∃ X, Px.txts F = X := ⟨_, rfl⟩
        have HX := Lib.hid hX
        have hxl : X.length = S := by
          rw [← hX, txts_len F hvd, ← HS.out]; unfold Sn; rw [List.take_of_length_le (by rw [HN.out]; omega)]
        have HS1B := Lib.hid HS1.out
        rw [hpe.2, hX] at HS1B ⊢
        rw [hxl]
        have hS3 : S ≤ 30000 := by omega
        have hSI : (S : Int) ≤ 30000 := by omega
        obtain ⟨k, hk⟩ : ∃ k, c % (S + 1) = k := ⟨_, rfl⟩
        have hkS : k ≤ S := by have h9 : c % (S + 1) < S + 1 := Nat.mod_lt c (Nat.succ_pos S); rw [hk] at h9; omega
        have hkI : (k : Int) ≤ (S : Int) := by omega
        have hrem : Int.tmod (c : Int) ((S : Int) + 1) = (k : Int) := by
          rw [Int.tmod_eq_emod_of_nonneg (by omega), ← hk]; push_cast; rfl
        have HVD := Lib.hid hvd
        have HXL := Lib.hid hxl
        have HKS := Lib.hid hkS
        have HXW : Hid (SlV wr (.slice p3 S c3) (bl X)) := Lib.hid (by have h9 := HS1B.out.below HBR.out (Nat.le_refl _); rw [bl_length, hxl] at h9; exact h9)
        have HGB := Lib.hid (getG_good wr (.slice p3 S c3) X HXW.out (by omega) (HP.out.below HBT.out (Nat.le_refl _)) F (by rw [← hX]; exact Px.get_txts F hvd (by rw [hX]; omega)))
        have hsl2 := slice_toB HXW.out k hkS
        have HVK := Lib.hid (SlV.takeB HXW.out k hkS)
        have HCUT := Lib.hid (Px.get_cut F hvd (by rw [hX]; omega) k (by rw [hX]; omega))
        rw [hX] at HCUT
        have HWF := Lib.hid (And.intro hle1 HN.out)
        clear hjn hj hall hpe hvd hX hxl hkS hk
        obtain ⟨D, m0, -, hown0, hD⟩ := HE2.out.ex
        have HD := Lib.hid hD
        have HOW := Lib.hid hown0
        clear hown0 hD
        have hjj0 : ((j : Int) != (j : Int)) = false := by simp
        have hSS0 : ((S : Int) != (S : Int)) = false := by simp
        have HSN : Hid (∀ i, (Px.txts (F.take i)).length = Sn F i) := Lib.hid (fun i => txts_len _ (fun r hr => HVD.out r (List.mem_of_mem_take hr)))
        have HKW : Hid (keyOf Tryd.prog 3 (.int .i64 (k : Int)) = some (.int .i64 (k : Int))) := Lib.hid (keyOf_int_mk Tryd.underlying3 (wf_i64 k (by omega)))
        rcases HCUT.out with ⟨jj, hjj, hjk, hcut⟩ | ⟨hno, hcut⟩
        · have HJJ := Lib.hid (And.intro hjj (And.intro hjk hcut))
          have hJ0 : ((jj : Int) != (jj : Int)) = false := by simp
          have hjjI : (jj : Int) ≤ (j : Int) := by have := HN.out; omega
          have HHAS : Hid (has D (.int .i64 (k : Int)) = true ∧ ∀ z, D.atKey (.int .i64 (k : Int)) z = .lit (.int .i64 (jj : Int))) := Lib.hid (by
            have h9 := HD.out.at_ jj (by have := HN.out; omega) (fun i' h1 h2 h3 => by
              have := Px.ends_inj HVD.out (i := i') (j := jj) (by have := HN.out; omega) hjj (by rw [HSN.out, HSN.out]; exact h3)
              omega)
            rw [← HSN.out jj, hjk] at h9
            exact h9)
          clear hjj hjk hcut
          go_wp2_with (first
            | ((with_reducible refine HGB.out.mono ?_); rintro e w5 ⟨u5, rfl, hs, hb⟩; have HS5 := Lib.hid hs; have HB5 := Lib.hid hb; have HG6 := Lib.hid (getG_good w5 (.slice p3 k c3) (X.take k) (HVK.out.below hb (Nat.le_refl _)) (by rw [List.length_take]; have := HKS.out; omega) (HP.out.below (HBT.out.trans (hb.mono HBT.out.size)) (Nat.le_refl _)) (F.take jj) HJJ.out.2.2); obtain ⟨p5, c5, hu5⟩ := hs.shape; subst hu5; have hle5 := hs.le; rw [HN.out] at hle5 HS5; rw [HN.out]; clear hs hb)
            | ((with_reducible refine HG6.out.mono ?_); rintro e w6 ⟨u6, rfl, hs, hb⟩; have HS6 := Lib.hid hs; have HS56 := Lib.hid (HS5.out.below hb (Nat.le_refl _)); have HB6 : Hid (Below wr.heap.size wr w6) := Lib.hid (HB5.out.trans (hb.mono HB5.out.size)); have HO6 : Hid (w6.ownsMap Tryd.prog 3 (plainElem Tryd.prog 3) w2.heap.size m0 D) := Lib.hid (by obtain ⟨es, cl, h4, h5⟩ := HOW.out; exact ⟨es, cl, (HB6.out.block _ HE2.out.lt).trans h4, h5⟩); obtain ⟨p6, c6, hu6⟩ := hs.shape; subst hu6; have hle6 := hs.le; have hl6 : (F.take jj).length = jj := (by rw [List.length_take]; have := HJJ.out.1; omega); rw [hl6] at hle6 HS6; rw [hl6]; clear hs hb hl6)
            | (refine wpList_lookup_own_ok_int (H := Unit) _ rfl _ _ 53 rfl 3 3 .i64 mapK Tryd.underlying53 Tryd.underlying3 (zero3 _) w2.heap.size m0 D rfl HO6.out _ (.int .i64 (k : Int)) rfl HKW.out ?_; intro cc hat _; rw [HHAS.out.1]; obtain rfl : cc = (jj : Int) := (by rw [HHAS.out.2] at hat; injection hat with hat; injection hat with _ hat; exact hat.symm); clear hat))
          have HW6 : Hid (Below w.heap.size w w6) := Lib.hid (HBT.out.trans (HB6.out.mono HBT.out.size))
          have HA6 : Hid (SlR w6 (.slice p1 j c1) F) := Lib.hid (HA1.out.below ((HB2.out.trans (HBR.out.mono HB2.out.size)).trans (HB6.out.mono (Nat.le_trans HB2.out.size HBR.out.size))) (Nat.le_refl _))
          go_loopw [146] (fun i wx => ∃ ii : Nat, ii ≤ j ∧ i = .int .i64 (ii : Int) ∧ Below w6.heap.size w6 wx) (fun i _ => j - (intOf i).toNat)
          case atStart => exact ⟨0, Nat.zero_le _, rfl, Below.refl _ _⟩
          case round =>
            obtain ⟨ii, hii, rfl, hb⟩ := hrel
            have HBX := Lib.hid hb
            clear hb
            by_cases hij : ii < j
            · obtain ⟨r, hr⟩ : ∃ r, F[ii]? = some r := ⟨_, List.getElem?_eq_getElem (by rw [HN.out]; exact hij)⟩
              obtain ⟨g, o, hp1, -, hcell⟩ := (HA6.out.below HBX.out (Nat.le_refl _)).at (by omega)
              obtain ⟨g5, o5, hp5, -, hcell5⟩ := (HS56.out.below HBX.out (Nat.le_refl _)).at (by omega)
              subst hp1 hp5
              obtain ⟨e0, e1⟩ := hcell ii r hr
              obtain ⟨f0, f1⟩ := hcell5 ii r hr
              obtain ⟨b1, hb1⟩ : ∃ x, (⟨r.1.toArray⟩ : ByteArray) = x := ⟨_, rfl⟩
              obtain ⟨b2, hb2⟩ : ∃ x, (⟨r.2.toArray⟩ : ByteArray) = x := ⟨_, rfl⟩
              rw [hb1] at e0 f0
              rw [hb2] at e1 f1
              have e0D : wr.drew.cell? ⟨g, o + ii * 2, none⟩ = some (.string b1) := e0
              have e1D : wr.drew.cell? ⟨g, o + ii * 2 + 1, none⟩ = some (.string b2) := e1
              have f0D : wr.drew.cell? ⟨g5, o5 + ii * 2, none⟩ = some (.string b1) := f0
              have f1D : wr.drew.cell? ⟨g5, o5 + ii * 2 + 1, none⟩ = some (.string b2) := f1
              have hiI : (ii : Int) < (j : Int) := by omega
              have hi0 : (ii : Int) ≤ 20 := by omega
              have HIJ := Lib.hid hij
              by_cases hlj : ii < jj
              · obtain ⟨g6, o6, hp6, -, hcell6⟩ := (HS6.out.below HBX.out (Nat.le_refl _)).at (by omega)
                subst hp6
                obtain ⟨h0, h1⟩ := hcell6 ii r (by rw [List.getElem?_take, if_pos hlj]; exact hr)
                rw [hb1] at h0
                rw [hb2] at h1
                have h0D : wr.drew.cell? ⟨g6, o6 + ii * 2, none⟩ = some (.string b1) := h0
                have h1D : wr.drew.cell? ⟨g6, o6 + ii * 2 + 1, none⟩ = some (.string b2) := h1
                have hd : decide ((ii : Int) < (jj : Int)) = true := decide_eq_true (by omega)
                have hdN : decide (ii < jj) = true := decide_eq_true hlj
                have hljI : (ii : Int) < (jj : Int) := by omega
                clear hr hcell hcell5 hcell6 hb1 hb2 hij hii hlj
                go_wp2_with fail
                go_quiet (fail)
                go_wp2_with fail
                refine ⟨⟨ii + 1, HIJ.out, by go_num, below_drewN HBX.out _⟩, by have := HIJ.out; simp only [intOf]; omega⟩
              · have hd : decide ((ii : Int) < (jj : Int)) = false := decide_eq_false (by omega)
                have hdN : decide (ii < jj) = false := decide_eq_false hlj
                clear hr hcell hcell5 hb1 hb2 hij hii hlj
                go_wp2_with fail
                go_quiet (fail)
                go_wp2_with fail
                refine ⟨⟨ii + 1, HIJ.out, by go_num, below_drewN HBX.out _⟩, by have := HIJ.out; simp only [intOf]; omega⟩
            · obtain rfl : ii = j := by omega
              have hd : decide ((ii : Int) < (ii : Int)) = false := decide_eq_false (by omega)
              have hdN : decide (ii < ii) = false := decide_eq_false (by omega)
              have HBT9 : Hid (Below w.heap.size w wr) := Lib.hid (HW6.out.trans (HBX.out.mono HW6.out.size))
              clear hij hii
              have HVW := Lib.hid (HVT.out.below HBT9.out (Nat.le_refl _))
              have HPW := Lib.hid (HP.out.below HBT9.out (Nat.le_refl _))
              cases hg : Px.get T with
              | error x =>
                have HG := Lib.hid hg
                have hx := Px.get_e _ T x (Nat.le_refl _) hg
                have HC7 := Lib.hid (getG_err wr (.slice pa k2 ca) T HVW.out (by have := HTL.out; omega) HPW.out x hg)
                clear hg
                rcases hx with rfl | rfl
                all_goals go_wp2_with (first
                  | ((with_reducible refine HC7.out.mono ?_); rintro e w7 ⟨rfl, hb⟩; have HB7 : Hid (Below w.heap.size w w7) := Lib.hid (HBT9.out.trans (hb.mono HBT9.out.size)); have HC8 := Lib.hid (tells_walk w7 (HP.out.below HB7.out (Nat.le_refl _))); clear hb)
                  | ((with_reducible refine HC8.out.mono ?_); rintro e w8 ⟨rfl, hb⟩; have HB8 : Hid (Below w.heap.size w w8) := Lib.hid (HB7.out.trans (hb.mono HB7.out.size)); clear hb))
                all_goals go_ret
                all_goals exact ⟨rfl, HB8.out⟩
              | ok rs =>
                have HG := Lib.hid hg
                have HC7 := Lib.hid (getG_good wr (.slice pa k2 ca) T HVW.out (by have := HTL.out; omega) HPW.out rs hg)
                obtain ⟨bT, hbT⟩ : ∃ x, (⟨T.toArray⟩ : ByteArray) = x := ⟨_, rfl⟩
                have HBT2 := Lib.hid hbT
                have hTT : (bT.toList == bT.toList) = true := beq_self_eq_true _
                clear hg hbT
                go_wp2_with (first
                  | ((with_reducible refine HC7.out.mono ?_); rintro e w7 ⟨u7, rfl, hs, hb⟩; have HB7 : Hid (Below w.heap.size w w7) := Lib.hid (HBT9.out.trans (hb.mono HBT9.out.size)); have HC8 := Lib.hid (put_back w7 u7 T rs hs HTL.out (HP.out.below HB7.out (Nat.le_refl _)) HG.out); clear hs hb)
                  | ((with_reducible refine HC8.out.mono ?_); rintro e w8 ⟨u8, rfl, hs, hb⟩; have HB8 : Hid (Below w.heap.size w w8) := Lib.hid (HB7.out.trans (hb.mono HB7.out.size)); have hcv1 := run_toString hs; have hcv2 := run_toString (HVT.out.below HB8.out (Nat.le_refl _)); rw [HBT2.out] at hcv1 hcv2; have HC9 := Lib.hid (tells_walk w8 (HP.out.below HB8.out (Nat.le_refl _))); clear hs hb)
                  | ((with_reducible refine HC9.out.mono ?_); rintro e w9 ⟨rfl, hb⟩; have HB9 : Hid (Below w.heap.size w w9) := Lib.hid (HB8.out.trans (hb.mono HB8.out.size)); clear hb))
                go_ret
                exact ⟨rfl, HB9.out⟩
        · have HCUTE := Lib.hid hcut
          have HHAS : Hid (has D (.int .i64 (k : Int)) = false ∧ ∀ z, D.atKey (.int .i64 (k : Int)) z = z) := Lib.hid (HD.out.no k (fun i hi => by rw [← HSN.out i]; exact hno i (by have := HN.out; omega)))
          clear hno hcut
          go_wp2_with (first
            | ((with_reducible refine HGB.out.mono ?_); rintro e w5 ⟨u5, rfl, hs, hb⟩; have HS5 := Lib.hid hs; have HB5 := Lib.hid hb; have HG6 := Lib.hid (getG_err w5 (.slice p3 k c3) (X.take k) (HVK.out.below hb (Nat.le_refl _)) (by rw [List.length_take]; have := HKS.out; omega) (HP.out.below (HBT.out.trans (hb.mono HBT.out.size)) (Nat.le_refl _)) 4 HCUTE.out); obtain ⟨p5, c5, hu5⟩ := hs.shape; subst hu5; have hle5 := hs.le; rw [HN.out] at hle5 HS5; rw [HN.out]; clear hs hb)
            | ((with_reducible refine HG6.out.mono ?_); rintro e w6 ⟨rfl, hb⟩; have HS56 := Lib.hid (HS5.out.below hb (Nat.le_refl _)); have HB6 : Hid (Below wr.heap.size wr w6) := Lib.hid (HB5.out.trans (hb.mono HB5.out.size)); have HO6 : Hid (w6.ownsMap Tryd.prog 3 (plainElem Tryd.prog 3) w2.heap.size m0 D) := Lib.hid (by obtain ⟨es, cl, h4, h5⟩ := HOW.out; exact ⟨es, cl, (HB6.out.block _ HE2.out.lt).trans h4, h5⟩); clear hb)
            | (refine wpList_lookup_own_ok_int (H := Unit) _ rfl _ _ 53 rfl 3 3 .i64 mapK Tryd.underlying53 Tryd.underlying3 (zero3 _) w2.heap.size m0 D rfl HO6.out _ (.int .i64 (k : Int)) rfl HKW.out ?_; intro cc hat _; rw [HHAS.out.1]; obtain rfl : cc = 0 := (by rw [HHAS.out.2] at hat; injection hat with hat; injection hat with _ hat; exact hat.symm); clear hat))
          have HW6 : Hid (Below w.heap.size w w6) := Lib.hid (HBT.out.trans (HB6.out.mono HBT.out.size))
          have HA6 : Hid (SlR w6 (.slice p1 j c1) F) := Lib.hid (HA1.out.below ((HB2.out.trans (HBR.out.mono HB2.out.size)).trans (HB6.out.mono (Nat.le_trans HB2.out.size HBR.out.size))) (Nat.le_refl _))
          go_loopw [146] (fun i wx => ∃ ii : Nat, ii ≤ j ∧ i = .int .i64 (ii : Int) ∧ Below w6.heap.size w6 wx) (fun i _ => j - (intOf i).toNat)
          case atStart => exact ⟨0, Nat.zero_le _, rfl, Below.refl _ _⟩
          case round =>
            obtain ⟨ii, hii, rfl, hb⟩ := hrel
            have HBX := Lib.hid hb
            clear hb
            by_cases hij : ii < j
            · obtain ⟨r, hr⟩ : ∃ r, F[ii]? = some r := ⟨_, List.getElem?_eq_getElem (by rw [HN.out]; exact hij)⟩
              obtain ⟨g, o, hp1, -, hcell⟩ := (HA6.out.below HBX.out (Nat.le_refl _)).at (by omega)
              obtain ⟨g5, o5, hp5, -, hcell5⟩ := (HS56.out.below HBX.out (Nat.le_refl _)).at (by omega)
              subst hp1 hp5
              obtain ⟨e0, e1⟩ := hcell ii r hr
              obtain ⟨f0, f1⟩ := hcell5 ii r hr
              obtain ⟨b1, hb1⟩ : ∃ x, (⟨r.1.toArray⟩ : ByteArray) = x := ⟨_, rfl⟩
              obtain ⟨b2, hb2⟩ : ∃ x, (⟨r.2.toArray⟩ : ByteArray) = x := ⟨_, rfl⟩
              rw [hb1] at e0 f0
              rw [hb2] at e1 f1
              have e0D : wr.drew.cell? ⟨g, o + ii * 2, none⟩ = some (.string b1) := e0
              have e1D : wr.drew.cell? ⟨g, o + ii * 2 + 1, none⟩ = some (.string b2) := e1
              have f0D : wr.drew.cell? ⟨g5, o5 + ii * 2, none⟩ = some (.string b1) := f0
              have f1D : wr.drew.cell? ⟨g5, o5 + ii * 2 + 1, none⟩ = some (.string b2) := f1
              have hiI : (ii : Int) < (j : Int) := by omega
              have hi0 : (ii : Int) ≤ 20 := by omega
              have HIJ := Lib.hid hij
              have hd : decide ((ii : Int) < 0) = false := decide_eq_false (by omega)
              have hdN : decide (ii < 0) = false := decide_eq_false (by omega)
              clear hr hcell hcell5 hb1 hb2 hij hii
              go_wp2_with fail
              go_quiet (fail)
              go_wp2_with fail
              refine ⟨⟨ii + 1, HIJ.out, by go_num, below_drewN HBX.out _⟩, by have := HIJ.out; simp only [intOf]; omega⟩
            · obtain rfl : ii = j := by omega
              have hd : decide ((ii : Int) < (ii : Int)) = false := decide_eq_false (by omega)
              have hdN : decide (ii < ii) = false := decide_eq_false (by omega)
              have HBT9 : Hid (Below w.heap.size w wr) := Lib.hid (HW6.out.trans (HBX.out.mono HW6.out.size))
              clear hij hii
              have HVW := Lib.hid (HVT.out.below HBT9.out (Nat.le_refl _))
              have HPW := Lib.hid (HP.out.below HBT9.out (Nat.le_refl _))
              cases hg : Px.get T with
              | error x =>
                have HG := Lib.hid hg
                have hx := Px.get_e _ T x (Nat.le_refl _) hg
                have HC7 := Lib.hid (getG_err wr (.slice pa k2 ca) T HVW.out (by have := HTL.out; omega) HPW.out x hg)
                clear hg
                rcases hx with rfl | rfl
                all_goals go_wp2_with (first
                  | ((with_reducible refine HC7.out.mono ?_); rintro e w7 ⟨rfl, hb⟩; have HB7 : Hid (Below w.heap.size w w7) := Lib.hid (HBT9.out.trans (hb.mono HBT9.out.size)); have HC8 := Lib.hid (tells_walk w7 (HP.out.below HB7.out (Nat.le_refl _))); clear hb)
                  | ((with_reducible refine HC8.out.mono ?_); rintro e w8 ⟨rfl, hb⟩; have HB8 : Hid (Below w.heap.size w w8) := Lib.hid (HB7.out.trans (hb.mono HB7.out.size)); clear hb))
                all_goals go_ret
                all_goals exact ⟨rfl, HB8.out⟩
              | ok rs =>
                have HG := Lib.hid hg
                have HC7 := Lib.hid (getG_good wr (.slice pa k2 ca) T HVW.out (by have := HTL.out; omega) HPW.out rs hg)
                obtain ⟨bT, hbT⟩ : ∃ x, (⟨T.toArray⟩ : ByteArray) = x := ⟨_, rfl⟩
                have HBT2 := Lib.hid hbT
                have hTT : (bT.toList == bT.toList) = true := beq_self_eq_true _
                clear hg hbT
                go_wp2_with (first
                  | ((with_reducible refine HC7.out.mono ?_); rintro e w7 ⟨u7, rfl, hs, hb⟩; have HB7 : Hid (Below w.heap.size w w7) := Lib.hid (HBT9.out.trans (hb.mono HBT9.out.size)); have HC8 := Lib.hid (put_back w7 u7 T rs hs HTL.out (HP.out.below HB7.out (Nat.le_refl _)) HG.out); clear hs hb)
                  | ((with_reducible refine HC8.out.mono ?_); rintro e w8 ⟨u8, rfl, hs, hb⟩; have HB8 : Hid (Below w.heap.size w w8) := Lib.hid (HB7.out.trans (hb.mono HB7.out.size)); have hcv1 := run_toString hs; have hcv2 := run_toString (HVT.out.below HB8.out (Nat.le_refl _)); rw [HBT2.out] at hcv1 hcv2; have HC9 := Lib.hid (tells_walk w8 (HP.out.below HB8.out (Nat.le_refl _))); clear hs hb)
                  | ((with_reducible refine HC9.out.mono ?_); rintro e w9 ⟨rfl, hb⟩; have HB9 : Hid (Below w.heap.size w w9) := Lib.hid (HB8.out.trans (hb.mono HB8.out.size)); clear hb))
                go_ret
                exact ⟨rfl, HB9.out⟩
end Go.Proofs.YtjgphicmkmdeiaaDoor
