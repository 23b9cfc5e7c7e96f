/-
  ShaKnown: the law's walk.
-/
import Derived.Test.YtdkajbhhmgmohaaDoorKnown0
import Derived.Test.YtdkajbhhmgmohaaDoorRept
import Derived.Test.YtdkajbhhmgmohaaDoorSumsWalk
import Derived.Test.YtdkajbhhmgmohaaDoorWakes
import Derived.Test.YtdkajbhhmgmohaaDoorMilS
import Derived.Lib.ConvBytes
namespace Go.Proofs.YtdkajbhhmgmohaaDoor
open Go.RowKit Sha
/-- A guarded operation that is wanted. -/
theorem wpList_wantedK {P : Program} {ops : Array Oper} {rest : List Oper} {o : Oper} {a : Act} {w : World} {Q : Exit → Act → World → Prop} (hg : Region.wanted o (yielded ops a.tmps) = true)
    (h : ∀ K : Act → World → Prop, (∀ a w, wpList P ops Q rest a w → K a w) → o.wp P a w K Q) : wpList P ops Q (o :: rest) a w :=
  wpList_step fun K hK => by rw [hg]; simp only [if_true]; exact h K hK
theorem wpList_buildXK {w : World} {ops : Array Oper} {rest : List Oper} {o : Oper} {a : Act} {Q : Exit → Act → World → Prop} (hg : Region.wanted o (yielded ops a.tmps) = true) (t : TypeId) (parts : Array (Nat × Operand)) (ho : o.op = .build t parts)
    (cs : Array Value) (hf : Tryd.prog.built t (parts.map fun (i, x) => (i, a.eval x)).toList = some cs)
    (h : wpList Tryd.prog ops Q rest (a.put o.dst (.agg cs)) w) : wpList Tryd.prog ops Q (o :: rest) a w :=
  wpList_wantedK hg fun _ hK => wp_build t parts ho (by rw [hf]; rfl) (hK _ _ (by rw [hf]; exact h))
theorem zc55_is : Tryd.zeroCells55 = stc false z0 (List.replicate 64 0) 0 := by kernel_rfl
def gL : List UInt8 := preL ++ List.replicate 64 103
def pre5L : List UInt8 := [115, 104, 97, 53, 49, 50, 58]
def oL : List UInt8 := pre5L ++ List.replicate 64 48
def fL : List UInt8 := preL ++ List.replicate 62 48 ++ [49, 102]
def fD : List UInt8 := List.replicate 31 0 ++ [31]
theorem parse_e : parseL [] = none := parse_none1 _ (by decide)
theorem parse_g : parseL gL = none := parse_none2 _ 0 (by decide) (by decide +kernel)
theorem parse_o : parseL oL = none := parse_none1 _ (by decide +kernel)
theorem parse_f : parseL fL = some fD := by
  rw [parse_some fL (by decide +kernel) (by decide +kernel) (by decide +kernel)]
  congr 1
theorem rep_g : Lib.repeatL [103] 64 = List.replicate 64 103 := by decide +kernel
theorem rep_o : Lib.repeatL [48] 64 = List.replicate 64 48 := by decide +kernel
theorem rep_f : Lib.repeatL [48] 62 = List.replicate 62 48 := by decide +kernel
theorem below_bytes (w : World) (s : ByteArray) : Below w.heap.size w (Lib.bytesWorld w 5 s) :=
  ⟨rfl, rfl, rfl, by rw [Lib.bytesWorld_size]; exact Nat.le_succ _, fun j hj => Lib.bytesWorld_at_old w 5 s j hj⟩
theorem slw_bytes (w : World) (l : List UInt8) (n : Nat) (hn : n = l.length) : SlW (Lib.bytesWorld w 5 ⟨l.toArray⟩) (.slice (some ⟨w.heap.size, 0, none⟩) n (grownCap w n 0 5)) l := by
  subst hn
  exact .inl ⟨w.heap.size, 0, _, rfl, by have := grownCap_ge w l.length 0 5; omega, fun i hi => by
    rw [Nat.zero_add, Lib.bytesWorld_cell w 5 ⟨l.toArray⟩ i (show i < l.toArray.size by simpa using hi)]
    rfl⟩
theorem bx {B : Nat} {a b c : World} (h : Below B a b) (hB : B ≤ a.heap.size) (k : Below b.heap.size b c) : Below B a c := h.trans (k.mono (Nat.le_trans hB h.size))
set_option maxRecDepth 100000 in
set_option maxHeartbeats 4000000 in
theorem known_walk (w : World) (hK : KAt w) (hH : HAt w) : Calls Tryd.prog 7 #[] w (BoolPost true w) := by
  have hK2 : 2 < w.heap.size := block_lt_of_cell (hK 0 (by omega))
  have kc := fun (w : World) (C : Array Value) (n c : Nat) => Lib.run_convert_bytes_const (P := Tryd.prog) w 22 5 C n c Tryd.underlying22 Tryd.underlying5
  have ks : ∀ w : World, (convert 9 22 (.string ⟨twoL.toArray⟩)).run Tryd.prog w = .ok (.slice (some ⟨w.heap.size, 0, none⟩) 56 (grownCap w 56 0 5)) (Lib.bytesWorld w 5 ⟨twoL.toArray⟩) := fun w => Lib.run_convert_string_bytes (P := Tryd.prog) w 9 22 5 ⟨twoL.toArray⟩ Tryd.underlying9 Tryd.underlying22 Tryd.underlying5
  unfold twoL at ks
  obtain ⟨zl, hzl⟩ : ∃ zl, zl = bcells (List.replicate 32 0) := ⟨_, rfl⟩
  have HZ := Lib.hid hzl
  have hgd25 : Tryd.prog.eqGuardType Tryd.prog.depth 25 = false := by kernel_rfl
  have hsz := same25 (List.replicate 32 0) (by simp)
  have SUMNO : Hid (∀ wx v, NoSt wx v → Calls Tryd.prog 20 #[v] wx fun e w' => e = .returned (.agg zl) ∧ Below wx.heap.size wx w') := Lib.hid (fun wx v h => by rw [hzl]; exact sum_no wx v h)
  rw [← hzl] at hsz
  clear hzl
  obtain ⟨z74, hz74⟩ : ∃ z74, z74 = Tryd.zeroCells55 := ⟨_, rfl⟩
  have hrow0 := heap_alloc_new w (.cells Tryd.zeroCells55 55)
  have NS : Hid (∀ w', Below (w.heap.size + 1) (w.alloc (.cells Tryd.zeroCells55 55)) w' → NoSt w' (.pointer (some ⟨w.heap.size, 0, none⟩))) := Lib.hid (fun w' hb => .inr ⟨_, 55, z0, List.replicate 64 0, 0, rfl, by
    rw [← zc55_is, hb.block _ (Nat.lt_succ_self _)]; exact hrow0⟩)
  have NN : Hid (∀ w', NoSt w' (.pointer none)) := Lib.hid (fun w' => .inl rfl)
  clear hrow0 hz74
  go_enter Tryd.func7, Tryd.ntmps7
  go_wp2_with fail
  refine (write_no _ _ _ (NN.out _)).mono ?_
  rintro e w1 ⟨rfl, hw1⟩
  have HB1 : Hid (Below (w.heap.size + 1) (w.alloc (.cells Tryd.zeroCells55 55)) w1) := Lib.hid (by rw [hw1]; exact Below.refl _ _)
  clear hw1
  have HA : Hid (w.heap.size + 1 ≤ (w.alloc (.cells Tryd.zeroCells55 55)).heap.size) := Lib.hid (by simp)
  have hba : Below w.heap.size w (w.alloc (.cells Tryd.zeroCells55 55)) := (Below.refl _ _).alloc (Nat.le_refl _) _
  have FIN : Hid (∀ w', Below (w.heap.size + 1) (w.alloc (.cells Tryd.zeroCells55 55)) w' → Below w.heap.size w w') := Lib.hid (fun w' h => hba.trans (h.mono (Nat.le_succ _)))
  clear hba
  generalize (w.alloc (.cells Tryd.zeroCells55 55)) = wa at *
  go_wp2_with fail
  have HB2 := Lib.hid (bx HB1.out HA.out ((Below.refl _ _).alloc (Nat.le_refl _) (.cells #[.int .u8 1] 5)))
  refine (write_no _ _ _ (NS.out _ HB2.out)).mono ?_
  rintro e w2 ⟨rfl, hw2⟩
  rw [hw2] at HB2
  clear hw2 HB1
  go_wp2_with fail
  refine (SUMNO.out _ _ (NN.out _)).mono ?_
  rintro e w3 ⟨rfl, hb3⟩
  have HB3 := Lib.hid (bx HB2.out HA.out hb3)
  clear hb3 HB2
  go_wp2_with (refine wpList_buildXK rfl 25 _ rfl zl (by rw [HZ.out]; kernel_rfl) ?_)
  refine (SUMNO.out _ _ (NS.out _ HB3.out)).mono ?_
  rintro e w4 ⟨rfl, hb4⟩
  have HB4 := Lib.hid (bx HB3.out HA.out hb4)
  clear hb4 HB3
  go_wp2_with (refine wpList_buildXK rfl 25 _ rfl zl (by rw [HZ.out]; kernel_rfl) ?_)
  refine (len_no _ _ (NN.out _)).mono ?_
  rintro e w5 ⟨rfl, rfl⟩
  go_wp2_with fail
  refine (copy_no _ _ (NN.out _)).mono ?_
  rintro e w5 ⟨rfl, rfl⟩
  go_wp2_with fail
  refine (copy_no _ _ (NS.out _ HB4.out)).mono ?_
  rintro e w5 ⟨rfl, rfl⟩
  go_wp2_with fail
  have hbc := bx HB4.out HA.out ((Below.refl w4.heap.size w4).alloc (Nat.le_refl _) (.cells #[.int .u8 97] 5 (1, 2)))
  have HBC := Lib.hid hbc
  clear hbc
  refine (repeat_walk _ _ 97 1000000 (.inl ⟨w4.heap.size, 0, 1, rfl, Nat.le_refl _, fun i hi => by
    rw [Nat.zero_add, cell_of_row _ _ _ _ _ _ (heap_alloc_new _ _)]
    have : i = 0 := by simp at hi; omega
    subst this; rfl⟩) (by decide) (by decide)).mono ?_
  rintro e w6 ⟨vm, rfl, hsm, hb6⟩
  have HB6 := Lib.hid (bx HBC.out HA.out hb6)
  have HM6 := Lib.hid hsm
  clear hb6 hsm HB4 HBC
  go_wp2_with fail
  refine (parse_walk [] _ (by decide)).mono ?_
  rintro e w7 ⟨rfl, hb7⟩
  rw [parse_e]
  have HB7 := Lib.hid (bx HB6.out HA.out hb7)
  have HM7 := Lib.hid (HM6.out.below hb7 (Nat.le_refl _))
  clear hb7 HB6 HM6
  have HI : Hid ((Tryd.prog.info? 25).map (·.size) = some zl.size) := Lib.hid (by rw [HZ.out, bcells_size, List.length_replicate]; exact size25)
  have H1 : Hid (zl.all (·.oneCell') = true) := Lib.hid (by rw [HZ.out]; exact bcells_one _)
  have HO : Hid ((bcells (List.replicate 32 0)).size = zl.size) := Lib.hid (by rw [HZ.out])
  have hpn : pval none = .tuple #[.agg zl, .int .i64 5] := by rw [HZ.out]; rfl
  rw [hpn]
  have HPN := Lib.hid hpn
  clear hpn
  go_wp2_with (refine wpList_store_rowX rfl 25 _ _ rfl w7.heap.size zl rfl rfl 25 (bcells (List.replicate 32 0)) (heap_alloc_new _ _) HI.out HO.out H1.out ?_
               intro w8 hrow8 ho8 hs8
               have hb8 : Below w7.heap.size w7 w8 := ((Below.refl _ _).alloc (Nat.le_refl _) _).trans (Below.of_only ho8 (Nat.le_refl _) (by simp))
               have HB8 := Lib.hid (bx HB7.out HA.out hb8)
               have HM8 := Lib.hid (HM7.out.below hb8 (Nat.le_refl _))
               clear hrow8 ho8 hs8 hb8)
  refine (srepeat_walk ⟨#[103]⟩ 64 _ (by decide) (by decide)).mono ?_
  rintro e w9 ⟨rfl, hb9⟩
  obtain ⟨RG, hRG⟩ : ∃ RG : ByteArray, RG = ⟨(Lib.repeatL (⟨#[103]⟩ : ByteArray).data.toList 64).toArray⟩ := ⟨_, rfl⟩
  rw [← hRG]
  have HB9 := Lib.hid (bx HB8.out HA.out hb9)
  have HM9 := Lib.hid (HM8.out.below hb9 (Nat.le_refl _))
  have hrs : RG.size = 64 := by rw [hRG]; decide +kernel
  have HAD : Hid ((⟨#[115, 104, 97, 50, 53, 54, 58]⟩ : ByteArray) ++ RG = ⟨gL.toArray⟩) := Lib.hid (by rw [hRG]; decide +kernel)
  clear hb9 HB8 HM8 hRG HB7 HM7
  go_wp2_with fail
  rw [HAD.out]
  refine (parse_walk gL _ (by decide)).mono ?_
  rintro e w10 ⟨rfl, hbp⟩
  rw [parse_g, HPN.out]
  have HB10 := Lib.hid (bx HB9.out HA.out hbp)
  have HM10 := Lib.hid (HM9.out.below hbp (Nat.le_refl _))
  clear hbp
  go_wp2_with (refine wpList_store_rowX rfl 25 _ _ rfl w10.heap.size zl rfl rfl 25 (bcells (List.replicate 32 0)) (heap_alloc_new _ _) HI.out HO.out H1.out ?_
               intro w11 hrow ho hs
               have hb : Below w10.heap.size w10 w11 := ((Below.refl _ _).alloc (Nat.le_refl _) _).trans (Below.of_only ho (Nat.le_refl _) (by simp))
               have HB11 := Lib.hid (bx HB10.out HA.out hb)
               have HM11 := Lib.hid (HM10.out.below hb (Nat.le_refl _))
               clear hrow ho hs hb)
  clear HB10 HM10 HB9 HM9
  refine (srepeat_walk ⟨#[48]⟩ 64 _ (by decide) (by decide)).mono ?_
  rintro e w12 ⟨rfl, hb12⟩
  obtain ⟨RO, hRO⟩ : ∃ RO : ByteArray, RO = ⟨(Lib.repeatL (⟨#[48]⟩ : ByteArray).data.toList 64).toArray⟩ := ⟨_, rfl⟩
  rw [← hRO]
  have HB12 := Lib.hid (bx HB11.out HA.out hb12)
  have HM12 := Lib.hid (HM11.out.below hb12 (Nat.le_refl _))
  have hrs2 : RO.size = 64 := by rw [hRO]; decide +kernel
  have HAD2 : Hid ((⟨#[115, 104, 97, 53, 49, 50, 58]⟩ : ByteArray) ++ RO = ⟨oL.toArray⟩) := Lib.hid (by rw [hRO]; decide +kernel)
  clear hb12 hRO
  go_wp2_with fail
  rw [HAD2.out]
  refine (parse_walk oL _ (by decide)).mono ?_
  rintro e w13 ⟨rfl, hbp⟩
  rw [parse_o, HPN.out]
  have HB13 := Lib.hid (bx HB12.out HA.out hbp)
  have HM13 := Lib.hid (HM12.out.below hbp (Nat.le_refl _))
  clear hbp
  go_wp2_with (refine wpList_store_rowX rfl 25 _ _ rfl w13.heap.size zl rfl rfl 25 (bcells (List.replicate 32 0)) (heap_alloc_new _ _) HI.out HO.out H1.out ?_
               intro w14 hrow ho hs
               have hb : Below w13.heap.size w13 w14 := ((Below.refl _ _).alloc (Nat.le_refl _) _).trans (Below.of_only ho (Nat.le_refl _) (by simp))
               have HB14 := Lib.hid (bx HB13.out HA.out hb)
               have HM14 := Lib.hid (HM13.out.below hb (Nat.le_refl _))
               clear hrow ho hs hb)
  clear HB13 HM13 HB12 HM12
  refine (srepeat_walk ⟨#[48]⟩ 62 _ (by decide) (by decide)).mono ?_
  rintro e w15 ⟨rfl, hb15⟩
  obtain ⟨RF, hRF⟩ : ∃ RF : ByteArray, RF = ⟨(Lib.repeatL (⟨#[48]⟩ : ByteArray).data.toList 62).toArray⟩ := ⟨_, rfl⟩
  rw [← hRF]
  have HB15 := Lib.hid (bx HB14.out HA.out hb15)
  have HM15 := Lib.hid (HM14.out.below hb15 (Nat.le_refl _))
  have hrs3 : RF.size = 62 := by rw [hRF]; decide +kernel
  have HAD3 : Hid ((⟨#[115, 104, 97, 50, 53, 54, 58]⟩ : ByteArray) ++ RF ++ (⟨#[49, 102]⟩ : ByteArray) = ⟨fL.toArray⟩) := Lib.hid (by rw [hRF]; decide +kernel)
  clear hb15 hRF HB14 HM14
  go_wp2_with fail
  rw [HAD3.out]
  refine (parse_walk fL _ (by decide)).mono ?_
  rintro e w16 ⟨rfl, hbp⟩
  rw [parse_f, pval_some]
  have HB16 := Lib.hid (bx HB15.out HA.out hbp)
  have HM16 := Lib.hid (HM15.out.below hbp (Nat.le_refl _))
  clear hbp HB15 HM15
  obtain ⟨fl, hfl⟩ : ∃ fl, fl = bcells fD := ⟨_, rfl⟩
  rw [← hfl]
  have HIF : Hid ((Tryd.prog.info? 25).map (·.size) = some fl.size) := Lib.hid (by rw [hfl, bcells_size]; exact size25)
  have HOF : Hid ((bcells (List.replicate 32 0)).size = fl.size) := Lib.hid (by rw [hfl]; rfl)
  have H1F : Hid (fl.all (·.oneCell') = true) := Lib.hid (by rw [hfl]; exact bcells_one _)
  have HFL := Lib.hid hfl
  clear hfl
  go_wp2_with (refine wpList_store_rowX rfl 25 _ _ rfl w16.heap.size fl rfl rfl 25 (bcells (List.replicate 32 0)) (heap_alloc_new _ _) HIF.out HOF.out H1F.out ?_
               intro w17 hrow ho hs
               have hb : Below w16.heap.size w16 w17 := ((Below.refl _ _).alloc (Nat.le_refl _) _).trans (Below.of_only ho (Nat.le_refl _) (by simp))
               have HB17 := Lib.hid (bx HB16.out HA.out hb)
               have HM17 := Lib.hid (HM16.out.below hb (Nat.le_refl _))
               have HR17 := Lib.hid hrow
               clear hrow ho hs hb)
  have hb17 := below_bytes w17 ⟨twoL.toArray⟩
  have hsw := slw_bytes w17 twoL 56 rfl
  unfold twoL at hb17 hsw
  have HB18 := Lib.hid (bx HB17.out HA.out hb17)
  have HM18 := Lib.hid (HM17.out.below hb17 (Nat.le_refl _))
  have HR18 := Lib.hid ((hb17.block _ (Array.getElem?_eq_some_iff.1 HR17.out).1).trans HR17.out)
  have HSW := Lib.hid hsw
  clear hb17 hsw ks HB16 HM16 HB17 HM17 HR17
  generalize Lib.bytesWorld w17 5 _ = w18 at *
  generalize grownCap w17 56 0 5 = cap56 at *
  have HKH : Hid (∀ w', Below (w.heap.size + 1) wa w' → KAt w' ∧ HAt w') := Lib.hid (fun w' h => ⟨hK.below (FIN.out _ h) hK2, hH.below (FIN.out _ h) (by omega)⟩)
  refine (sum_walk w18 _ _ HSW.out (HKH.out _ HB18.out).1 (HKH.out _ HB18.out).2 (by decide)).mono ?_
  rintro e w19 ⟨rfl, hb19⟩
  have HB19 := Lib.hid (bx HB18.out HA.out hb19)
  have HM19 := Lib.hid (HM18.out.below hb19 (Nat.le_refl _))
  have HR19 := Lib.hid ((hb19.block _ (Array.getElem?_eq_some_iff.1 HR18.out).1).trans HR18.out)
  clear hb19 HB18 HM18 HR18 HSW
  go_wp2_with fail
  refine (name_walk _ (shaL_length _) _).mono ?_
  rintro e w20 ⟨rfl, hb20⟩
  have HB20 := Lib.hid (bx HB19.out HA.out hb20)
  have HM20 := Lib.hid (HM19.out.below hb20 (Nat.le_refl _))
  have HR20 := Lib.hid ((hb20.block _ (Array.getElem?_eq_some_iff.1 HR19.out).1).trans HR19.out)
  clear hb20 HB19 HM19 HR19
  have hnt := nameT_eq
  unfold twoL nameT at hnt
  rw [hnt]
  clear hnt
  go_wp2_with fail
  refine (sum_walk _ _ _ HM20.out (HKH.out _ HB20.out).1 (HKH.out _ HB20.out).2 (by rw [List.length_replicate]; decide)).mono ?_
  rintro e w21 ⟨rfl, hb21⟩
  have HB21 := Lib.hid (bx HB20.out HA.out hb21)
  have HM21 := Lib.hid (HM20.out.below hb21 (Nat.le_refl _))
  have HR21 := Lib.hid ((hb21.block _ (Array.getElem?_eq_some_iff.1 HR20.out).1).trans HR20.out)
  clear hb21 HB20 HM20 HR20
  have hnm := nameM_eq
  have hml := shaL_length (List.replicate 1000000 97)
  clear HM21
  generalize shaL (List.replicate 1000000 97) = DM at *
  go_wp2_with fail
  refine (name_walk DM hml _).mono ?_
  rintro e w22 ⟨rfl, hb22⟩
  have HB22 := Lib.hid (bx HB21.out HA.out hb22)
  have HR22 := Lib.hid ((hb22.block _ (Array.getElem?_eq_some_iff.1 HR21.out).1).trans HR21.out)
  clear hb22 HB21 HR21
  unfold nameM at hnm
  rw [hnm]
  clear hnm
  go_wp2_with fail
  refine (all_walk _ _ [] (.inr ⟨rfl, rfl⟩) (HKH.out _ HB22.out).1 (HKH.out _ HB22.out).2 (by decide) (by decide)).mono ?_
  rintro e w23 ⟨rfl, hb23⟩
  have HB23 := Lib.hid (bx HB22.out HA.out hb23)
  have HR23 := Lib.hid ((hb23.block _ (Array.getElem?_eq_some_iff.1 HR22.out).1).trans HR22.out)
  clear hb23 HB22 HR22
  rw [show cat [] = [] from rfl]
  obtain ⟨DE, hDE⟩ : ∃ DE, DE = bcells (shaL []) := ⟨_, rfl⟩
  have hsE := same25 (shaL []) (shaL_length _)
  rw [← hDE] at hsE
  have HDE := Lib.hid hDE
  have SUME : Hid (∀ wx, KAt wx → HAt wx → Calls Tryd.prog 9 #[.slice none 0 0] wx fun e w' => e = .returned (.agg DE) ∧ Below wx.heap.size wx w') := Lib.hid (fun wx h1 h2 => by
    rw [hDE]; exact sum_walk wx _ [] (.inr ⟨none, rfl, rfl⟩) h1 h2 (by decide))
  rw [← hDE]
  clear hDE
  go_wp2_with fail
  refine (SUME.out _ (HKH.out _ HB23.out).1 (HKH.out _ HB23.out).2).mono ?_
  rintro e w24 ⟨rfl, hb24⟩
  have HB24 := Lib.hid (bx HB23.out HA.out hb24)
  have HR24 := Lib.hid ((hb24.block _ (Array.getElem?_eq_some_iff.1 HR23.out).1).trans HR23.out)
  clear hb24 HB23 HR23
  go_wp2_with fail
  refine (new_walk _ (HKH.out _ HB24.out).2).mono ?_
  rintro e w25 ⟨rfl, hw25⟩
  have hb25 : Below w24.heap.size w24 w25 := by rw [hw25]; exact (Below.refl _ _).alloc (Nat.le_refl _) _
  have HST := Lib.hid (stAt_new w25 w24.heap.size (by rw [hw25]; exact heap_alloc_new _ _))
  have HB25 := Lib.hid (bx HB24.out HA.out hb25)
  have HR25 := Lib.hid ((hb25.block _ (Array.getElem?_eq_some_iff.1 HR24.out).1).trans HR24.out)
  clear hb25 hw25 HB24 HR24
  go_wp2_with fail
  refine (stsum_walk w24.heap.size 55 [] _ HST.out (HKH.out _ HB25.out).1 (by decide)).mono ?_
  rintro e w26 ⟨rfl, hb26⟩
  have HB26 := Lib.hid (bx HB25.out HA.out hb26)
  have HR26 := Lib.hid ((hb26.block _ (Array.getElem?_eq_some_iff.1 HR25.out).1).trans HR25.out)
  clear hb26 HB25 HR25 HST
  rw [← HDE.out]
  go_wp2_with fail
  refine (SUME.out _ (HKH.out _ HB26.out).1 (HKH.out _ HB26.out).2).mono ?_
  rintro e w27 ⟨rfl, hb27⟩
  have HB27 := Lib.hid (bx HB26.out HA.out hb27)
  have HR27 := Lib.hid ((hb27.block _ (Array.getElem?_eq_some_iff.1 HR26.out).1).trans HR26.out)
  clear hb27 HB26 HR26
  have c31 : w27.cell? ⟨w16.heap.size, 31, none⟩ = some (.int .u8 31) := by rw [cell_of_row _ _ _ _ _ _ HR27.out, HFL.out]; kernel_rfl
  have c30 : w27.cell? ⟨w16.heap.size, 30, none⟩ = some (.int .u8 0) := by rw [cell_of_row _ _ _ _ _ _ HR27.out, HFL.out]; kernel_rfl
  go_wp2_with fail
  refine (wakes_walk _ (HKH.out _ HB27.out).1 (HKH.out _ HB27.out).2).mono ?_
  rintro e w28 ⟨rfl, hb28⟩
  have HB28 := Lib.hid (bx HB27.out HA.out hb28)
  clear hb28
  go_wp2_with fail
  go_ret
  exact ⟨rfl, FIN.out _ HB28.out⟩
end Go.Proofs.YtdkajbhhmgmohaaDoor
