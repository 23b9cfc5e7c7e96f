/-
  The document's own Number: the way in base 256.
-/
import Derived.BigQuiet
import Derived.Test.YtkkelmlkpehcpaaDoorFt
import Derived.Test.YtkkelmlkpehcpaaDoorFy
import Derived.Test.YtkkelmlkpehcpaaDoorFnm
namespace Go.Proofs.YtkkelmlkpehcpaaDoor
open Go.RowKit

def bv (l : List Bool) : List Value := l.map Value.bool
@[simp] theorem bv_length (l : List Bool) : (bv l).length = l.length := by simp [bv]
theorem bv_drop (l : List Bool) (k : Nat) : (bv l).drop k = bv (l.drop k) := by simp [bv, List.map_drop]
theorem bv_append (a b : List Bool) : bv (a ++ b) = bv a ++ bv b := by simp [bv]
theorem RowAt.bv {w : World} {g o : Nat} {l : List Bool} (h : RowAt w g o (bv l)) (i : Nat) (hi : i < l.length) : w.cell? ⟨g, o + i, none⟩ = some (.bool (l.getD i false)) := by
  have := h i (.bool (l.getD i false)) (by simp [Go.Proofs.YtkkelmlkpehcpaaDoor.bv, hi])
  exact this
theorem infoBool : (Tryd.prog.info? 4).map (fun i => (i.zero, i.size, i.bytes)) = some (some (.bool false), 1, 1) := by kernel_rfl
theorem slice_from61 {w : World} {p : Option Addr} {n cap : Nat} {vs : List Value} (h : SlV w (.slice p n cap) vs) (hk : 1 ≤ n) :
    ∃ p' c', (∀ w', (Instr.sliceAt 61 (.slice p n cap) (some (.int .i64 1)) none none).run Tryd.prog w' = .ok (.slice p' (n - 1) c') w') ∧ SlV w (.slice p' (n - 1) c') (vs.drop 1) := by
  have hc := h.le
  have hl := h.len
  rcases h with ⟨g, o, cap', h, h2, hB⟩ | ⟨p', h, hn⟩
  · cases h
    have h1' : (1 : Int) ≤ (vs.length : Int) := by omega
    have h1'' : (vs.length : Int) ≤ (cap : Int) := by omega
    have hd : (vs.drop 1).length = vs.length - 1 := List.length_drop
    by_cases hck : cap = 1
    · have hkl : vs.length = 1 := by omega
      refine ⟨some ⟨g, o, none⟩, 0, fun w' => ?_, .inr ⟨_, by rw [hkl, Nat.sub_self], List.drop_eq_nil_of_le (by omega)⟩⟩
      subst hck
      rw [hkl]
      go_simp
    · refine ⟨some ⟨g, o + 1, none⟩, cap - 1, fun w' => ?_, .inl ⟨g, o + 1, cap - 1, by rw [hd], by rw [hd]; omega, hB.drop 1⟩⟩
      go_simp
  · cases h
    omega
/-- The bits so far, a row that the call has made. -/
structure BitRow (w wr : World) (v : Value) (B : List Bool) : Prop where
  own : wr.ownsRow w.heap.size 4 1 v B.length (bv B)
  below : Below w.heap.size w wr
theorem one_new (w : World) (x : Value) (j : Nat) (u : Value) (h : [x][j]? = some u) : (w.alloc (.cells #[x] 4)).cell? ((⟨w.heap.size, 0, none⟩ : Addr).add j) = some u := by
  match j, h with
  | 0, h =>
    rw [← h]
    have e : (⟨w.heap.size, 0, none⟩ : Addr).add 0 = ⟨w.heap.size, 0, none⟩ := by unfold Addr.add; split <;> simp_all
    rw [e]
    exact cell_of_row _ _ 0 _ _ _ (heap_alloc_new _ _)
  | j + 1, h => simp at h
def BOuter (w : World) (l : List UInt8) (v i : Value) (wr : World) : Prop := ∃ k : Nat, k ≤ l.length ∧ i = .int .i64 k ∧ BitRow w wr v (Fx.allBits (l.take k))
def BMid (w : World) (X : List Bool) (a : UInt8) (v k : Value) (wr : World) : Prop := ∃ r : Nat, r ≤ 8 ∧ k = .int .i64 (7 - (r : Int)) ∧ BitRow w wr v (X ++ Fx.topBits r a)
def BIn (a : UInt8) (K : Nat) (x j : Value) : Prop := ∃ q : Nat, q ≤ K ∧ j = .int .i64 q ∧ x = .int .u8 ((a.toNat / 2 ^ q : Nat) : Int)
def BDrop (w : World) (m : Nat) (N : Int) (v : Value) (wr : World) : Prop := ∃ C : List Bool, SlV wr v (bv C) ∧ 1 ≤ C.length ∧ C.length + 1 ≤ 8 * m ∧ Fx.tc C = N ∧ Below w.heap.size w wr
def BAcc (C : List Bool) (n i : Value) : Prop := ∃ k : Nat, 1 ≤ k ∧ k ≤ C.length ∧ i = .int .i64 k ∧ n = .int .i64 (Fx.tc (C.take k))
theorem take_one_more (l : List UInt8) (k : Nat) (h : k < l.length) : l.take (k + 1) = l.take k ++ [l.getD k 0] := by
  rw [List.take_add_one]; simp [h]
set_option maxRecDepth 100000 in
set_option maxHeartbeats 2000000 in
theorem rnum_wide (w : World) (g o m cap : Nat) (b : UInt8) (t : List UInt8) (hrow : RowAt w g o (bl (b :: t))) (hm : (b :: t).length = m) (h2 : m ≤ 20) (hb : 128 ≤ b.toNat) :
    Calls Tryd.prog 15 #[.slice (some ⟨g, o, none⟩) m cap] w fun e w' => e = .returned (.tuple #[.int .i64 (Fx.num (b :: t)).1, .int .i64 (Fx.num (b :: t)).2]) ∧ Below w.heap.size w w' := by
  have HN := Lib.hid (Fx.num_tc b t hb (by simp at hm; omega))
  have hm1 : 1 ≤ m := by rw [← hm]; simp
  have HT : Hid (t = [] ↔ m = 1) := Lib.hid (by rw [← hm]; simp)
  have hc : w.cell? ⟨g, o, none⟩ = some (.int .u8 (bi b)) := hrow.bl 0 (by simp)
  have hbi : decide (bi b < 128) = false := decide_eq_false (by unfold bi; omega)
  generalize hl : b :: t = l at *
  have HL := Lib.hid hl
  clear hl
  have HROW := Lib.hid hrow
  have HM := Lib.hid hm
  have HG := Lib.hid (hrow.lt (by rw [bl_length]; omega))
  have hi : (0 : Int) < (m : Int) := by omega
  have hi2 : (m : Int) ≤ 20 := by omega
  have hd1 : decide ((m : Int) < 1) = false := decide_eq_false (by omega)
  have hd2 : decide (20 < (m : Int)) = false := decide_eq_false (by omega)
  clear hrow hm hm1 h2 hb
  obtain ⟨i0, hinf, hz0, hz1, hz2⟩ := info_parts infoBool
  have HI := Lib.hid (And.intro hinf (And.intro hz0 (And.intro hz1 hz2)))
  clear hinf hz0 hz1 hz2
  go_enter Tryd.func15, Tryd.ntmps15
  go_wp2_with fail
  clear hc hbi
  go_loopw [6, 7] (fun v i wr => BOuter w l v i wr) (fun _ i _ => l.length - (intOf i).toNat)
  case atStart => exact ⟨0, by omega, rfl, ⟨World.ownsRow_nil _ _ _ _, Below.refl _ _⟩⟩
  case round =>
    obtain ⟨k, hk, rfl, hA⟩ := hrel
    have HA := Lib.hid hA
    clear hA
    by_cases hlt : k < m
    · have hltI : (k : Int) < (m : Int) := by omega
      obtain ⟨a, ha⟩ : ∃ a, l.getD k 0 = a := ⟨_, rfl⟩
      have HTK : Hid (Fx.allBits (l.take (k + 1)) = Fx.allBits (l.take k) ++ Fx.topBits 8 a) := Lib.hid (by rw [take_one_more l k (by have := HM.out; omega), Fx.allBits_append, ha]; simp [Fx.allBits])
      have HCK : Hid (w.cell? ⟨g, o + k, none⟩ = some (.int .u8 (bi a))) := Lib.hid (by rw [← ha]; exact HROW.out.bl k (by have := HM.out; omega))
      have HXL : Hid ((Fx.allBits (l.take k)).length ≤ 160) := Lib.hid (by rw [Fx.allBits_length, List.length_take]; have := HM.out; omega)
      generalize Fx.allBits (l.take k) = X at *
      clear ha
      go_wp2_with fail
      go_loopw [6, 8] (fun v i wr => BMid w X a v i wr) (fun _ i _ => (intOf i + 1).toNat)
      case atStart => exact ⟨0, by omega, rfl, by rw [show Fx.topBits 0 a = [] from rfl, List.append_nil]; exact HA.out⟩
      case round =>
        clear HA
        obtain ⟨r, hr, rfl, hA⟩ := hrel
        have HA := Lib.hid hA
        clear hA
        by_cases hr8 : r < 8
        · obtain ⟨K, hK⟩ : ∃ K : Nat, (7 : Int) - (r : Int) = (K : Int) := ⟨7 - r, by omega⟩
          have HK : Hid (r + K = 7) := Lib.hid (by omega)
          rw [hK]
          clear hK hr8
          have hck := (HA.out.below.cell (p := ⟨g, o + k, none⟩) HG.out).trans HCK.out
          have hab := bi_lt a
          go_wp2_with fail
          go_loop [9, 10] (fun x j => BIn a K x j) (fun _ j => K - (intOf j).toNat)
          case atStart => exact ⟨0, by omega, rfl, by simp [bi]⟩
          case round =>
            clear hck hab
            obtain ⟨q, hq, rfl, rfl⟩ := hrel
            obtain ⟨y, hy⟩ : ∃ y, a.toNat / 2 ^ q = y := ⟨_, rfl⟩
            have hy2 : (y : Int) < 256 := by
              have h1 := a.toNat_lt
              have h3 : a.toNat / 2 ^ q ≤ a.toNat := Nat.div_le_self _ _
              omega
            have HY := Lib.hid hy
            rw [hy]
            clear hy
            have hqb : (q : Int) ≤ 7 := by have := HK.out; omega
            by_cases hqK : q < K
            · have hqI : (q : Int) < (K : Int) := by omega
              go_wp2_with fail
              refine ⟨⟨q + 1, by omega, by go_num, ?_⟩, by simp [intOf]; omega⟩
              congr 1
              rw [Nat.pow_succ, ← Nat.div_div_eq_div_mul, HY.out]
              omega
            · obtain rfl : q = K := by omega
              clear hqK hq
              have HOW : Hid ((wr.alloc (.cells #[.bool ((y : Int) % 2 == 1)] 4)).ownsRow w.heap.size 4 1 u6 (X ++ Fx.topBits r a).length (bv (X ++ Fx.topBits r a))) := Lib.hid (own_stays HA.out.own (fun k hk => heap_alloc_old wr _ (own_lt HA.out.own k hk).2))
              have HBL : Hid ((X ++ Fx.topBits r a).length ≤ 168) := Lib.hid (by have := HXL.out; simp; omega)
              have HBT : Hid (Fx.topBits (r + 1) a = Fx.topBits r a ++ [(y : Int) % 2 == 1]) := Lib.hid (by
                rw [Fx.topBits_next, show 7 - r = q by have := HK.out; omega, HY.out]
                congr 2
                by_cases h : y % 2 = 1
                · rw [decide_eq_true h]; symm; rw [beq_iff_eq]; omega
                · rw [decide_eq_false h]; symm; rw [beq_eq_false_iff_ne]; omega)
              go_wp2_with (refine wpList_append_own _ rfl (.tmp 107) (.tmp 111) 61 rfl w.heap.size 4 i0 (.bool false) 1 1 Tryd.underlying61 HI.out.1 HI.out.2.1 HI.out.2.2.1 HI.out.2.2.2 rfl (by decide) u6 _ _ rfl HOW.out ⟨wr.heap.size, 0, none⟩ 1 1 [.bool ((y : Int) % 2 == 1)] rfl rfl (one_new wr _) (by intro u hu; simp at hu; subst hu; rfl) (by have := HBL.out; unfold maxLen; omega) (by have := HBL.out; omega) (by have := HA.out.below.size; simp; omega) ?_; intro v3 w3 hown hgrow _; have HOW3 := Lib.hid hown; have HGR := Lib.hid hgrow; clear hown hgrow; simp only [Act.put, Array.setIfInBounds])
              refine ⟨⟨r + 1, by have := HK.out; omega, ?_, ⟨?_, ?_⟩⟩, by simp [intOf]⟩
              · have := HK.out
                congr 1
                omega
              · rw [HBT.out, ← List.append_assoc]
                have h1 := HOW3.out
                rw [show bv (X ++ Fx.topBits r a) ++ [Value.bool ((y : Int) % 2 == 1)] = bv (X ++ Fx.topBits r a ++ [(y : Int) % 2 == 1]) by simp [bv]] at h1
                rw [List.length_append (bs := [(y : Int) % 2 == 1])]
                exact h1
              · have hb1 := HA.out.below.alloc HA.out.below.size (.cells #[.bool ((y : Int) % 2 == 1)] 4)
                exact hb1.grown HGR.out hb1.size (fun k hk => (own_lt HOW.out k hk).1)
        · obtain rfl : r = 8 := by omega
          clear hr8 hr
          go_wp2_with fail
          exact ⟨⟨k + 1, by have := HM.out; omega, by go_num, by rw [HTK.out]; exact HA.out⟩, by have := HM.out; simp [intOf]; omega⟩
    · obtain hkm : k = m := by have := HM.out; omega
      have HA0 : Hid (BitRow w wr u6 (Fx.allBits l)) := Lib.hid (by have := HA.out; rwa [List.take_of_length_le (by have := HM.out; omega)] at this)
      have HBL : Hid ((Fx.allBits l).length = 8 * m) := Lib.hid (by rw [Fx.allBits_length, HM.out])
      have hlt : decide ((k : Int) < (m : Int)) = false := decide_eq_false (by omega)
      have hm8 : 1 ≤ 8 * m := by omega
      clear HA hk hkm
      generalize Fx.allBits l = B at *
      have hV := own_toV HA0.out.own
      obtain ⟨p, c, rfl⟩ := hV.shape
      have hBW := HA0.out.below
      rw [bv_length, HBL.out] at hV ⊢
      obtain ⟨p', c', hsl, hV1⟩ := slice_from61 hV hm8
      have HBW := Lib.hid hBW
      rw [bv_drop] at hV1
      have HV1 := Lib.hid hV1
      have HCL : Hid ((B.drop 1).length + 1 = 8 * m) := Lib.hid (by rw [List.length_drop, HBL.out]; omega)
      clear hBW hV hV1 HA0
      obtain ⟨N, hN⟩ : ∃ N, Fx.tc (B.drop 1) = N := ⟨_, rfl⟩
      rw [hN] at HN
      have HNE := Lib.hid hN
      clear hN
      generalize B.drop 1 = C0 at *
      go_wp2_with fail
      clear hsl hlt
      go_loopw [6] (fun v wr => BDrop w m N v wr) (fun v _ => lenOfV v)
      case atStart => exact ⟨C0, HV1.out, by have := HCL.out; omega, by have := HCL.out; omega, HNE.out, HBW.out⟩
      case round =>
        clear HNE HCL HV1 hm8 HBW
        obtain ⟨C, hV, hc1, hcm, hN, hB⟩ := hrel
        have HBW := Lib.hid hB
        clear hB
        obtain ⟨p, c, rfl⟩ := hV.shape
        obtain ⟨n, hn⟩ : ∃ n, C.length = n := ⟨_, rfl⟩
        rw [bv_length] at hV ⊢
        rw [hn] at hV hc1 hcm ⊢
        have HC := Lib.hid (And.intro hc1 hcm)
        have HV := Lib.hid hV
        have HTN := Lib.hid hN
        have HCN := Lib.hid hn
        obtain ⟨g', o', rfl, hrow⟩ := hV.some (by omega)
        have hx0 : wr.cell? ⟨g', o', none⟩ = some (.bool (C.getD 0 false)) := hrow.bv 0 (by omega)
        have HROW2 := Lib.hid hrow
        have hn0 : (0 : Int) < (n : Int) := by omega
        clear hN hV hn hrow
        by_cases h64 : 64 < n
        · have h64i : decide ((64 : Int) < (n : Int)) = true := decide_eq_true (by omega)
          have hn1 : (1 : Int) < (n : Int) := by omega
          have hx1 : wr.cell? ⟨g', o' + 1, none⟩ = some (.bool (C.getD 1 false)) := HROW2.out.bv 1 (by have := HCN.out; omega)
          obtain ⟨p2, c2, hsl2, hV2⟩ := slice_from61 HV.out hc1
          rw [bv_drop] at hV2
          have HV2 := Lib.hid hV2
          obtain ⟨x, y, C', rfl⟩ : ∃ x y C', C = x :: y :: C' := by
            match C, HCN.out with
            | x :: y :: C', _ => exact ⟨x, y, C', rfl⟩
            | [x], h => simp at h; omega
            | [], h => simp at h; omega
          simp only [List.getD_cons_zero, List.getD_cons_succ, List.drop_succ_cons, List.drop_zero] at hx0 hx1 HV2
          have HC2 : Hid (C'.length + 2 = n) := Lib.hid (by have := HCN.out; simpa using this)
          clear hV2
          by_cases hxy : x = y
          · subst hxy
            have HD : Hid (Fx.tc (x :: C') = N) := Lib.hid (by rw [← HTN.out, Fx.tc_drop])
            go_wp2_with fail
            go_quiet (fail)
            go_wp2_with fail
            refine ⟨⟨x :: C', HV2.out.below (below_drewN (Below.refl wr.heap.size wr) _) (Nat.le_refl _), by simp, ?_, HD.out, below_drewN HBW.out _⟩, ?_⟩
            · have h1 := HC2.out
              have h2 := HC.out
              rw [List.length_cons]
              omega
            · show n - 1 < n
              omega
          · have HD : Hid (Fx.num l = (0, 3)) := Lib.hid (HN.out.2 (fun h => by have := HT.out.1 h; have := HC.out; omega) (by rw [← HTN.out]; exact Fx.tc_out x y C' hxy (by have := HC2.out; omega)))
            cases x <;> cases y
            · exact absurd rfl hxy
            · clear hxy
              go_wp2_with fail
              go_quiet (fail)
              go_wp2_with fail
              go_ret2
              rw [HD.out]
              exact ⟨rfl, below_drewN HBW.out _⟩
            · clear hxy
              go_wp2_with fail
              go_quiet (fail)
              go_wp2_with fail
              go_ret2
              rw [HD.out]
              exact ⟨rfl, below_drewN HBW.out _⟩
            · exact absurd rfl hxy
        · have h64i : decide ((64 : Int) < (n : Int)) = false := decide_eq_false (by omega)
          have HE : Hid (Fx.num l = (N, 0)) := Lib.hid (HN.out.1 (.inr (by
            have := Fx.tc_in C 63 (by intro h; rw [h] at HCN; have := HCN.out; simp at this; omega) (by have := HCN.out; omega)
            rw [HTN.out] at this
            unfold Fx.inR
            omega)))
          have HL64 : Hid (n ≤ 64) := Lib.hid (by omega)
          have HNZ : Hid (C ≠ []) := Lib.hid (by intro h; have := HCN.out; rw [h] at this; simp at this; omega)
          have HST : Hid (Fx.tc (C.take 1) = if C.getD 0 false then -1 else 0) := Lib.hid (by
            match C, HNZ.out with
            | x :: C', _ => simp [Fx.tc, Fx.valF]
            | [], h => exact absurd rfl h)
          generalize C.getD 0 false = x at *
          clear h64 hc1 hcm
          cases x
          all_goals
            go_wp2_with fail
            go_loop [11, 12] (fun n i => BAcc C n i) (fun _ i => n - (intOf i).toNat)
            case atStart => exact ⟨1, by omega, by have := HCN.out; have := HC.out; omega, rfl, by rw [HST.out]; rfl⟩
            case round =>
              clear hx0
              obtain ⟨j, hj1, hj2, rfl, rfl⟩ := hrel
              by_cases hjn : j < n
              · have hjI : (j : Int) < (n : Int) := by omega
                have hj64 : (j : Int) < 64 := by have := HL64.out; omega
                have hcj := HROW2.out.bv j (by have := HCN.out; omega)
                have HNX := Lib.hid (Fx.tc_next C j hj1 (by have := HCN.out; omega))
                have hq := Fx.tc_in (C.take j) 62 (by intro h; have := congrArg List.length h; rw [List.length_take, List.length_nil] at this; have := HCN.out; omega) (by rw [List.length_take]; omega)
                have e62 : (2 : Int) ^ 62 = 4611686018427387904 := by decide
                rw [e62] at hq
                obtain ⟨hq1, hq2⟩ := hq
                clear e62
                generalize Fx.tc (C.take j) = q at *
                generalize C.getD j false = y at *
                cases y
                · go_wp2_with fail
                  exact ⟨⟨j + 1, by omega, by have := HCN.out; omega, by go_num, by rw [HNX.out]; simp⟩, by simp [intOf]; omega⟩
                · go_wp2_with fail
                  exact ⟨⟨j + 1, by omega, by have := HCN.out; omega, by go_num, by rw [HNX.out]; simp⟩, by simp [intOf]; omega⟩
              · obtain rfl : n = j := by have := HCN.out; omega
                have HV9 : Hid (Fx.tc (C.take n) = N) := Lib.hid (by rw [List.take_of_length_le (by have := HCN.out; omega), HTN.out])
                rw [HV9.out]
                clear hjn
                go_wp2_with fail
                go_ret2
                rw [HE.out]
                exact ⟨rfl, HBW.out⟩
end Go.Proofs.YtkkelmlkpehcpaaDoor
