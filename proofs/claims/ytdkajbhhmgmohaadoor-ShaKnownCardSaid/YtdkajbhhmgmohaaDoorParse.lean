/-
  What Parse tells, on lists; strings.CutPrefix and strings.IndexByte off the shelf; the contract of sha.Parse.
-/
import Derived.Test.YtdkajbhhmgmohaaDoorRefName
import Derived.Test.YtdkajbhhmgmohaaDoorShelf
namespace Go.Proofs.YtdkajbhhmgmohaaDoor
open Go.RowKit Sha
theorem ix_walk (s : ByteArray) (c : Int) (w : World) :
    Calls Tryd.prog 32 #[.string s, .int .u8 c] w fun e w' => e = .returned (.int .i64 (Lib.indexByte s.data.toList c.toNat.toUInt8)) ∧ w' = w := Any.strings_IndexByte Tryd.laysIx s c w
theorem cut_walk (s p : ByteArray) (w : World) :
    Calls Tryd.prog 31 #[.string s, .string p] w fun e w' => e = .returned (.tuple #[.string ⟨(Lib.trimPrefix s.data.toList p.data.toList).toArray⟩, .bool (Lib.hasPrefix s.data.toList p.data.toList)]) ∧ w' = w := Any.strings_CutPrefix Tryd.laysCut s p w
/-- A hex digit's worth; 16 where it is none. -/
def hv (c : UInt8) : Nat := digitsA.toList.idxOf c
def outB (h : List UInt8) (j : Nat) : UInt8 := UInt8.ofNat (16 * hv (h.getD (2 * j) 0) + hv (h.getD (2 * j + 1) 0))
def outTo (h : List UInt8) : Nat → List UInt8
  | 0 => List.replicate 32 0
  | k + 1 => (outTo h k).set k (outB h k)
open Classical in
noncomputable def parseL (s : List UInt8) : Option (List UInt8) := if s.length = 71 ∧ s.take 7 = preL ∧ ∀ i, i < 64 → hv (s.getD (7 + i) 0) < 16 then some (outTo (s.drop 7) 32) else none
def pval (o : Option (List UInt8)) : Value := .tuple #[.agg (bcells (o.getD (List.replicate 32 0))), .int .i64 (if o.isSome then 0 else 5)]
theorem pval_some (d : List UInt8) : pval (some d) = .tuple #[.agg (bcells d), .int .i64 0] := rfl
theorem parse_none1 (s : List UInt8) (h : ¬ (s.length = 71 ∧ s.take 7 = preL)) : parseL s = none := by
  unfold parseL; rw [if_neg]; rintro ⟨h1, h2, _⟩; exact h ⟨h1, h2⟩
theorem parse_none2 (s : List UInt8) (i : Nat) (hi : i < 64) (h : ¬ hv (s.getD (7 + i) 0) < 16) : parseL s = none := by
  unfold parseL; rw [if_neg]; rintro ⟨_, _, h3⟩; exact h (h3 i hi)
theorem parse_some (s : List UInt8) (h1 : s.length = 71) (h2 : s.take 7 = preL) (h3 : ∀ i, i < 64 → hv (s.getD (7 + i) 0) < 16) : parseL s = some (outTo (s.drop 7) 32) := by
  unfold parseL; rw [if_pos ⟨h1, h2, h3⟩]
theorem pref_eq (s : List UInt8) : Lib.hasPrefix s preL = decide (s.take 7 = preL) := by
  unfold Lib.hasPrefix
  rw [Bool.eq_iff_iff, List.isPrefixOf_iff_prefix, decide_eq_true_iff, List.prefix_iff_eq_take]
  exact eq_comm
theorem outTo_length (h : List UInt8) (k : Nat) : (outTo h k).length = 32 := by
  induction k with
  | zero => rfl
  | succ k ih => rw [outTo, List.length_set, ih]
theorem hexv (c : UInt8) : (Lib.indexByte digitsA.toList c : Int) = if hv c < 16 then (hv c : Int) else -1 := by
  revert c
  have : ∀ n : Fin 256, (Lib.indexByte digitsA.toList (UInt8.ofNat n.1) : Int) = if hv (UInt8.ofNat n.1) < 16 then (hv (UInt8.ofNat n.1) : Int) else -1 := by decide +kernel
  intro c
  have h := this ⟨c.toNat, c.toNat_lt⟩
  simpa using h

def ParsePost (s : List UInt8) (w : World) (e : Ending) (w' : World) : Prop := e = .returned (pval (parseL s)) ∧ Below w.heap.size w w'
theorem results_row25 {fn : Func} (h : fn.results = #[.cell 2 25, .tmp 3]) (tmps : Array Value) (w : World) (g : Nat) (cs : Array Value) (x : Value)
    (hp : tmps.getD 2 undef = .pointer (some ⟨g, 0, none⟩)) (hx : tmps.getD 3 undef = x) (hg : w.heap[g]? = some (.cells cs 25 (0, 0)))
    (hi : (Tryd.prog.info? 25).map (·.size) = some cs.size) :
    (results fn tmps).run Tryd.prog w = .ok (.tuple #[.agg cs, x]) w := by
  rw [results_cell_tmp h, hp, hx]
  simp [asAddr, run_loadVar_row w g 25 25 cs (0, 0) _ hg Tryd.underlying25 rfl hi]
theorem build25 : Tryd.prog.built 25 [] = some (bcells (List.replicate 32 0)) := by kernel_rfl
theorem HIz : (Tryd.prog.info? 25).map (·.size) = some (bcells (List.replicate 32 0)).size := size25
def zs32 : List UInt8 := List.replicate 32 0
set_option maxRecDepth 100000 in
set_option maxHeartbeats 400000 in
theorem parse_bad1 (s : List UInt8) (w : World) (h : Lib.hasPrefix s preL = false) : Calls Tryd.prog 13 #[.string ⟨s.toArray⟩] w (ParsePost s w) := by
  have HP : Hid (parseL s = none) := Lib.hid (parse_none1 s (by rintro ⟨_, h2⟩; rw [pref_eq, decide_eq_true h2] at h; cases h))
  go_enter Tryd.func13, Tryd.ntmps13
  go_wp2_with fail
  refine (cut_walk ⟨s.toArray⟩ ⟨preL.toArray⟩ _).mono ?_
  rintro e w' ⟨rfl, rfl⟩
  simp only [h]
  generalize (Lib.trimPrefix _ _) = t
  generalize hw1 : (World.alloc (w.alloc _) _) = w1
  have hb1 : Below w.heap.size w w1 := by rw [← hw1]; exact ((Below.refl _ _).alloc (Nat.le_refl _) _).alloc (by simp) _
  have hr1 : w1.heap[w.heap.size]? = some (.cells (bcells (List.replicate 32 0)) 25 (0, 0)) := by rw [← hw1]; exact heap_alloc2_old _ _ _
  clear hw1
  obtain ⟨zl, hzl⟩ : ∃ zl, zl = bcells (List.replicate 32 0) := ⟨_, rfl⟩
  rw [← hzl] at hr1
  have HR1 := Lib.hid hr1
  have HZ := Lib.hid hzl
  have HI : Hid ((Tryd.prog.info? 25).map (·.size) = some zl.size) := Lib.hid (by rw [hzl]; exact HIz)
  have H1 : Hid (zl.all (·.oneCell') = true) := Lib.hid (by rw [hzl]; exact bcells_one _)
  clear hr1 hzl
  go_wp2_with (first | (refine wpList_buildX rfl 25 _ rfl zl (by rw [HZ.out]; kernel_rfl) ?_) | (refine wpList_store_rowX rfl 25 _ _ rfl w.heap.size zl rfl rfl 25 zl HR1.out HI.out rfl H1.out ?_; intro w3 hrow3 ho3 hs3))
  refine bodyPost_ret (v := pval (parseL s)) ?_ rfl ⟨rfl, hb1.trans (Below.of_only ho3 (Nat.le_refl _) hb1.size)⟩
  rw [HP.out]
  rw [show pval none = .tuple #[.agg zl, .int .i64 5] by rw [HZ.out]; rfl]
  exact results_row25 rfl _ _ w.heap.size _ _ rfl rfl hrow3 HI.out
set_option maxRecDepth 100000 in
set_option maxHeartbeats 400000 in
theorem parse_bad2 (s : List UInt8) (w : World) (hs : s.length ≤ 100) (h : Lib.hasPrefix s preL = true) (hn : s.length ≠ 71) : Calls Tryd.prog 13 #[.string ⟨s.toArray⟩] w (ParsePost s w) := by
  have HP : Hid (parseL s = none) := Lib.hid (parse_none1 s (by rintro ⟨h1, _⟩; exact hn h1))
  go_enter Tryd.func13, Tryd.ntmps13
  go_wp2_with fail
  refine (cut_walk ⟨s.toArray⟩ ⟨preL.toArray⟩ _).mono ?_
  rintro e w' ⟨rfl, rfl⟩
  simp only [h]
  obtain ⟨t, ht⟩ : ∃ t, t = Lib.trimPrefix s preL := ⟨_, rfl⟩
  have htl : t.length ≠ 64 ∧ t.length ≤ 100 := by
    rw [ht, Lib.trimPrefix, if_pos h, List.length_drop]
    have := List.isPrefixOf_iff_prefix.1 h
    have := this.length_le
    simp [preL] at this ⊢
    omega
  rw [← ht]
  clear ht
  generalize hS : ByteArray.mk t.toArray = S
  have hz : S.size = t.length := by rw [← hS]; rfl
  generalize t.length = m at *
  obtain ⟨m1, m2⟩ := htl
  have hmi : ¬ ((m : Int) = 64) := by omega
  have hmi2 : (m : Int) ≠ 64 := by omega
  clear hS
  generalize hw1 : (World.alloc (w.alloc _) _) = w1
  have hb1 : Below w.heap.size w w1 := by rw [← hw1]; exact ((Below.refl _ _).alloc (Nat.le_refl _) _).alloc (by simp) _
  have hr1 : w1.heap[w.heap.size]? = some (.cells (bcells (List.replicate 32 0)) 25 (0, 0)) := by rw [← hw1]; exact heap_alloc2_old _ _ _
  clear hw1
  obtain ⟨zl, hzl⟩ : ∃ zl, zl = bcells (List.replicate 32 0) := ⟨_, rfl⟩
  rw [← hzl] at hr1
  have HR1 := Lib.hid hr1
  have HZ := Lib.hid hzl
  have HI : Hid ((Tryd.prog.info? 25).map (·.size) = some zl.size) := Lib.hid (by rw [hzl]; exact HIz)
  have H1 : Hid (zl.all (·.oneCell') = true) := Lib.hid (by rw [hzl]; exact bcells_one _)
  clear hr1 hzl
  go_wp2_with (first | (refine wpList_buildX rfl 25 _ rfl zl (by rw [HZ.out]; kernel_rfl) ?_) | (refine wpList_store_rowX rfl 25 _ _ rfl w.heap.size zl rfl rfl 25 zl HR1.out HI.out rfl H1.out ?_; intro w3 hrow3 ho3 hs3))
  refine bodyPost_ret (v := pval (parseL s)) ?_ rfl ⟨rfl, hb1.trans (Below.of_only ho3 (Nat.le_refl _) hb1.size)⟩
  rw [HP.out]
  rw [show pval none = .tuple #[.agg zl, .int .i64 5] by rw [HZ.out]; rfl]
  exact results_row25 rfl _ _ w.heap.size _ _ rfl rfl hrow3 HI.out
theorem sindex (h : List UInt8) (i : Nat) (hi : i < h.length) (I : Int) (hI : I = i) (w : World) : (Instr.index 9 (.string ⟨h.toArray⟩) (.int .i64 I)).run Tryd.prog w = .ok (.int .u8 (bi (h.getD i 0))) w := by
  subst hI
  have hn : 0 ≤ (i : Int) ∧ (i : Int) < (h.length : Nat) := by omega
  rw [run_index_string (P := Tryd.prog) w 9 _ .i64 _ Tryd.underlying9, dif_pos ⟨by omega, by show (i : Int) < (h.length : Nat); omega⟩]
  unfold bi
  simp only [Int.toNat_natCast, List.getD_eq_getElem?_getD, List.getElem?_eq_getElem hi, Option.getD_some]
  rfl
theorem ix2_walk (c : UInt8) (w : World) :
    Calls Tryd.prog 32 #[.string ⟨digitsA⟩, .int .u8 (bi c)] w fun e w' => e = .returned (.int .i64 (if hv c < 16 then (hv c : Int) else -1)) ∧ w' = w := by
  refine (ix_walk ⟨digitsA⟩ (bi c) w).mono ?_
  rintro e w' ⟨rfl, rfl⟩
  refine ⟨?_, rfl⟩
  rw [← hexv]
  simp [bi]
theorem ix_num (c : UInt8) (n : Int) (hn : n = if hv c < 16 then (hv c : Int) else -1) (w : World) :
    Calls Tryd.prog 32 #[.string ⟨digitsA⟩, .int .u8 (bi c)] w fun e w' => e = .returned (.int .i64 n) ∧ w' = w := by rw [hn]; exact ix2_walk c w
theorem nib (a b : Nat) (ha : a < 16) (hb : b < 16) : bits .or .i64 ((a : Int) * 16) (b : Int) = ((16 * a + b : Nat) : Int) := by
  have : ∀ (a b : Fin 16), bits .or .i64 ((a.1 : Int) * 16) (b.1 : Int) = ((16 * a.1 + b.1 : Nat) : Int) := by decide +kernel
  exact this ⟨a, ha⟩ ⟨b, hb⟩
set_option maxRecDepth 100000 in
set_option maxHeartbeats 1000000 in
theorem parse_main (s : List UInt8) (w : World) (h : Lib.hasPrefix s preL = true) (hn : s.length = 71) : Calls Tryd.prog 13 #[.string ⟨s.toArray⟩] w (ParsePost s w) := by
  have hpre : s.take 7 = preL := by rw [pref_eq] at h; exact of_decide_eq_true h
  have HNone : Hid (∀ i, i < 64 → ¬ hv ((s.drop 7).getD i 0) < 16 → parseL s = none) := Lib.hid (fun i hi hx => parse_none2 s i hi (by simpa using hx))
  have HSome : Hid ((∀ i, i < 64 → hv ((s.drop 7).getD i 0) < 16) → parseL s = some (outTo (s.drop 7) 32)) := Lib.hid (fun hx => parse_some s hn hpre (fun i hi => by simpa using hx i hi))
  go_enter Tryd.func13, Tryd.ntmps13
  go_wp2_with fail
  refine (cut_walk ⟨s.toArray⟩ ⟨preL.toArray⟩ _).mono ?_
  rintro e w' ⟨rfl, rfl⟩
  simp only [h]
  obtain ⟨t, ht⟩ : ∃ t, t = s.drop 7 := ⟨_, rfl⟩
  have ht2 : Lib.trimPrefix s preL = t := by rw [Lib.trimPrefix, if_pos h, ht]; rfl
  have htl : t.length = 64 := by rw [ht, List.length_drop, hn]
  rw [← ht] at HNone HSome
  rw [ht2]
  generalize hPL : parseL s = PL at *
  have HPL := Lib.hid hPL
  have HIX := Lib.hid (fun (i : Nat) (hi : i < 64) => sindex t i (by omega))
  generalize hS : ByteArray.mk t.toArray = S at *
  have hz : S.size = 64 := by rw [← hS]; exact htl
  clear hS ht ht2 htl hPL h hn hpre
  generalize hw1 : (World.alloc (w.alloc _) _) = w1
  have hr1 : DigRel w w1 (outTo t 0) := by rw [← hw1]; exact ⟨((Below.refl _ _).alloc (Nat.le_refl _) _).alloc (by simp) _, heap_alloc2_old _ _ _, heap_alloc2_new _ _ _⟩
  clear hw1
  obtain ⟨zl, hzl⟩ : ∃ zl, zl = bcells (List.replicate 32 0) := ⟨_, rfl⟩
  have HZ := Lib.hid hzl
  have HZI : Hid ((Tryd.prog.info? 25).map (·.size) = some zl.size) := Lib.hid (by rw [hzl]; exact HIz)
  have HZ1 : Hid (zl.all (·.oneCell') = true) := Lib.hid (by rw [hzl]; exact bcells_one _)
  clear hzl
  go_wp2_with fail
  go_loopw [23] (fun v wr => ∃ k : Nat, k ≤ 32 ∧ v = .int .i64 k ∧ DigRel w wr (outTo t k) ∧ ∀ i, i < 2 * k → hv (t.getD i 0) < 16) (fun v _ => 32 - (intOf v).toNat)
  case atStart => exact ⟨0, by omega, rfl, hr1, fun i hi => by omega⟩
  case round =>
    clear hr1
    obtain ⟨k, hk, rfl, hr, hgood⟩ := hrel
    have HG := Lib.hid hgood
    clear hgood
    by_cases hlt : k < 32
    · have hki : (k : Int) < 32 := by omega
      have x1 := HIX.out (2 * k) (by omega) (2 * (k : Int)) (by omega)
      have x2 := HIX.out (2 * k + 1) (by omega) (2 * (k : Int) + 1) (by omega)
      have HN1 := Lib.hid (HNone.out (2 * k) (by omega))
      have HN2 := Lib.hid (HNone.out (2 * k + 1) (by omega))
      have HO : Hid (outTo t (k + 1) = (outTo t k).set k (UInt8.ofNat (16 * hv (t.getD (2 * k) 0) + hv (t.getD (2 * k + 1) 0)))) := Lib.hid rfl
      have HG2 : Hid (hv (t.getD (2 * k) 0) < 16 → hv (t.getD (2 * k + 1) 0) < 16 → ∀ i, i < 2 * (k + 1) → hv (t.getD i 0) < 16) := Lib.hid (fun a b i hi => by
        by_cases e1 : i = 2 * k
        · rw [e1]; exact a
        by_cases e2 : i = 2 * k + 1
        · rw [e2]; exact b
        exact HG.out i (by omega))
      generalize t.getD (2 * k) 0 = c1 at *
      generalize t.getD (2 * k + 1) 0 = c2 at *
      obtain ⟨n1, hn1⟩ : ∃ n : Int, n = if hv c1 < 16 then (hv c1 : Int) else -1 := ⟨_, rfl⟩
      obtain ⟨n2, hn2⟩ : ∃ n : Int, n = if hv c2 < 16 then (hv c2 : Int) else -1 := ⟨_, rfl⟩
      have IX1 := Lib.hid (ix_num c1 n1 hn1)
      have IX2 := Lib.hid (ix_num c2 n2 hn2)
      clear HIX HSome HNone HG
      by_cases g1 : hv c1 < 16
      · by_cases g2 : hv c2 < 16
        · rw [if_pos g1] at hn1
          rw [if_pos g2] at hn2
          have hN := nib _ _ g1 g2
          rw [← hn1, ← hn2] at hN
          have HG3 := Lib.hid (HG2.out g1 g2)
          have c0 := hr.row.cell k (by rw [outTo_length]; omega)
          have f0 := hr.row.free k
          have HST := Lib.hid (hr.step k (UInt8.ofNat (16 * hv c1 + hv c2)))
          rw [← HO.out] at HST
          have ga : n1 < 16 := by omega
          have gb : n2 < 16 := by omega
          have ga2 : 0 ≤ n1 := by omega
          have gb2 : 0 ≤ n2 := by omega
          clear HG2 HN1 HN2 HO hr hn1 hn2
          go_wp2_with fail
          refine (IX1.out _).mono ?_
          rintro e w' ⟨rfl, hw⟩
          subst hw
          go_wp2_with fail
          refine (IX2.out _).mono ?_
          rintro e w' ⟨rfl, hw⟩
          subst hw
          go_wp2_with fail
          refine ⟨⟨k + 1, by omega, by go_num, ?_, HG3.out⟩, by simp [intOf]; omega⟩
          have := HST.out
          rw [bi_ofNat] at this
          simp at this ⊢
          rw [Int.emod_eq_of_lt (by omega) (by omega)] at this
          exact this
        · have HP := Lib.hid (HN2.out g2)
          rw [if_pos g1] at hn1
          rw [if_neg g2] at hn2
          have ga2 : 0 ≤ n1 := by omega
          have gb2 : n2 < 0 := by omega
          clear HG2 HN1 HN2 HO hn1 hn2
          have HR2 : Hid (wr.heap[w.heap.size]? = some (.cells zl 25 (0, 0))) := Lib.hid (by rw [HZ.out]; exact hr.res)
          have hbel := hr.below
          clear hr
          go_wp2_with fail
          refine (IX1.out _).mono ?_
          rintro e w' ⟨rfl, hw⟩
          subst hw
          go_wp2_with fail
          refine (IX2.out _).mono ?_
          rintro e w' ⟨rfl, hw⟩
          subst hw
          go_wp2_with (first | (refine wpList_buildX rfl 25 _ rfl zl (by rw [HZ.out]; kernel_rfl) ?_) | (refine wpList_store_rowX rfl 25 _ _ rfl w.heap.size zl rfl rfl 25 zl HR2.out HZI.out rfl HZ1.out ?_; intro w3 hrow3 ho3 hs3))
          refine bodyPost_ret (v := pval (parseL s)) ?_ rfl ⟨rfl, hbel.trans (Below.of_only ho3 (Nat.le_refl _) hbel.size)⟩
          rw [HPL.out, HP.out]
          rw [show pval none = .tuple #[.agg zl, .int .i64 5] by rw [HZ.out]; rfl]
          exact results_row25 rfl _ _ w.heap.size _ _ rfl rfl hrow3 HZI.out
      · have HP := Lib.hid (HN1.out g1)
        rw [if_neg g1] at hn1
        have ga2 : n1 < 0 := by omega
        clear HG2 HN1 HN2 HO hn1 hn2
        have HR2 : Hid (wr.heap[w.heap.size]? = some (.cells zl 25 (0, 0))) := Lib.hid (by rw [HZ.out]; exact hr.res)
        have hbel := hr.below
        clear hr
        go_wp2_with fail
        refine (IX1.out _).mono ?_
        rintro e w' ⟨rfl, hw⟩
        subst hw
        go_wp2_with fail
        refine (IX2.out _).mono ?_
        rintro e w' ⟨rfl, hw⟩
        subst hw
        go_wp2_with (first | (refine wpList_buildX rfl 25 _ rfl zl (by rw [HZ.out]; kernel_rfl) ?_) | (refine wpList_store_rowX rfl 25 _ _ rfl w.heap.size zl rfl rfl 25 zl HR2.out HZI.out rfl HZ1.out ?_; intro w3 hrow3 ho3 hs3))
        refine bodyPost_ret (v := pval (parseL s)) ?_ rfl ⟨rfl, hbel.trans (Below.of_only ho3 (Nat.le_refl _) hbel.size)⟩
        rw [HPL.out, HP.out]
        rw [show pval none = .tuple #[.agg zl, .int .i64 5] by rw [HZ.out]; rfl]
        exact results_row25 rfl _ _ w.heap.size _ _ rfl rfl hrow3 HZI.out
    · have hki : (32 : Int) ≤ (k : Int) := by omega
      obtain rfl : k = 32 := by omega
      have HP := Lib.hid (HSome.out (fun i hi => HG.out i hi))
      have HI : Hid ((Tryd.prog.info? 25).map (·.size) = some (bcells (outTo t 32)).size) := Lib.hid (by rw [bcells_size, outTo_length]; exact size25)
      have HO : Hid ((bcells (List.replicate 32 0)).size = (bcells (outTo t 32)).size) := Lib.hid (by rw [bcells_size, bcells_size, outTo_length]; rfl)
      have HR1 : Hid (wr.heap[w.heap.size + 1]? = some (.cells (bcells (outTo t 32)) 25 (0, 0))) := Lib.hid hr.row
      have HR2 : Hid (wr.heap[w.heap.size]? = some (.cells (bcells (List.replicate 32 0)) 25 (0, 0))) := Lib.hid hr.res
      have hbel := hr.below
      have HV : Hid (pval (some (outTo t 32)) = .tuple #[.agg (bcells (outTo t 32)), .int .i64 0]) := Lib.hid (pval_some _)
      clear hr HIX HG HSome HNone
      generalize outTo t 32 = D at *
      go_wp2_with (first | (refine wpList_load_row rfl 25 _ rfl (w.heap.size + 1) rfl 25 (bcells D) (0, 0) _ HR1.out Tryd.underlying25 rfl HI.out ?_) | (refine wpList_store_row rfl 25 _ _ rfl w.heap.size (bcells D) rfl rfl 25 _ HR2.out HI.out HO.out (bcells_one _) ?_))
      refine bodyPost_ret (v := pval (parseL s)) ?_ rfl ⟨rfl, below_setRow hbel (Nat.le_refl _) _⟩
      rw [HPL.out, HP.out, HV.out]
      exact results_row25 rfl _ _ w.heap.size _ _ rfl rfl (setRow_heap _ _ _ _ _ _ HR2.out) HI.out
theorem parse_walk (s : List UInt8) (w : World) (hs : s.length ≤ 100) : Calls Tryd.prog 13 #[.string ⟨s.toArray⟩] w (ParsePost s w) := by
  cases h : Lib.hasPrefix s preL
  · exact parse_bad1 s w h
  · by_cases hn : s.length = 71
    · exact parse_main s w h hn
    · exact parse_bad2 s w hs h hn
end Go.Proofs.YtdkajbhhmgmohaaDoor
