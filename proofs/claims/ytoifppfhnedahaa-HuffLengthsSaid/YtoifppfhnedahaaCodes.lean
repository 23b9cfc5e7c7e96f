/-
  The contracts of State, oneOrNone, Turned, Codes.
-/
import Derived.Test.YtoifppfhnedahaaTally
import Derived.Laws.BitsAllLaws
namespace Go.Proofs.Ytoifppfhnedahaa
open Go.RowKit Hf

theorem world_setRow_new (w : World) (c c' : Array Value) (t : TypeId) : (w.alloc (.cells c t)).setRow w.heap.size c' = w.alloc (.cells c' t) := World.setRow_alloc_new _ _ _ _
def StatePost (zs : List Int) (w : World) (e : Ending) (w' : World) : Prop :=
  e = .returned (.tuple (if good zs then #[.int .i64 (st zs), .int .i64 0] else #[.int .i64 0, .int .i64 1])) ∧ Below w.heap.size w w'
theorem tat_row {w : World} {g : Nat} {zs : List Int} {T : TypeId} (h : w.heap[g]? = some (.cells (tl zs).toArray T (0, 0))) : TAt w g zs := fun n hn => by
  rw [cell_of_row _ _ _ _ _ _ h]; simpa using tl_at zs n hn
theorem tat_new (w : World) (zs : List Int) : TAt (w.alloc (.cells (tl zs).toArray 74)) w.heap.size zs := tat_row (heap_alloc_new _ _)
theorem tl_size (zs : List Int) : (tl []).toArray.size = (tl zs).toArray.size := by simp [tl_length]
set_option maxRecDepth 100000 in
set_option maxHeartbeats 1000000 in
theorem State_walk (w : World) (v : Value) (zs : List Int) (hv : SlV w v (ni zs)) : Calls Try.prog 15 #[v] w (StatePost zs w) := by
  have HV := Lib.hid hv
  clear hv
  go_enter Try.func15, Try.ntmps15
  go_wp2_with fail
  refine (tallied_walk w v zs HV.out).mono ?_
  rintro e w1 ⟨rfl, hb⟩
  have HB := Lib.hid hb
  clear hb HV
  by_cases hg : good zs
  · rw [if_pos hg]
    have HG := Lib.hid hg
    clear hg
    have H0 := Lib.hid (heap_alloc_new w1 (.cells (tl []).toArray 74))
    have HI := Lib.hid (info74 zs)
    have HO := Lib.hid (tl_one zs)
    have HZ := Lib.hid (tl_size zs)
    have HT := Lib.hid (tat_new w1 zs)
    have HB2 := Lib.hid (HB.out.alloc HB.out.size (.cells (tl zs).toArray 74))
    go_wp2_with (refine wpList_store_row rfl 74 _ _ rfl w1.heap.size (tl zs).toArray rfl rfl 74 _ H0.out HI.out HZ.out HO.out ?_; rw [← tl0, world_setRow_new])
    refine (state_walk _ _ zs HT.out HG.out.1).mono ?_
    rintro e w2 ⟨rfl, rfl⟩
    go_wp2_with fail
    go_ret2
    exact ⟨by rw [if_pos HG.out]; rfl, HB2.out⟩
  · rw [if_neg hg]
    have HG := Lib.hid hg
    clear hg
    have H0 := Lib.hid (heap_alloc_new w1 (.cells (tl []).toArray 74))
    have HI := Lib.hid (info74 [])
    have HO := Lib.hid (tl_one [])
    have HB2 := Lib.hid (HB.out.alloc HB.out.size (.cells (tl []).toArray 74))
    go_wp2_with (refine wpList_store_row rfl 74 _ _ rfl w1.heap.size (tl []).toArray rfl rfl 74 _ H0.out HI.out rfl HO.out ?_; rw [← tl0, world_setRow_new])
    go_ret2
    exact ⟨by rw [if_neg HG.out]; rfl, HB2.out⟩
set_option maxRecDepth 100000 in
set_option maxHeartbeats 1000000 in
theorem oneOrNone_walk (w : World) (zs : List Int) (n : Nat) (hn : n = zs.length) (hl : zs.length ≤ 1024) :
    Calls Try.prog 36 #[.agg (tl zs).toArray, .int .i64 (n : Int)] w fun e w' => e = .returned (.bool (Hf.lone zs)) ∧ Below w.heap.size w w' := by
  have h0 : (tl zs)[0]? = some (.int .i64 ((zs.count 0 : Nat) : Int)) := tl_at zs 0 (by omega)
  have h1 : (tl zs)[1]? = some (.int .i64 ((zs.count 1 : Nat) : Int)) := tl_at zs 1 (by omega)
  have hq := count_le_len zs 0
  have hlen := tl_length zs
  have HB : Hid (Below w.heap.size w (w.alloc (.cells (tl zs).toArray 74))) := Lib.hid ((Below.refl _ _).alloc (Nat.le_refl _) _)
  have HE : Hid (Hf.lone zs = (decide (n - zs.count 0 ≤ 1) && decide (n - zs.count 0 = zs.count 1))) := Lib.hid (by rw [hn]; rfl)
  have hl : n ≤ 1024 := by omega
  rw [← hn] at hq
  clear hn
  obtain ⟨a, ha⟩ : ∃ a, a = zs.count 0 := ⟨_, rfl⟩
  obtain ⟨b, hb⟩ : ∃ b, b = zs.count 1 := ⟨_, rfl⟩
  rw [← ha] at h0 HE hq
  rw [← hb] at h1 HE
  clear ha hb
  obtain ⟨R, hR⟩ : ∃ R, tl zs = .int .i64 (a : Int) :: .int .i64 (b : Int) :: R := by
    generalize tl zs = L at *
    match L, h0, h1, hlen with
    | x :: y :: R, h0, h1, _ => 
      simp at h0 h1
      exact ⟨R, by rw [h0, h1]⟩
  rw [hR] at hlen HB ⊢
  clear hR h0 h1
  by_cases hA : (n : Int) - (a : Int) ≤ 1
  · go_enter Try.func36, Try.ntmps36
    go_wp2_with fail
    go_ret
    refine ⟨?_, HB.out⟩
    rw [HE.out, decide_eq_true (by omega : n - a ≤ 1), Bool.true_and]
    show Ending.returned (Value.bool ((n : Int) - a == b)) = _
    congr 2
    by_cases h : (n : Int) - a = b
    · rw [decide_eq_true (by omega : n - a = b), h]; exact beq_self_eq_true _
    · rw [decide_eq_false (by omega : ¬ n - a = b)]; exact beq_false_of_ne h
  · go_enter Try.func36, Try.ntmps36
    go_wp2_with fail
    go_ret
    refine ⟨?_, HB.out⟩
    rw [HE.out, decide_eq_false (by omega : ¬ n - a ≤ 1), Bool.false_and]
    rfl
/-- A code's lowest bits, the first one last. -/
def trn (c : Nat) : Nat → Nat
  | 0 => 0
  | n + 1 => 2 * trn c n + c / 2 ^ n % 2
theorem trn_lt (c n : Nat) : trn c n < 2 ^ n := by
  induction n with
  | zero => simp [trn]
  | succ n ih => rw [trn, Nat.pow_succ]; omega
theorem or_bit (t b : Nat) (hb : b < 2) : 2 * t ||| b = 2 * t + b := by
  have h := Nat.two_pow_add_eq_or_of_lt (i := 1) (b := b) (by simpa using hb) t
  simp only [Nat.pow_one] at h
  rw [← h]
theorem trn_go (c k : Nat) (hc : c < 4294967296) (hk : k < 32) : bits .or .u32 ((trn c k : Int) * 2 % 4294967296) (bits .and .u32 ((c : Int) / 2 ^ k) 1) = ((trn c (k + 1) : Nat) : Int) := by
  have h1 := trn_lt c k
  have h2 : 2 ^ k ≤ 2 ^ 31 := Nat.pow_le_pow_right (by decide) (by omega)
  have h4 : (2 : Nat) ^ 31 = 2147483648 := by decide
  have h3 : trn c k * 2 < 4294967296 := by omega
  have e : (trn c k : Int) * 2 % 4294967296 = ((trn c k * 2 : Nat) : Int) := by omega
  have e2 : (c : Int) / 2 ^ k = ((c / 2 ^ k : Nat) : Int) := by simp
  have e3 : c / 2 ^ k < 4294967296 := Nat.lt_of_le_of_lt (Nat.div_le_self _ _) hc
  rw [e, e2, show (1 : Int) = ((1 : Nat) : Int) from rfl, u32_and_nat _ _ e3 (by decide), Nat.and_one_is_mod, u32_or_nat _ _ h3 (by omega), Nat.mul_comm, or_bit _ _ (by omega)]
  rfl
set_option maxRecDepth 100000 in
set_option maxHeartbeats 1000000 in
theorem Turned_walk (w : World) (c : Nat) (n : Int) (hc : c < 4294967296) :
    Calls Try.prog 21 #[.int .u32 (c : Int), .int .i64 n] w fun e w' => e = .returned (.int .u32 (trn c (min n.toNat 32) : Nat)) ∧ w = w' := by
  have HC := Lib.hid hc
  clear hc
  go_enter Try.func21, Try.ntmps21
  go_wp2_with fail
  obtain ⟨K, hK⟩ : ∃ K, K = min n.toNat 32 := ⟨_, rfl⟩
  have hKi : min (max n 0) 32 = (K : Int) := by omega
  have hk32 : K ≤ 32 := by omega
  rw [hKi]
  have HK := Lib.hid hK
  clear hK hKi
  go_loop [0, 5, 9] (fun v0 v5 v9 => ∃ k : Nat, k ≤ K ∧ v9 = .int .i64 k ∧ v0 = .int .u32 ((c / 2 ^ k : Nat) : Int) ∧ v5 = .int .u32 (trn c k : Nat)) (fun _ _ v9 => K - (intOf v9).toNat)
  case atStart => exact ⟨0, Nat.zero_le _, rfl, by simp, rfl⟩
  case round =>
    obtain ⟨k, hk, rfl, rfl, rfl⟩ := hrel
    by_cases hlt : k < K
    · have hki : (k : Int) < (K : Int) := by omega
      go_wp2_with fail
      refine ⟨⟨k + 1, by omega, by go_num, ?_, by rw [trn_go c k HC.out (by omega)]⟩, by simp [intOf]; omega⟩
      rw [Nat.pow_succ, ← Nat.div_div_eq_div_mul]; simp
    · have hki : (K : Int) ≤ (k : Int) := by omega
      obtain rfl : k = K := by omega
      generalize c / 2 ^ k = x at *
      go_wp2_with fail
      go_ret
      exact ⟨by rw [← HK.out]; rfl, rfl⟩

/-- The next code of each length, behind k symbols. -/
def nx (zs : List Int) (k n : Nat) : Nat := F zs n + ct (zs.take k) n
theorem nx_zero (zs : List Int) : nx zs 0 = F zs := by funext n; unfold nx ct; split <;> simp
theorem ct_take_le (zs : List Int) (k n : Nat) : ct (zs.take k) n ≤ ct zs n := by
  unfold ct
  split
  · omega
  · have e : zs.count (n : Int) = (zs.take k).count (n : Int) + (zs.drop k).count (n : Int) := by rw [← List.count_append, List.take_append_drop]
    omega
theorem nx_lt (zs : List Int) (hl : zs.length ≤ 1024) (k n : Nat) (hn : n ≤ 15) : nx zs k n ≤ 33554432 := by
  have h1 := ct_take_le zs k n
  have h2 := K_lt zs n hn hl
  unfold K at h2; unfold nx; omega
theorem nx_step (zs : List Int) (k n : Nat) (hk : k < zs.length) (hn : 0 < n) (hz : zs.getD k 0 = (n : Int)) : fc (nx zs (k + 1)) = (fc (nx zs k)).set n (.int .u32 ((nx zs k n + 1 : Nat) : Int)) ∨ 16 ≤ n := by
  rcases Nat.lt_or_ge n 16 with h | h
  · refine .inl ?_
    rw [fc_set _ _ _ h]
    congr 1
    funext m
    unfold nx
    by_cases hm : m = n
    · subst hm
      rw [if_pos rfl, ct_take_succ zs k hk m hn, if_pos hz]; omega
    · rw [if_neg hm]
      congr 1
      rcases Nat.eq_zero_or_pos m with h0 | h0
      · subst h0; rfl
      · rw [ct_take_succ zs k hk m h0, if_neg (by omega)]; omega
  · exact .inr h
theorem nx_keep (zs : List Int) (k : Nat) (hk : k < zs.length) (hz : zs.getD k 0 = 0) : nx zs (k + 1) = nx zs k := by
  funext m
  unfold nx
  congr 1
  rcases Nat.eq_zero_or_pos m with h0 | h0
  · subst h0; rfl
  · rw [ct_take_succ zs k hk m h0, if_neg (by omega)]; omega
/-- The codes of the first k symbols. -/
def cto (zs : List Int) (k : Nat) : List Nat := (List.range zs.length).map fun i => if i < k then code zs i else 0
theorem cto_length (zs : List Int) (k : Nat) : (cto zs k).length = zs.length := by simp [cto]
theorem cto_all (zs : List Int) : cto zs zs.length = codes zs := by
  unfold cto codes
  apply List.map_congr_left
  intro i hi
  rw [if_pos (List.mem_range.1 hi)]
theorem cto_zero (zs : List Int) : cto zs 0 = List.replicate zs.length 0 := by
  apply List.ext_getElem (by simp [cto])
  intro i h1 h2
  simp [cto]
theorem cto_step (zs : List Int) (k : Nat) : nu (cto zs (k + 1)) = (nu (cto zs k)).set k (.int .u32 ((code zs k : Nat) : Int)) := by
  apply List.ext_getElem (by simp [cto])
  intro i h1 h2
  simp only [nu, cto, List.map_map, List.getElem_map, List.getElem_range, List.getElem_set, Function.comp]
  by_cases he : k = i
  · subst he; simp
  · rw [if_neg he]
    congr 2
    by_cases h : i < k
    · rw [if_pos h, if_pos (by omega)]
    · rw [if_neg h, if_neg (by omega)]
theorem cto_keep (zs : List Int) (k : Nat) (hz : zs.getD k 0 = 0) : cto zs (k + 1) = cto zs k := by
  unfold cto
  apply List.map_congr_left
  intro i _
  by_cases he : i = k
  · subst he
    rw [if_pos (by omega), if_neg (by omega)]
    unfold code
    rw [hz, if_neg (by omega)]
  · by_cases h : i < k
    · rw [if_pos h, if_pos (by omega)]
    · rw [if_neg h, if_neg (by omega)]
structure CRel (w wr : World) (G g : Nat) (zs : List Int) (k : Nat) : Prop where
  below : Below w.heap.size w wr
  row : wr.heap[G]? = some (.cells (fc (nx zs k)).toArray 78 (0, 0))
  own : wr.ownsRow w.heap.size 33 1 (.slice (some ⟨g, 0, none⟩) zs.length zs.length) zs.length (nu (cto zs k))
  ne : g ≠ G
  le : w.heap.size ≤ G
theorem CRel.cell {w wr : World} {G g : Nat} {zs : List Int} {k : Nat} (h : CRel w wr G g zs k) (n : Nat) (hn : n < 16) : wr.cell? ⟨G, n, none⟩ = some (.int .u32 ((nx zs k n : Nat) : Int)) := by
  rw [cell_of_row _ _ _ _ _ _ h.row]; simpa using fc_at _ n hn
theorem CRel.free {w wr : World} {G g : Nat} {zs : List Int} {k : Nat} (h : CRel w wr G g zs k) (n : Nat) : wr.frozen? ⟨G, n, none⟩ = false := frozen_of_row _ _ _ _ _ h.row
theorem CRel.spot {w wr : World} {G g : Nat} {zs : List Int} {k : Nat} (h : CRel w wr G g zs k) (hk : k < zs.length) :
    w.heap.size ≤ g ∧ (∃ u, wr.cell? ⟨g, k, none⟩ = some u) ∧ wr.frozen? ⟨g, k, none⟩ = false ∧ ∀ x, (wr.setCell ⟨g, k, none⟩ x).ownsRow w.heap.size 33 1 (.slice (some ⟨g, 0, none⟩) zs.length zs.length) zs.length ((nu (cto zs k)).set k x) := by
  obtain ⟨g', cap, he, h1, h2, h3, h4, h5, h6, h7⟩ := own_spot h.own (by omega)
  cases he
  exact ⟨h1, ⟨_, h5 k _ (List.getElem?_eq_getElem (by simp [cto_length, hk]))⟩, h6 k, fun x => h7 k x hk⟩
theorem CRel.keep {w wr : World} {G g : Nat} {zs : List Int} {k : Nat} (h : CRel w wr G g zs k) (hk : k < zs.length) (hz : zs.getD k 0 = 0) : CRel w wr G g zs (k + 1) :=
  ⟨h.below, by rw [nx_keep zs k hk hz]; exact h.row, by rw [cto_keep zs k hz]; exact h.own, h.ne, h.le⟩
theorem CRel.step {w wr : World} {G g : Nat} {zs : List Int} {k n : Nat} (h : CRel w wr G g zs k) (hk : k < zs.length) (hn : 0 < n) (hn2 : n < 16) (hz : zs.getD k 0 = (n : Int)) :
    CRel w ((wr.setCell ⟨g, k, none⟩ (.int .u32 ((nx zs k n : Nat) : Int))).setCell ⟨G, n, none⟩ (.int .u32 ((nx zs k n + 1 : Nat) : Int))) G g zs (k + 1) := by
  obtain ⟨h1, _, _, h4⟩ := h.spot hk
  have hc : code zs k = nx zs k n := by unfold code nx; rw [hz, if_pos (by omega), Int.toNat_natCast]
  refine ⟨(h.below.setCell h1 _).setCell h.le _, ?_, ?_, h.ne, h.le⟩
  · have h0 : (wr.setCell ⟨g, k, none⟩ (.int .u32 ((nx zs k n : Nat) : Int))).heap[G]? = some (.cells (fc (nx zs k)).toArray 78 (0, 0)) := by rw [heap_setCell_other _ _ _ _ (by exact fun e => h.ne e.symm)]; exact h.row
    rw [heap_setCell_same _ _ _ _ _ _ h0]
    rcases nx_step zs k n hk hn hz with e | e
    · rw [e]; simp
    · omega
  · have h0 := h4 (.int .u32 ((nx zs k n : Nat) : Int))
    rw [cto_step zs k, hc]
    refine own_stays h0 fun j hj => ?_
    simp [Value.ownBlock] at hj
    subst hj
    exact heap_setCell_other _ _ _ _ h.ne
def CodesPost (zs : List Int) (w : World) (e : Ending) (w' : World) : Prop :=
  ∃ v, e = .returned (.tuple #[v, .int .i64 (if good zs then (if st zs = 1 then 20 else 0) else 1)]) ∧ w'.ownsRow w.heap.size 33 1 v (if good zs ∧ st zs ≠ 1 then zs.length else 0) (if good zs ∧ st zs ≠ 1 then nu (codes zs) else []) ∧ Below w.heap.size w w'
theorem made_u32 (n : Nat) : (madeCells (Value.int .u32 0).cells (n * 1)).toList = nu (List.replicate n 0) := by
  apply List.ext_getElem
  · simp [nu, size_madeCells]
  · intro i h1 h2
    simp [madeCells, nu, Value.cells, Nat.mod_one]
set_option maxRecDepth 100000 in
set_option maxHeartbeats 1000000 in
theorem Codes_walk (w : World) (v : Value) (zs : List Int) (hv : SlV w v (ni zs)) : Calls Try.prog 17 #[v] w (CodesPost zs w) := by
  obtain ⟨p, cap, rfl⟩ := hv.shape
  rw [ni_length] at *
  obtain ⟨l, hl⟩ : ∃ l, l = zs.length := ⟨_, rfl⟩
  rw [← hl] at hv ⊢
  have HN := Lib.hid hl
  clear hl
  have HV := Lib.hid hv
  clear hv
  go_enter Try.func17, Try.ntmps17
  go_wp2_with fail
  refine (tallied_walk w _ zs HV.out).mono ?_
  rintro e w1 ⟨rfl, hb⟩
  have HB := Lib.hid hb
  clear hb
  by_cases hg : good zs
  · rw [if_pos hg]
    have HG := Lib.hid hg
    clear hg
    have H0 := Lib.hid (heap_alloc_new w1 (.cells (tl []).toArray 74))
    have HI := Lib.hid (info74 zs)
    have HO := Lib.hid (tl_one zs)
    have HZ := Lib.hid (tl_size zs)
    have HT := Lib.hid (tat_new w1 zs)
    have HB2 := Lib.hid (HB.out.alloc HB.out.size (.cells (tl zs).toArray 74))
    go_wp2_with (refine wpList_store_row rfl 74 _ _ rfl w1.heap.size (tl zs).toArray rfl rfl 74 _ H0.out HI.out HZ.out HO.out ?_; rw [← tl0, world_setRow_new])
    have hl1 : w1.heap.size < (w1.alloc (.cells (tl zs).toArray 74)).heap.size := by simp
    have hle1 : w.heap.size ≤ w1.heap.size := HB.out.size
    generalize hw2 : w1.alloc (.cells (tl zs).toArray 74) = w2 at *
    clear hw2 HI HO HZ HB H0
    refine (state_walk _ _ zs HT.out HG.out.1).mono ?_
    rintro e w3 ⟨rfl, rfl⟩
    by_cases hs : st zs = 1
    · have HS := Lib.hid hs
      rw [hs]
      clear hs
      go_wp2_with fail
      go_ret2
      refine ⟨.slice none 0 0, by rw [if_pos HG.out, if_pos HS.out]; rfl, ?_, HB2.out⟩
      rw [if_neg (fun h => h.2 HS.out), if_neg (fun h => h.2 HS.out)]
      exact World.ownsRow_nil _ _ _ _
    · have hs' : (st zs == 1) = false := by simpa using hs
      have HS1 : Hid (good zs ∧ st zs ≠ 1) := Lib.hid ⟨HG.out, hs⟩
      clear hs
      obtain ⟨stz, hst⟩ : ∃ s, s = st zs := ⟨_, rfl⟩
      rw [← hst] at hs' ⊢
      clear hst
      go_wp2_with fail
      refine (firsts_walk _ _ zs HT.out hl1 HG.out.1).mono ?_
      rintro e w3 ⟨rfl, hb⟩
      have HB3 := Lib.hid (HB2.out.trans (hb.mono HB2.out.size))
      clear hb HB2 HT hl1
      have H0 := Lib.hid (heap_alloc_new w3 (.cells (fc fun _ => 0).toArray 78))
      have HI := Lib.hid (info78 (F zs))
      have HO := Lib.hid (fc_one (F zs))
      have HZ : Hid ((fc fun _ => 0).toArray.size = (fc (F zs)).toArray.size) := Lib.hid (by simp [fc_length])
      obtain ⟨i0, hi, hz0, hz1, hz2⟩ := info_parts info33
      have HI0 := Lib.hid (And.intro hi (And.intro hz0 (And.intro hz1 hz2)))
      clear hi hz0 hz1 hz2
      have hl2 : l ≤ 1024 := by have := HN.out; have := HG.out.1; omega
      have HX := Lib.hid (heap_alloc_new w3 (.cells (fc (F zs)).toArray 78))
      have HB4 := Lib.hid (HB3.out.alloc HB3.out.size (.cells (fc (F zs)).toArray 78))
      have hgs : (w3.alloc (.cells (fc (F zs)).toArray 78)).heap.size = w3.heap.size + 1 := by simp
      have hle3 : w.heap.size ≤ w3.heap.size := HB3.out.size
      go_wp2_with (first | (refine wpList_store_row rfl 78 _ _ rfl w3.heap.size (fc (F zs)).toArray rfl rfl 78 _ H0.out HI.out HZ.out HO.out ?_; rw [show (#[.int .u32 0, .int .u32 0, .int .u32 0, .int .u32 0, .int .u32 0, .int .u32 0, .int .u32 0, .int .u32 0, .int .u32 0, .int .u32 0, .int .u32 0, .int .u32 0, .int .u32 0, .int .u32 0, .int .u32 0, .int .u32 0] : Array Value) = (fc fun _ => 0).toArray from rfl, world_setRow_new]; generalize w3.alloc (.cells (fc (F zs)).toArray 78) = w4 at *) | (refine wpList_make_full w4 rfl _ _ 38 rfl w.heap.size 33 i0 (.int .u32 0) 1 Try.underlying38 HI0.out.1 HI0.out.2.1 HI0.out.2.2.1 .i64 .i64 l l l rfl rfl rfl rfl (by rw [HI0.out.2.2.2]; omega) (by unfold maxLen; omega) (by omega) ?_; intro w5 hown hgrow))
      have hCR : CRel w w5 w3.heap.size (w3.heap.size + 1) zs 0 := by
        rw [hgs] at hown
        refine ⟨HB4.out.grown hgrow HB4.out.size (fun k e => by cases e), ?_, ?_, by omega, by omega⟩
        · rw [hgrow.block _ (by omega) (by simp), nx_zero]; exact HX.out
        · rw [cto_zero, ← made_u32, ← HN.out]; exact hown
      have HCR := Lib.hid hCR
      clear hCR hown HX HB4 H0 HI HO HZ HI0 HB3
      generalize w3.heap.size + 1 = g at *
      generalize w3.heap.size = G at *
      go_loopw [8, 9, 26] (fun _ _ v wr => ∃ k : Nat, k ≤ l ∧ v = .int .i64 k ∧ CRel w wr G g zs k) (fun _ _ v _ => l - (intOf v).toNat)
      case atStart => exact ⟨0, Nat.zero_le _, rfl, HCR.out⟩
      case round =>
        clear HCR hgrow hgs hle3 hle1
        obtain ⟨k, hk, rfl, hR⟩ := hrel
        have HR := Lib.hid hR
        clear hR
        by_cases hlt : k < l
        · have hlti : (k : Int) < (l : Int) := by omega
          obtain ⟨gz, o, rfl, hrow⟩ := HV.out.some (by omega)
          have hcap := HV.out.le
          have hc := (hrow.below HR.out.below (hrow.lt (by rw [ni_length, ← HN.out]; omega))).ni k (by rw [← HN.out]; omega)
          clear hrow
          have hkz : k < zs.length := by have := HN.out; omega
          have hgz : 0 ≤ zs.getD k 0 ∧ zs.getD k 0 ≤ 15 := by
            have e : zs.getD k 0 = zs[k] := by simp [hkz]
            rw [e]; exact HG.out.2 _ (List.getElem_mem hkz)
          obtain ⟨n, hn⟩ : ∃ n : Nat, zs.getD k 0 = (n : Int) := ⟨(zs.getD k 0).toNat, by omega⟩
          rw [hn] at hc hgz
          have HZ := Lib.hid hn
          clear hn
          by_cases hn0 : n = 0
          · subst hn0
            have HS := Lib.hid (HR.out.keep hkz HZ.out)
            clear HR hkz
            go_wp2_with fail
            exact ⟨⟨k + 1, by omega, by go_num, HS.out⟩, by simp [intOf]; omega⟩
          · have hni : (0 : Int) < (n : Int) := by omega
            have hni2 : (n : Int) < 16 := by omega
            have HS := Lib.hid (HR.out.step hkz (by omega) (by omega : n < 16) HZ.out)
            have hc1 := HR.out.cell n (by omega)
            have hf1 := HR.out.free n
            obtain ⟨_, ⟨u, hc2⟩, hf2, _⟩ := HR.out.spot hkz
            have hne := HR.out.ne
            have hx := nx_lt zs HG.out.1 k n (by omega)
            generalize nx zs k n = x at *
            have hc1' : (wr.setCell ⟨g, k, none⟩ (.int .u32 (x : Int))).cell? ⟨G, n, none⟩ = some (.int .u32 (x : Int)) := by
              rw [World.cell?_setCell_other _ _ _ _ (by intro e; simp only [Addr.mk.injEq] at e; exact hne e.1)]; exact hc1
            clear HR hkz HZ hgz
            go_wp2_with fail
            exact ⟨⟨k + 1, by omega, by go_num, by simpa using HS.out⟩, by simp [intOf]; omega⟩
        · have hlti : (l : Int) ≤ (k : Int) := by omega
          obtain rfl : k = l := by omega
          go_wp2_with fail
          go_ret2
          refine ⟨_, by rw [if_pos HS1.out.1, if_neg HS1.out.2]; rfl, ?_, HR.out.below⟩
          rw [if_pos HS1.out, if_pos HS1.out, ← cto_all]
          have := HR.out.own
          rw [← HN.out] at this ⊢
          exact this
  · rw [if_neg hg]
    have HG := Lib.hid hg
    clear hg
    have H0 := Lib.hid (heap_alloc_new w1 (.cells (tl []).toArray 74))
    have HI := Lib.hid (info74 [])
    have HO := Lib.hid (tl_one [])
    have HB2 := Lib.hid (HB.out.alloc HB.out.size (.cells (tl []).toArray 74))
    go_wp2_with (refine wpList_store_row rfl 74 _ _ rfl w1.heap.size (tl []).toArray rfl rfl 74 _ H0.out HI.out rfl HO.out ?_; rw [← tl0, world_setRow_new])
    go_ret2
    refine ⟨.slice none 0 0, by rw [if_neg HG.out]; rfl, ?_, HB2.out⟩
    rw [if_neg (fun h => HG.out h.1), if_neg (fun h => HG.out h.1)]
    exact World.ownsRow_nil _ _ _ _
end Go.Proofs.Ytoifppfhnedahaa
