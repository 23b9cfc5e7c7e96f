/-
  Merged, in the order in which they build: Tally Codes Next.
-/
import Derived.Laws.BitsAllLaws
import Derived.Defers
import Derived.Recover
import Derived.Laws.Pointers
import Derived.Test.YtefeilgbofphjaaDoorMg1
import Derived.Test.YtefeilgbofphjaaDoorMg2
/-
  The contracts of tallied, state, firsts, oneOrNone, State, Turned.
-/
namespace Go.Proofs.YtefeilgbofphjaaDoor
open Go.RowKit Hf

/-- How many of each length, as cells. -/
def tl (zs : List Int) : List Value := (List.range 16).map fun (n : Nat) => Value.int .i64 ((zs.count (n : Int) : Nat) : Int)
theorem tl_length (zs : List Int) : (tl zs).length = 16 := by simp [tl]
theorem tl_at (zs : List Int) (n : Nat) (hn : n < 16) : (tl zs)[n]? = some (.int .i64 ((zs.count (n : Int) : Nat) : Int)) := by simp [tl, hn]
theorem tl_step (zs : List Int) (k z : Nat) (hk : k < zs.length) (hz : zs.getD k 0 = (z : Int)) (h16 : z < 16) :
    tl (zs.take (k + 1)) = (tl (zs.take k)).set z (.int .i64 (((zs.take k).count (z : Int) : Nat) + 1)) := by
  apply List.ext_getElem?
  intro n
  by_cases hn : n < 16
  · rw [tl_at _ _ hn, List.getElem?_set, count_take_succ zs k hk, hz]
    by_cases he : z = n
    · subst he; simp [tl_length, h16]
    · rw [if_neg he, tl_at _ _ hn, if_neg (by simp; omega)]
      rfl
  · rw [List.getElem?_eq_none (by rw [tl_length]; omega), List.getElem?_eq_none (by rw [List.length_set, tl_length]; omega)]
structure TalRel (w wr : World) (zs : List Int) : Prop where
  below : Below w.heap.size w wr
  size : wr.heap.size = w.heap.size + 2
  res : wr.heap[w.heap.size]? = some (.cells (tl []).toArray 110 (0, 0))
  row : wr.heap[w.heap.size + 1]? = some (.cells (tl zs).toArray 110 (0, 0))
def TalPost (zs : List Int) (w : World) (e : Ending) (w' : World) : Prop :=
  e = .returned (if good zs then .tuple #[.agg (tl zs).toArray, .int .i64 0] else .tuple #[.agg (tl []).toArray, .int .i64 1]) ∧ Below w.heap.size w w'
theorem TalRel.cell {w wr : World} {zs : List Int} (h : TalRel w wr zs) (n : Nat) (hn : n < 16) : wr.cell? ⟨w.heap.size + 1, n, none⟩ = some (.int .i64 ((zs.count (n : Int) : Nat) : Int)) := by
  rw [cell_of_row _ _ _ _ _ _ h.row]; simpa using tl_at zs n hn
theorem TalRel.rcell {w wr : World} {zs : List Int} (h : TalRel w wr zs) (n : Nat) (hn : n < 16) : wr.cell? ⟨w.heap.size, n, none⟩ = some (.int .i64 0) := by
  rw [cell_of_row _ _ _ _ _ _ h.res]; simpa using tl_at [] n hn
theorem TalRel.free {w wr : World} {zs : List Int} (h : TalRel w wr zs) (i : Nat) : wr.frozen? ⟨w.heap.size + 1, i, none⟩ = false := frozen_of_row _ _ _ _ _ h.row
theorem TalRel.rfree {w wr : World} {zs : List Int} (h : TalRel w wr zs) (i : Nat) : wr.frozen? ⟨w.heap.size, i, none⟩ = false := frozen_of_row _ _ _ _ _ h.res
theorem TalRel.step {w wr : World} {zs : List Int} {k : Nat} (h : TalRel w wr (zs.take k)) (hk : k < zs.length) (z : Nat) (hz : zs.getD k 0 = (z : Int)) (h16 : z < 16) :
    TalRel w (wr.setCell ⟨w.heap.size + 1, z, none⟩ (.int .i64 (((zs.take k).count (z : Int) : Nat) + 1))) (zs.take (k + 1)) :=
  ⟨h.below.setCell (Nat.le_succ _) _, by simp [World.setCell, h.size], by rw [heap_setCell_other _ _ _ _ (by simp)]; exact h.res,
   by rw [heap_setCell_same _ _ _ _ _ _ h.row, tl_step zs k z hk hz h16]; simp⟩
theorem TalRel.start (w : World) : TalRel w ((w.alloc (.cells (tl []).toArray 110)).alloc (.cells (tl []).toArray 110)) [] :=
  ⟨((Below.refl _ _).alloc (Nat.le_refl _) _).alloc (by simp) _, by simp, heap_alloc2_old _ _ _, heap_alloc2_new _ _ _⟩
def TalLoop (w : World) (zs : List Int) (v : Value) (wr : World) : Prop := ∃ k : Nat, k ≤ zs.length ∧ v = .int .i64 k ∧ TalRel w wr (zs.take k) ∧ ∀ i, i < k → 0 ≤ zs.getD i 0 ∧ zs.getD i 0 ≤ 15
theorem good_of (zs : List Int) (hl : zs.length ≤ 1024) (h : ∀ i, i < zs.length → 0 ≤ zs.getD i 0 ∧ zs.getD i 0 ≤ 15) : good zs := by
  refine ⟨hl, fun z hz => ?_⟩
  obtain ⟨i, hi, rfl⟩ := List.getElem_of_mem hz
  have := h i hi
  simpa [hi] using this
theorem not_good (zs : List Int) (i : Nat) (hi : i < zs.length) (h : zs.getD i 0 < 0 ∨ 15 < zs.getD i 0) : ¬ good zs := fun hg => by
  have := hg.2 zs[i] (List.getElem_mem hi)
  have e : zs.getD i 0 = zs[i] := by simp [hi]
  omega
theorem results_cell_tmp {P : Program} {fn : Func} {p q : Tmp} {ty : TypeId} (h : fn.results = #[.cell p ty, .tmp q]) (tmps : Array Value) (w : World) (g : Nat) (t : TypeId) (cs : Array Value) (fr : Nat × Nat) (d : TypeDesc) (x : Value)
    (hp : tmps.getD p undef = .pointer (some ⟨g, 0, none⟩)) (hq : tmps.getD q undef = x) (hg : w.heap[g]? = some (.cells cs t fr))
    (hu : P.underlying ty = some d) (hd : (match d with | .struct _ | .array _ _ => true | _ => false) = true) (hi : (P.info? ty).map (·.size) = some cs.size) :
    (results fn tmps).run P w = .ok (.tuple #[.agg cs, x]) w := by
  have hp' : tmps[p]?.getD undef = .pointer (some ⟨g, 0, none⟩) := by simpa using hp
  have hq' : tmps[q]?.getD undef = x := by simpa using hq
  simp [results, h, hp', hq', asAddr, run_loadVar_row w g t ty cs fr d hg hu hd hi]
theorem tl_one (zs : List Int) : ((tl zs).toArray).all (·.oneCell') = true := by
  rw [Array.all_eq_true']
  intro v hv
  simp [tl] at hv
  obtain ⟨_, _, rfl⟩ := hv
  rfl
theorem info110 (zs : List Int) : (Tryd.prog.info? 110).map (·.size) = some (tl zs).toArray.size := by
  rw [List.size_toArray, tl_length]; kernel_rfl
theorem tl0 : (tl []).toArray = #[.int .i64 0, .int .i64 0, .int .i64 0, .int .i64 0, .int .i64 0, .int .i64 0, .int .i64 0, .int .i64 0, .int .i64 0, .int .i64 0, .int .i64 0, .int .i64 0, .int .i64 0, .int .i64 0, .int .i64 0, .int .i64 0] := by rfl
/-- The end of a tally that is refused. -/
theorem tal_end {w wr : World} {zs ys : List Int} {tmps : Array Value} (hG : ¬ good zs) (hR : wr.heap[w.heap.size]? = some (.cells (tl []).toArray 110 (0, 0))) (hB : Below w.heap.size w wr) (hp : tmps.getD 2 undef = .pointer (some ⟨w.heap.size, 0, none⟩)) (hq : tmps.getD 3 undef = .int .i64 1) (ds : List Deferred) (hds : ds = []) (hy : ys = []) :
    bodyPost Tryd.prog Tryd.f52 (TalPost zs w) .ret { tmps := tmps, defers := ds } (wr.setRow w.heap.size (tl ys).toArray) := by
  subst hds hy
  refine bodyPost_ret (v := .tuple #[.agg (tl []).toArray, .int .i64 1]) ?_ rfl ⟨by rw [if_neg hG], below_setRow hB (Nat.le_refl _) _⟩
  exact results_cell_tmp (p := 2) (q := 3) (ty := 110) rfl _ _ w.heap.size 110 _ (0, 0) _ _ hp hq (setRow_heap _ _ _ _ _ _ hR) Tryd.underlying110 rfl (info110 [])
set_option maxRecDepth 100000 in
set_option maxHeartbeats 1000000 in
theorem tallied_walk (w : World) (v : Value) (zs : List Int) (hv : SlV w v (ni zs)) : Calls Tryd.prog 52 #[v] w (TalPost zs w) := by
  obtain ⟨p, cap, rfl⟩ := hv.shape
  rw [ni_length] at *
  obtain ⟨l, hl⟩ : ∃ l, l = zs.length := ⟨_, rfl⟩
  rw [← hl] at hv ⊢
  have HN := Lib.hid hl
  clear hl
  have HV := Lib.hid hv
  clear hv
  have HS := Lib.hid (TalRel.start w)
  have H0 := Lib.hid (heap_alloc_new w (.cells (tl []).toArray 110))
  have HI := Lib.hid (info110 [])
  have H1 := Lib.hid (tl_one [])
  have HB0 : Hid (Below w.heap.size w (w.alloc (.cells (tl []).toArray 110))) := Lib.hid ((Below.refl _ _).alloc (Nat.le_refl _) _)
  go_enter Tryd.func52, Tryd.ntmps52
  by_cases hbig : 1024 < (l : Int)
  · have HG : Hid (¬ good zs) := Lib.hid (fun h => by have := HN.out; unfold good at h; omega)
    go_wp2_with (refine wpList_store_row rfl 110 _ _ rfl w.heap.size (tl []).toArray rfl rfl 110 _ H0.out HI.out rfl H1.out ?_)
    exact tal_end HG.out H0.out HB0.out rfl rfl _ rfl rfl
  · have hbig : (l : Int) ≤ 1024 := by omega
    go_wp2_with fail
    go_loopw [6, 13] (fun _ v wr => TalLoop w zs v wr) (fun _ v _ => l - (intOf v).toNat)
    case atStart => exact ⟨0, Nat.zero_le _, rfl, HS.out, fun i hi => by omega⟩
    case round =>
      clear HS H0 HB0
      obtain ⟨k, hk, rfl, hR, hall⟩ := hrel
      have HR := Lib.hid hR
      have HA := Lib.hid hall
      have HZ0 := Lib.hid hR.res
      clear hR hall
      by_cases hlt : k < l
      · have hlti : (k : Int) < (l : Int) := by omega
        obtain ⟨g, o, rfl, hrow⟩ := HV.out.some (by omega)
        have hcap := HV.out.le
        have hc := (hrow.below HR.out.below (hrow.lt (by rw [ni_length, ← HN.out]; omega))).ni k (by rw [← HN.out]; omega)
        clear hrow
        obtain ⟨z, hz⟩ : ∃ z, z = zs.getD k 0 := ⟨_, rfl⟩
        rw [← hz] at hc
        have HZ := Lib.hid hz
        clear hz
        by_cases hz0 : z < 0
        · have HG : Hid (¬ good zs) := Lib.hid (not_good zs k (by rw [← HN.out]; omega) (.inl (by rw [← HZ.out]; exact hz0)))
          go_wp2_with (refine wpList_store_row rfl 110 _ _ rfl w.heap.size (tl []).toArray rfl rfl 110 _ HZ0.out HI.out rfl H1.out ?_)
          exact tal_end HG.out HZ0.out HR.out.below rfl rfl _ rfl rfl
        · by_cases hz1 : 15 < z
          · have HG : Hid (¬ good zs) := Lib.hid (not_good zs k (by rw [← HN.out]; omega) (.inr (by rw [← HZ.out]; exact hz1)))
            go_wp2_with (refine wpList_store_row rfl 110 _ _ rfl w.heap.size (tl []).toArray rfl rfl 110 _ HZ0.out HI.out rfl H1.out ?_)
            exact tal_end HG.out HZ0.out HR.out.below rfl rfl _ rfl rfl
          · obtain ⟨y, rfl⟩ : ∃ y : Nat, z = (y : Int) := ⟨z.toNat, by omega⟩
            have hc1 := HR.out.cell y (by omega)
            have hf1 := HR.out.free y
            obtain ⟨q, hq⟩ : ∃ q, q = (zs.take k).count (y : Int) := ⟨_, rfl⟩
            rw [← hq] at hc1
            have hql : q ≤ 1024 := by rw [hq]; have := List.count_le_length (a := (y : Int)) (l := zs.take k); simp at this; have := HN.out; omega
            have HS := Lib.hid (HR.out.step (by have := HN.out; omega) y HZ.out.symm (by omega))
            rw [← hq] at HS
            clear hq
            go_wp2_with fail
            refine ⟨⟨k + 1, by have := HN.out; omega, by go_num, HS.out, fun i hi => ?_⟩, by simp [intOf]; omega⟩
            rcases Nat.lt_or_ge i k with h | h
            · exact HA.out i h
            · obtain rfl : i = k := by omega
              rw [← HZ.out]; omega
      · have hlti : (l : Int) ≤ (k : Int) := by omega
        have hkl : k = zs.length := by have := HN.out; omega
        have HG : Hid (good zs) := Lib.hid (good_of zs (by have := HN.out; omega) (fun i hi => HA.out i (by omega)))
        have HE := HR.out.row
        rw [hkl, List.take_length] at HE
        have HE := Lib.hid HE
        have HJ := Lib.hid (info110 zs)
        have H2 := Lib.hid (tl_one zs)
        have HSZ : Hid ((tl []).toArray.size = (tl zs).toArray.size) := Lib.hid (by simp [tl_length])
        clear hkl
        go_wp2_with (first | (refine wpList_load_row rfl 110 _ rfl (w.heap.size + 1) rfl 110 (tl zs).toArray (0, 0) _ HE.out Tryd.underlying110 rfl HJ.out ?_) | (refine wpList_store_row rfl 110 _ _ rfl w.heap.size (tl zs).toArray rfl rfl 110 _ HZ0.out HJ.out HSZ.out H2.out ?_))
        refine bodyPost_ret (v := .tuple #[.agg (tl zs).toArray, .int .i64 0]) ?_ rfl ⟨by rw [if_pos HG.out], below_setRow HR.out.below (Nat.le_refl _) _⟩
        exact results_cell_tmp (p := 2) (q := 3) (ty := 110) rfl _ _ w.heap.size 110 _ (0, 0) _ _ rfl rfl (setRow_heap _ _ _ _ _ _ HZ0.out) Tryd.underlying110 rfl HJ.out

theorem count_le_len (zs : List Int) (z : Int) : zs.count z ≤ zs.length := List.count_le_length
/-- Where a tally stands. -/
def TAt (w : World) (g : Nat) (zs : List Int) : Prop := ∀ n, n < 16 → w.cell? ⟨g, n, none⟩ = some (.int .i64 ((zs.count (n : Int) : Nat) : Int))
/-- The sum of state, so far. -/
def sm (zs : List Int) : Nat → Nat
  | 0 => 0
  | n + 1 => sm zs n + zs.count ((n + 1 : Nat) : Int) * 2 ^ (15 - (n + 1))
theorem sm_K (zs : List Int) (n : Nat) (hn : n ≤ 15) : sm zs n = K zs n * 2 ^ (15 - n) := by
  induction n with
  | zero => simp [sm, K_zero]
  | succ n ih =>
    have e0 : K zs (n + 1) = 2 * K zs n + ct zs (n + 1) := rfl
    rw [sm, ih (by omega), e0, Nat.add_mul]
    have e : 2 ^ (15 - n) = 2 * 2 ^ (15 - (n + 1)) := by rw [show 15 - n = 15 - (n + 1) + 1 by omega, Nat.pow_succ]; omega
    rw [e]
    congr 1
    rw [Nat.mul_comm 2 (K zs n), Nat.mul_assoc]
theorem sm_le (zs : List Int) (hl : zs.length ≤ 1024) (n : Nat) : sm zs n ≤ n * 33554432 := by
  induction n with
  | zero => simp [sm]
  | succ n ih =>
    rw [sm]
    have h1 := count_le_len zs ((n + 1 : Nat) : Int)
    have h2 : 2 ^ (15 - (n + 1)) ≤ 2 ^ 15 := Nat.pow_le_pow_right (by decide) (by omega)
    have h3 : zs.count ((n + 1 : Nat) : Int) * 2 ^ (15 - (n + 1)) ≤ 1024 * 2 ^ 15 := Nat.mul_le_mul (by omega) h2
    have : (1024 : Nat) * 2 ^ 15 = 33554432 := by decide
    omega
theorem sm_all (zs : List Int) : sm zs 15 = kr zs := by rw [sm_K zs 15 (Nat.le_refl _)]; simp [kr]
set_option maxRecDepth 100000 in
set_option maxHeartbeats 1000000 in
theorem state_walk (w : World) (g : Nat) (zs : List Int) (h : TAt w g zs) (hl : zs.length ≤ 1024) :
    Calls Tryd.prog 53 #[.pointer (some ⟨g, 0, none⟩)] w fun e w' => e = .returned (.int .i64 (st zs)) ∧ w = w' := by
  have HT := Lib.hid h
  have HL := Lib.hid hl
  clear h hl
  go_enter Tryd.func53, Tryd.ntmps53
  go_wp2_with fail
  go_loop [3, 4] (fun v3 v4 => ∃ k : Nat, k ≤ 15 ∧ v4 = .int .i64 ((k : Int) + 1) ∧ v3 = .int .i64 (sm zs k : Nat)) (fun _ v4 => 17 - (intOf v4).toNat)
  case atStart => exact ⟨0, by omega, rfl, rfl⟩
  case round =>
    obtain ⟨k, hk, rfl, rfl⟩ := hrel
    have hs := sm_le zs HL.out k
    by_cases hlt : k < 15
    · have hc := HT.out (k + 1) (by omega)
      have hq := count_le_len zs ((k + 1 : Nat) : Int)
      have HS := Lib.hid (show sm zs (k + 1) = sm zs k + zs.count ((k + 1 : Nat) : Int) * 2 ^ (15 - (k + 1)) from rfl)
      obtain ⟨q, hq0⟩ : ∃ q, q = zs.count ((k + 1 : Nat) : Int) := ⟨_, rfl⟩
      rw [← hq0] at hc hq HS
      clear hq0
      have hq1 : q ≤ 1024 := by have := HL.out; omega
      clear hq
      generalize sm zs k = s at *
      go_wp2_with fail
      refine ⟨⟨k + 1, by omega, by go_num, ?_⟩, by simp [intOf]; omega⟩
      have h2 : q * 2 ^ (14 - k) ≤ 1024 * 2 ^ 14 := Nat.mul_le_mul hq1 (Nat.pow_le_pow_right (by decide) (by omega))
      have e : (q : Int) * 2 ^ (14 - k) = ((q * 2 ^ (14 - k) : Nat) : Int) := by simp
      rw [HS.out, show 15 - (k + 1) = 14 - k by omega, e]
      generalize q * 2 ^ (14 - k) = y at *
      have e1 : wrap64 (y : Int) = (y : Int) := by unfold wrap64; omega
      have e2 : wrap64 ((s : Int) + y) = ((s + y : Nat) : Int) := by unfold wrap64; omega
      rw [e1, e2]
    · obtain rfl : k = 15 := by omega
      rw [sm_all] at *
      have HK := Lib.hid (show st zs = (if kr zs < 32768 then -1 else if 32768 < kr zs then 1 else 0) from rfl)
      obtain ⟨s, hs1⟩ : ∃ s : Int, s = (kr zs : Int) := ⟨_, rfl⟩
      rw [← hs1]
      have HS1 := Lib.hid hs1
      clear hs1 hs hk hlt
      by_cases h1 : s < 32768
      · have HE : Hid (st zs = -1) := Lib.hid (by rw [HK.out, if_pos (by have := HS1.out; omega)])
        clear HK HS1
        go_wp2_with fail
        go_ret
        exact ⟨ret_int HE.out.symm, rfl⟩
      · by_cases h2 : 32768 < s
        · have HE : Hid (st zs = 1) := Lib.hid (by rw [HK.out, if_neg (by have := HS1.out; omega), if_pos (by have := HS1.out; omega)])
          clear HK HS1
          go_wp2_with fail
          go_ret
          exact ⟨ret_int HE.out.symm, rfl⟩
        · have HE : Hid (st zs = 0) := Lib.hid (by rw [HK.out, if_neg (by have := HS1.out; omega), if_neg (by have := HS1.out; omega)])
          clear HK HS1
          go_wp2_with fail
          go_ret
          exact ⟨ret_int HE.out.symm, rfl⟩

/-- First codes, as cells. -/
def fc (f : Nat → Nat) : List Value := (List.range 16).map fun (n : Nat) => Value.int .u32 ((f n : Nat) : Int)
theorem fc_length (f : Nat → Nat) : (fc f).length = 16 := by simp [fc]
theorem fc_at (f : Nat → Nat) (n : Nat) (hn : n < 16) : (fc f)[n]? = some (.int .u32 ((f n : Nat) : Int)) := by simp [fc, hn]
theorem fc_set (f : Nat → Nat) (n x : Nat) (hn : n < 16) : (fc f).set n (.int .u32 (x : Int)) = fc (fun m => if m = n then x else f m) := by
  apply List.ext_getElem?
  intro m
  by_cases hm : m < 16
  · rw [fc_at _ _ hm, List.getElem?_set]
    by_cases he : n = m
    · subst he; simp [fc_length, hn]
    · rw [if_neg he, fc_at _ _ hm, if_neg (fun e => he e.symm)]
  · rw [List.getElem?_eq_none (by rw [List.length_set, fc_length]; omega), List.getElem?_eq_none (by rw [fc_length]; omega)]
theorem fc_one (f : Nat → Nat) : ((fc f).toArray).all (·.oneCell') = true := by
  rw [Array.all_eq_true']
  intro v hv
  simp [fc] at hv
  obtain ⟨_, _, rfl⟩ := hv
  rfl
theorem info113 (f : Nat → Nat) : (Tryd.prog.info? 113).map (·.size) = some (fc f).toArray.size := by
  rw [List.size_toArray, fc_length]; kernel_rfl
/-- The first codes, those from k on not yet told. -/
def fto (zs : List Int) (k : Nat) : Nat → Nat := fun n => if n < k then F zs n else 0
theorem fto_two (zs : List Int) : fc (fto zs 2) = fc (fun _ => 0) := by
  unfold fc
  apply List.map_congr_left
  intro n _
  unfold fto
  congr 2
  split
  · have : n = 0 ∨ n = 1 := by omega
    rcases this with rfl | rfl <;> rfl
  · rfl
theorem fto_step (zs : List Int) (k : Nat) (hk : k < 16) : fc (fto zs (k + 1)) = (fc (fto zs k)).set k (.int .u32 (F zs k : Int)) := by
  rw [fc_set _ _ _ hk]
  congr 1
  funext m
  unfold fto
  by_cases h : m = k
  · subst h; simp
  · rw [if_neg h]; congr 1; simp; omega
theorem fto_all (zs : List Int) : fc (fto zs 16) = fc (F zs) := by
  unfold fc
  apply List.map_congr_left
  intro n hn
  unfold fto
  rw [if_pos (List.mem_range.1 hn)]
structure FstRel (w wr : World) (f : Nat → Nat) : Prop where
  below : Below w.heap.size w wr
  size : wr.heap.size = w.heap.size + 2
  res : wr.heap[w.heap.size]? = some (.cells (fc fun _ => 0).toArray 113 (0, 0))
  row : wr.heap[w.heap.size + 1]? = some (.cells (fc f).toArray 113 (0, 0))
theorem FstRel.cell {w wr : World} {f : Nat → Nat} (h : FstRel w wr f) (n : Nat) (hn : n < 16) : wr.cell? ⟨w.heap.size + 1, n, none⟩ = some (.int .u32 ((f n : Nat) : Int)) := by
  rw [cell_of_row _ _ _ _ _ _ h.row]; simpa using fc_at f n hn
theorem FstRel.free {w wr : World} {f : Nat → Nat} (h : FstRel w wr f) (i : Nat) : wr.frozen? ⟨w.heap.size + 1, i, none⟩ = false := frozen_of_row _ _ _ _ _ h.row
theorem FstRel.step {w wr : World} {zs : List Int} {k : Nat} (h : FstRel w wr (fto zs k)) (hk : k < 16) :
    FstRel w (wr.setCell ⟨w.heap.size + 1, k, none⟩ (.int .u32 (F zs k : Int))) (fto zs (k + 1)) :=
  ⟨h.below.setCell (Nat.le_succ _) _, by simp [World.setCell, h.size], by rw [heap_setCell_other _ _ _ _ (by simp)]; exact h.res,
   by rw [heap_setCell_same _ _ _ _ _ _ h.row, fto_step zs k hk]; simp⟩
theorem FstRel.drew {w wr : World} {f : Nat → Nat} (h : FstRel w wr f) : FstRel w wr.drew f := ⟨⟨h.below.os, h.below.tape, h.below.output, h.below.size, h.below.block⟩, h.size, h.res, h.row⟩
theorem FstRel.start (w : World) : FstRel w ((w.alloc (.cells (fc fun _ => 0).toArray 113)).alloc (.cells (fc fun _ => 0).toArray 113)) (fun _ => 0) :=
  ⟨((Below.refl _ _).alloc (Nat.le_refl _) _).alloc (by simp) _, by simp, heap_alloc2_old _ _ _, heap_alloc2_new _ _ _⟩
set_option maxRecDepth 100000 in
set_option maxHeartbeats 1000000 in
theorem firsts_walk (w : World) (g : Nat) (zs : List Int) (h : TAt w g zs) (hg : g < w.heap.size) (hl : zs.length ≤ 1024) :
    Calls Tryd.prog 54 #[.pointer (some ⟨g, 0, none⟩)] w fun e w' => e = .returned (.agg (fc (F zs)).toArray) ∧ Below w.heap.size w w' := by
  have HT := Lib.hid h
  have HL := Lib.hid hl
  have HG := Lib.hid hg
  clear h hl hg
  have HS := Lib.hid (FstRel.start w)
  go_enter Tryd.func54, Tryd.ntmps54
  go_wp2_with fail
  go_loopw [4] (fun v4 wr => ∃ k : Nat, 1 ≤ k ∧ k ≤ 15 ∧ v4 = .int .i64 ((k : Int) + 1) ∧ FstRel w wr (fto zs (k + 1))) (fun v4 _ => 17 - (intOf v4).toNat)
  case atStart => exact ⟨1, by omega, by omega, rfl, by have := HS.out; rw [show (1 + 1) = 2 from rfl]; exact ⟨this.below, this.size, this.res, by rw [fto_two]; exact this.row⟩⟩
  case round =>
    clear HS
    obtain ⟨k, hk1, hk, rfl, hR⟩ := hrel
    have HR := Lib.hid hR
    clear hR
    by_cases hlt : k < 15
    · have hc := HT.out k (by omega)
      rw [← HR.out.below.cell (p := ⟨g, k, none⟩) HG.out] at hc
      have hc1 := HR.out.cell k (by omega)
      have hc2 := HR.out.cell (k + 1) (by omega)
      have hf2 := HR.out.free (k + 1)
      rw [show fto zs (k + 1) k = F zs k by unfold fto; rw [if_pos (by omega)]] at hc1
      have HS := Lib.hid (HR.out.step (by omega : k + 1 < 16))
      have HK := Lib.hid (K_lt zs k (by omega) HL.out)
      have HE : Hid (F zs (k + 1) = 2 * (F zs k + zs.count (k : Int))) := Lib.hid (by rw [F_succ]; unfold K ct; rw [if_neg (by omega)])
      have HKE : Hid (K zs k = F zs k + zs.count (k : Int)) := Lib.hid (by unfold K ct; rw [if_neg (by omega)])
      have hb : F zs k + zs.count (k : Int) ≤ 33554432 := by rw [← HKE.out]; exact HK.out
      generalize fto zs (k + 1) (k + 1) = f0 at hc2
      rw [HE.out] at HS
      clear HK HE HKE
      generalize F zs k = f at *
      generalize zs.count (k : Int) = c at *
      go_wp2_with fail
      have s1 : IntKind.i64.wrap (k : Int) = (k : Int) := IntWalk.i64_in _ (by omega)
      have s2 : IntKind.u32.wrap (c : Int) = (c : Int) := IntWalk.u32_in _ (by omega)
      have s3 : IntKind.u32.wrap ((f : Int) + c) = (f : Int) + c := IntWalk.u32_in _ (by omega)
      have s4 : IntKind.u32.wrap (2 * ((f : Int) + c)) = 2 * ((f : Int) + c) := IntWalk.u32_in _ (by omega)
      obtain ⟨a1, a2, a3⟩ : (k : Int) < 16 ∧ (k : Int) + 1 < 16 ∧ 0 ≤ (k : Int) + 1 := by omega
      have t1 : ((k : Int) + 1).toNat = k + 1 := by omega
      refine wp_region_still_tail 15 (by kernel_rfl) (by kernel_rfl) ?_
      simp only [List.take_succ_cons, List.take_zero, List.drop_succ_cons, List.drop_zero]
      change wpStill _ _ wr.drew (fun a' => wpList _ _ _ _ a' wr.drew) _ _
      repeat (first | still_step)
      refine wpStill_nil ?_
      clear s1 s2 s3 s4 t1
      go_wp2_with fail
      refine ⟨⟨k + 1, by omega, by omega, by go_num, ?_⟩, by simp [intOf]; omega⟩
      have := HS.out.drew
      simpa using this
    · obtain rfl : k = 15 := by omega
      have HE := Lib.hid (HR.out.row.trans (by rw [fto_all]))
      have HJ := Lib.hid (info113 (F zs))
      have H2 := Lib.hid (fc_one (F zs))
      have HZ := Lib.hid HR.out.res
      have HSZ : Hid ((fc fun _ => 0).toArray.size = (fc (F zs)).toArray.size) := Lib.hid (by simp [fc_length])
      go_wp2_with (first | (refine wpList_load_row rfl 113 _ rfl (w.heap.size + 1) rfl 113 (fc (F zs)).toArray (0, 0) _ HE.out Tryd.underlying113 rfl HJ.out ?_) | (refine wpList_store_row rfl 113 _ _ rfl w.heap.size (fc (F zs)).toArray rfl rfl 113 _ HZ.out HJ.out HSZ.out H2.out ?_))
      refine bodyPost_ret (v := .agg (fc (F zs)).toArray) ?_ rfl ⟨rfl, below_setRow HR.out.below (Nat.le_refl _) _⟩
      exact results_cell_row (p := 2) (ty := 113) rfl _ _ w.heap.size 113 _ (0, 0) _ rfl (setRow_heap _ _ _ _ _ _ HZ.out) Tryd.underlying113 rfl HJ.out

end Go.Proofs.YtefeilgbofphjaaDoor
/-
  The contracts of State, oneOrNone, Turned, Codes.
-/
namespace Go.Proofs.YtefeilgbofphjaaDoor
open Go.RowKit Hf

theorem world_setRow_new (w : World) (c c' : Array Value) (t : TypeId) : (w.alloc (.cells c t)).setRow w.heap.size c' = w.alloc (.cells c' t) := World.setRow_alloc_new _ _ _ _
theorem tat_row {w : World} {g : Nat} {zs : List Int} {T : TypeId} (h : w.heap[g]? = some (.cells (tl zs).toArray T (0, 0))) : TAt w g zs := fun n hn => by
  rw [cell_of_row _ _ _ _ _ _ h]; simpa using tl_at zs n hn
theorem tat_new (w : World) (zs : List Int) : TAt (w.alloc (.cells (tl zs).toArray 110)) w.heap.size zs := tat_row (heap_alloc_new _ _)
theorem tl_size (zs : List Int) : (tl []).toArray.size = (tl zs).toArray.size := by simp [tl_length]
set_option maxRecDepth 100000 in
set_option maxHeartbeats 1000000 in
theorem oneOrNone_walk (w : World) (zs : List Int) (n : Nat) (hn : n = zs.length) (hl : zs.length ≤ 1024) :
    Calls Tryd.prog 95 #[.agg (tl zs).toArray, .int .i64 (n : Int)] w fun e w' => e = .returned (.bool (Hf.lone zs)) ∧ Below w.heap.size w w' := by
  have h0 : (tl zs)[0]? = some (.int .i64 ((zs.count 0 : Nat) : Int)) := tl_at zs 0 (by omega)
  have h1 : (tl zs)[1]? = some (.int .i64 ((zs.count 1 : Nat) : Int)) := tl_at zs 1 (by omega)
  have hq := count_le_len zs 0
  have hlen := tl_length zs
  have HB : Hid (Below w.heap.size w (w.alloc (.cells (tl zs).toArray 110))) := Lib.hid ((Below.refl _ _).alloc (Nat.le_refl _) _)
  have HE : Hid (Hf.lone zs = (decide (n - zs.count 0 ≤ 1) && decide (n - zs.count 0 = zs.count 1))) := Lib.hid (by rw [hn]; rfl)
  have hl : n ≤ 1024 := by omega
  rw [← hn] at hq
  clear hn
  obtain ⟨a, ha⟩ : ∃ a, a = zs.count 0 := ⟨_, rfl⟩
  obtain ⟨b, hb⟩ : ∃ b, b = zs.count 1 := ⟨_, rfl⟩
  rw [← ha] at h0 HE hq
  rw [← hb] at h1 HE
  clear ha hb
  obtain ⟨R, hR⟩ : ∃ R, tl zs = .int .i64 (a : Int) :: .int .i64 (b : Int) :: R := by
    generalize tl zs = L at *
    match L, h0, h1, hlen with
    | x :: y :: R, h0, h1, _ => 
      simp at h0 h1
      exact ⟨R, by rw [h0, h1]⟩
  rw [hR] at hlen HB ⊢
  clear hR h0 h1
  by_cases hA : (n : Int) - (a : Int) ≤ 1
  · go_enter Tryd.func95, Tryd.ntmps95
    go_wp2_with fail
    go_ret
    refine ⟨?_, HB.out⟩
    rw [HE.out, decide_eq_true (by omega : n - a ≤ 1), Bool.true_and]
    show Ending.returned (Value.bool ((n : Int) - a == b)) = _
    congr 2
    by_cases h : (n : Int) - a = b
    · rw [decide_eq_true (by omega : n - a = b), h]; exact beq_self_eq_true _
    · rw [decide_eq_false (by omega : ¬ n - a = b)]; exact beq_false_of_ne h
  · go_enter Tryd.func95, Tryd.ntmps95
    go_wp2_with fail
    go_ret
    refine ⟨?_, HB.out⟩
    rw [HE.out, decide_eq_false (by omega : ¬ n - a ≤ 1), Bool.false_and]
    rfl
/-- A code's lowest bits, the first one last. -/
def trn (c : Nat) : Nat → Nat
  | 0 => 0
  | n + 1 => 2 * trn c n + c / 2 ^ n % 2
theorem trn_lt (c n : Nat) : trn c n < 2 ^ n := by
  induction n with
  | zero => simp [trn]
  | succ n ih => rw [trn, Nat.pow_succ]; omega
theorem or_bit (t b : Nat) (hb : b < 2) : 2 * t ||| b = 2 * t + b := by
  have h := Nat.two_pow_add_eq_or_of_lt (i := 1) (b := b) (by simpa using hb) t
  simp only [Nat.pow_one] at h
  rw [← h]
theorem trn_go (c k : Nat) (hc : c < 4294967296) (hk : k < 32) : bits .or .u32 ((trn c k : Int) * 2 % 4294967296) (bits .and .u32 ((c : Int) / 2 ^ k) 1) = ((trn c (k + 1) : Nat) : Int) := by
  have h1 := trn_lt c k
  have h2 : 2 ^ k ≤ 2 ^ 31 := Nat.pow_le_pow_right (by decide) (by omega)
  have h4 : (2 : Nat) ^ 31 = 2147483648 := by decide
  have h3 : trn c k * 2 < 4294967296 := by omega
  have e : (trn c k : Int) * 2 % 4294967296 = ((trn c k * 2 : Nat) : Int) := by omega
  have e2 : (c : Int) / 2 ^ k = ((c / 2 ^ k : Nat) : Int) := by simp
  have e3 : c / 2 ^ k < 4294967296 := Nat.lt_of_le_of_lt (Nat.div_le_self _ _) hc
  rw [e, e2, show (1 : Int) = ((1 : Nat) : Int) from rfl, u32_and_nat _ _ e3 (by decide), Nat.and_one_is_mod, u32_or_nat _ _ h3 (by omega), Nat.mul_comm, or_bit _ _ (by omega)]
  rfl
/-- The next code of each length, behind k symbols. -/
def nx (zs : List Int) (k n : Nat) : Nat := F zs n + ct (zs.take k) n
theorem nx_zero (zs : List Int) : nx zs 0 = F zs := by funext n; unfold nx ct; split <;> simp
theorem ct_take_le (zs : List Int) (k n : Nat) : ct (zs.take k) n ≤ ct zs n := by
  unfold ct
  split
  · omega
  · have e : zs.count (n : Int) = (zs.take k).count (n : Int) + (zs.drop k).count (n : Int) := by rw [← List.count_append, List.take_append_drop]
    omega
theorem nx_lt (zs : List Int) (hl : zs.length ≤ 1024) (k n : Nat) (hn : n ≤ 15) : nx zs k n ≤ 33554432 := by
  have h1 := ct_take_le zs k n
  have h2 := K_lt zs n hn hl
  unfold K at h2; unfold nx; omega
theorem nx_step (zs : List Int) (k n : Nat) (hk : k < zs.length) (hn : 0 < n) (hz : zs.getD k 0 = (n : Int)) : fc (nx zs (k + 1)) = (fc (nx zs k)).set n (.int .u32 ((nx zs k n + 1 : Nat) : Int)) ∨ 16 ≤ n := by
  rcases Nat.lt_or_ge n 16 with h | h
  · refine .inl ?_
    rw [fc_set _ _ _ h]
    congr 1
    funext m
    unfold nx
    by_cases hm : m = n
    · subst hm
      rw [if_pos rfl, ct_take_succ zs k hk m hn, if_pos hz]; omega
    · rw [if_neg hm]
      congr 1
      rcases Nat.eq_zero_or_pos m with h0 | h0
      · subst h0; rfl
      · rw [ct_take_succ zs k hk m h0, if_neg (by omega)]; omega
  · exact .inr h
theorem nx_keep (zs : List Int) (k : Nat) (hk : k < zs.length) (hz : zs.getD k 0 = 0) : nx zs (k + 1) = nx zs k := by
  funext m
  unfold nx
  congr 1
  rcases Nat.eq_zero_or_pos m with h0 | h0
  · subst h0; rfl
  · rw [ct_take_succ zs k hk m h0, if_neg (by omega)]; omega
/-- The codes of the first k symbols. -/
def cto (zs : List Int) (k : Nat) : List Nat := (List.range zs.length).map fun i => if i < k then code zs i else 0
theorem cto_length (zs : List Int) (k : Nat) : (cto zs k).length = zs.length := by simp [cto]
theorem cto_all (zs : List Int) : cto zs zs.length = codes zs := by
  unfold cto codes
  apply List.map_congr_left
  intro i hi
  rw [if_pos (List.mem_range.1 hi)]
theorem cto_zero (zs : List Int) : cto zs 0 = List.replicate zs.length 0 := by
  apply List.ext_getElem (by simp [cto])
  intro i h1 h2
  simp [cto]
theorem cto_step (zs : List Int) (k : Nat) : nu (cto zs (k + 1)) = (nu (cto zs k)).set k (.int .u32 ((code zs k : Nat) : Int)) := by
  apply List.ext_getElem (by simp [cto])
  intro i h1 h2
  simp only [nu, cto, List.map_map, List.getElem_map, List.getElem_range, List.getElem_set, Function.comp]
  by_cases he : k = i
  · subst he; simp
  · rw [if_neg he]
    congr 2
    by_cases h : i < k
    · rw [if_pos h, if_pos (by omega)]
    · rw [if_neg h, if_neg (by omega)]
theorem cto_keep (zs : List Int) (k : Nat) (hz : zs.getD k 0 = 0) : cto zs (k + 1) = cto zs k := by
  unfold cto
  apply List.map_congr_left
  intro i _
  by_cases he : i = k
  · subst he
    rw [if_pos (by omega), if_neg (by omega)]
    unfold code
    rw [hz, if_neg (by omega)]
  · by_cases h : i < k
    · rw [if_pos h, if_pos (by omega)]
    · rw [if_neg h, if_neg (by omega)]
structure CRel (w wr : World) (G g : Nat) (zs : List Int) (k : Nat) : Prop where
  below : Below w.heap.size w wr
  row : wr.heap[G]? = some (.cells (fc (nx zs k)).toArray 113 (0, 0))
  own : wr.ownsRow w.heap.size 49 1 (.slice (some ⟨g, 0, none⟩) zs.length zs.length) zs.length (nu (cto zs k))
  ne : g ≠ G
  le : w.heap.size ≤ G
theorem CRel.cell {w wr : World} {G g : Nat} {zs : List Int} {k : Nat} (h : CRel w wr G g zs k) (n : Nat) (hn : n < 16) : wr.cell? ⟨G, n, none⟩ = some (.int .u32 ((nx zs k n : Nat) : Int)) := by
  rw [cell_of_row _ _ _ _ _ _ h.row]; simpa using fc_at _ n hn
theorem CRel.free {w wr : World} {G g : Nat} {zs : List Int} {k : Nat} (h : CRel w wr G g zs k) (n : Nat) : wr.frozen? ⟨G, n, none⟩ = false := frozen_of_row _ _ _ _ _ h.row
theorem CRel.spot {w wr : World} {G g : Nat} {zs : List Int} {k : Nat} (h : CRel w wr G g zs k) (hk : k < zs.length) :
    w.heap.size ≤ g ∧ (∃ u, wr.cell? ⟨g, k, none⟩ = some u) ∧ wr.frozen? ⟨g, k, none⟩ = false ∧ ∀ x, (wr.setCell ⟨g, k, none⟩ x).ownsRow w.heap.size 49 1 (.slice (some ⟨g, 0, none⟩) zs.length zs.length) zs.length ((nu (cto zs k)).set k x) := by
  obtain ⟨g', cap, he, h1, h2, h3, h4, h5, h6, h7⟩ := own_spot h.own (by omega)
  cases he
  exact ⟨h1, ⟨_, h5 k _ (List.getElem?_eq_getElem (by simp [cto_length, hk]))⟩, h6 k, fun x => h7 k x hk⟩
theorem CRel.keep {w wr : World} {G g : Nat} {zs : List Int} {k : Nat} (h : CRel w wr G g zs k) (hk : k < zs.length) (hz : zs.getD k 0 = 0) : CRel w wr G g zs (k + 1) :=
  ⟨h.below, by rw [nx_keep zs k hk hz]; exact h.row, by rw [cto_keep zs k hz]; exact h.own, h.ne, h.le⟩
theorem CRel.step {w wr : World} {G g : Nat} {zs : List Int} {k n : Nat} (h : CRel w wr G g zs k) (hk : k < zs.length) (hn : 0 < n) (hn2 : n < 16) (hz : zs.getD k 0 = (n : Int)) :
    CRel w ((wr.setCell ⟨g, k, none⟩ (.int .u32 ((nx zs k n : Nat) : Int))).setCell ⟨G, n, none⟩ (.int .u32 ((nx zs k n + 1 : Nat) : Int))) G g zs (k + 1) := by
  obtain ⟨h1, _, _, h4⟩ := h.spot hk
  have hc : code zs k = nx zs k n := by unfold code nx; rw [hz, if_pos (by omega), Int.toNat_natCast]
  refine ⟨(h.below.setCell h1 _).setCell h.le _, ?_, ?_, h.ne, h.le⟩
  · have h0 : (wr.setCell ⟨g, k, none⟩ (.int .u32 ((nx zs k n : Nat) : Int))).heap[G]? = some (.cells (fc (nx zs k)).toArray 113 (0, 0)) := by rw [heap_setCell_other _ _ _ _ (by exact fun e => h.ne e.symm)]; exact h.row
    rw [heap_setCell_same _ _ _ _ _ _ h0]
    rcases nx_step zs k n hk hn hz with e | e
    · rw [e]; simp
    · omega
  · have h0 := h4 (.int .u32 ((nx zs k n : Nat) : Int))
    rw [cto_step zs k, hc]
    refine own_stays h0 fun j hj => ?_
    simp [Value.ownBlock] at hj
    subst hj
    exact heap_setCell_other _ _ _ _ h.ne
def CodesPost (zs : List Int) (w : World) (e : Ending) (w' : World) : Prop :=
  ∃ v, e = .returned (.tuple #[v, .int .i64 (if good zs then (if st zs = 1 then 20 else 0) else 1)]) ∧ w'.ownsRow w.heap.size 49 1 v (if good zs ∧ st zs ≠ 1 then zs.length else 0) (if good zs ∧ st zs ≠ 1 then nu (codes zs) else []) ∧ Below w.heap.size w w'
theorem made_u32 (n : Nat) : (madeCells (Value.int .u32 0).cells (n * 1)).toList = nu (List.replicate n 0) := by
  apply List.ext_getElem
  · simp [nu, size_madeCells]
  · intro i h1 h2
    simp [madeCells, nu, Value.cells, Nat.mod_one]
set_option maxRecDepth 100000 in
set_option maxHeartbeats 1000000 in
theorem Codes_walk (w : World) (v : Value) (zs : List Int) (hv : SlV w v (ni zs)) : Calls Tryd.prog 37 #[v] w (CodesPost zs w) := by
  obtain ⟨p, cap, rfl⟩ := hv.shape
  rw [ni_length] at *
  obtain ⟨l, hl⟩ : ∃ l, l = zs.length := ⟨_, rfl⟩
  rw [← hl] at hv ⊢
  have HN := Lib.hid hl
  clear hl
  have HV := Lib.hid hv
  clear hv
  go_enter Tryd.func37, Tryd.ntmps37
  go_wp2_with fail
  refine (tallied_walk w _ zs HV.out).mono ?_
  rintro e w1 ⟨rfl, hb⟩
  have HB := Lib.hid hb
  clear hb
  by_cases hg : good zs
  · rw [if_pos hg]
    have HG := Lib.hid hg
    clear hg
    have H0 := Lib.hid (heap_alloc_new w1 (.cells (tl []).toArray 110))
    have HI := Lib.hid (info110 zs)
    have HO := Lib.hid (tl_one zs)
    have HZ := Lib.hid (tl_size zs)
    have HT := Lib.hid (tat_new w1 zs)
    have HB2 := Lib.hid (HB.out.alloc HB.out.size (.cells (tl zs).toArray 110))
    go_wp2_with (refine wpList_store_row rfl 110 _ _ rfl w1.heap.size (tl zs).toArray rfl rfl 110 _ H0.out HI.out HZ.out HO.out ?_; rw [← tl0, world_setRow_new])
    have hl1 : w1.heap.size < (w1.alloc (.cells (tl zs).toArray 110)).heap.size := by simp
    have hle1 : w.heap.size ≤ w1.heap.size := HB.out.size
    generalize hw2 : w1.alloc (.cells (tl zs).toArray 110) = w2 at *
    clear hw2 HI HO HZ HB H0
    refine (state_walk _ _ zs HT.out HG.out.1).mono ?_
    rintro e w3 ⟨rfl, rfl⟩
    by_cases hs : st zs = 1
    · have HS := Lib.hid hs
      rw [hs]
      clear hs
      go_wp2_with fail
      go_ret2
      refine ⟨.slice none 0 0, by rw [if_pos HG.out, if_pos HS.out]; rfl, ?_, HB2.out⟩
      rw [if_neg (fun h => h.2 HS.out), if_neg (fun h => h.2 HS.out)]
      exact World.ownsRow_nil _ _ _ _
    · have hs' : (st zs == 1) = false := by simpa using hs
      have HS1 : Hid (good zs ∧ st zs ≠ 1) := Lib.hid ⟨HG.out, hs⟩
      clear hs
      obtain ⟨stz, hst⟩ : ∃ s, s = st zs := ⟨_, rfl⟩
      rw [← hst] at hs' ⊢
      clear hst
      go_wp2_with fail
      refine (firsts_walk _ _ zs HT.out hl1 HG.out.1).mono ?_
      rintro e w3 ⟨rfl, hb⟩
      have HB3 := Lib.hid (HB2.out.trans (hb.mono HB2.out.size))
      clear hb HB2 HT hl1
      have H0 := Lib.hid (heap_alloc_new w3 (.cells (fc fun _ => 0).toArray 113))
      have HI := Lib.hid (info113 (F zs))
      have HO := Lib.hid (fc_one (F zs))
      have HZ : Hid ((fc fun _ => 0).toArray.size = (fc (F zs)).toArray.size) := Lib.hid (by simp [fc_length])
      obtain ⟨i0, hi, hz0, hz1, hz2⟩ := info_parts info49
      have HI0 := Lib.hid (And.intro hi (And.intro hz0 (And.intro hz1 hz2)))
      clear hi hz0 hz1 hz2
      have hl2 : l ≤ 1024 := by have := HN.out; have := HG.out.1; omega
      have HX := Lib.hid (heap_alloc_new w3 (.cells (fc (F zs)).toArray 113))
      have HB4 := Lib.hid (HB3.out.alloc HB3.out.size (.cells (fc (F zs)).toArray 113))
      have hgs : (w3.alloc (.cells (fc (F zs)).toArray 113)).heap.size = w3.heap.size + 1 := by simp
      have hle3 : w.heap.size ≤ w3.heap.size := HB3.out.size
      go_wp2_with (first | (refine wpList_store_row rfl 113 _ _ rfl w3.heap.size (fc (F zs)).toArray rfl rfl 113 _ H0.out HI.out HZ.out HO.out ?_; rw [show (#[.int .u32 0, .int .u32 0, .int .u32 0, .int .u32 0, .int .u32 0, .int .u32 0, .int .u32 0, .int .u32 0, .int .u32 0, .int .u32 0, .int .u32 0, .int .u32 0, .int .u32 0, .int .u32 0, .int .u32 0, .int .u32 0] : Array Value) = (fc fun _ => 0).toArray from rfl, world_setRow_new]; generalize w3.alloc (.cells (fc (F zs)).toArray 113) = w4 at *) | (refine wpList_make_full w4 rfl _ _ 77 rfl w.heap.size 49 i0 (.int .u32 0) 1 Tryd.underlying77 HI0.out.1 HI0.out.2.1 HI0.out.2.2.1 .i64 .i64 l l l rfl rfl rfl rfl (by rw [HI0.out.2.2.2]; omega) (by unfold maxLen; omega) (by omega) ?_; intro w5 hown hgrow))
      have hCR : CRel w w5 w3.heap.size (w3.heap.size + 1) zs 0 := by
        rw [hgs] at hown
        refine ⟨HB4.out.grown hgrow HB4.out.size (fun k e => by cases e), ?_, ?_, by omega, by omega⟩
        · rw [hgrow.block _ (by omega) (by simp), nx_zero]; exact HX.out
        · rw [cto_zero, ← made_u32, ← HN.out]; exact hown
      have HCR := Lib.hid hCR
      clear hCR hown HX HB4 H0 HI HO HZ HI0 HB3
      generalize w3.heap.size + 1 = g at *
      generalize w3.heap.size = G at *
      go_loopw [8, 9, 26] (fun _ _ v wr => ∃ k : Nat, k ≤ l ∧ v = .int .i64 k ∧ CRel w wr G g zs k) (fun _ _ v _ => l - (intOf v).toNat)
      case atStart => exact ⟨0, Nat.zero_le _, rfl, HCR.out⟩
      case round =>
        clear HCR hgrow hgs hle3 hle1
        obtain ⟨k, hk, rfl, hR⟩ := hrel
        have HR := Lib.hid hR
        clear hR
        by_cases hlt : k < l
        · have hlti : (k : Int) < (l : Int) := by omega
          obtain ⟨gz, o, rfl, hrow⟩ := HV.out.some (by omega)
          have hcap := HV.out.le
          have hc := (hrow.below HR.out.below (hrow.lt (by rw [ni_length, ← HN.out]; omega))).ni k (by rw [← HN.out]; omega)
          clear hrow
          have hkz : k < zs.length := by have := HN.out; omega
          have hgz : 0 ≤ zs.getD k 0 ∧ zs.getD k 0 ≤ 15 := by
            have e : zs.getD k 0 = zs[k] := by simp [hkz]
            rw [e]; exact HG.out.2 _ (List.getElem_mem hkz)
          obtain ⟨n, hn⟩ : ∃ n : Nat, zs.getD k 0 = (n : Int) := ⟨(zs.getD k 0).toNat, by omega⟩
          rw [hn] at hc hgz
          have HZ := Lib.hid hn
          clear hn
          by_cases hn0 : n = 0
          · subst hn0
            have HS := Lib.hid (HR.out.keep hkz HZ.out)
            clear HR hkz
            go_wp2_with fail
            exact ⟨⟨k + 1, by omega, by go_num, HS.out⟩, by simp [intOf]; omega⟩
          · have hni : (0 : Int) < (n : Int) := by omega
            have hni2 : (n : Int) < 16 := by omega
            have HS := Lib.hid (HR.out.step hkz (by omega) (by omega : n < 16) HZ.out)
            have hc1 := HR.out.cell n (by omega)
            have hf1 := HR.out.free n
            obtain ⟨_, ⟨u, hc2⟩, hf2, _⟩ := HR.out.spot hkz
            have hne := HR.out.ne
            have hx := nx_lt zs HG.out.1 k n (by omega)
            generalize nx zs k n = x at *
            have hc1' : (wr.setCell ⟨g, k, none⟩ (.int .u32 (x : Int))).cell? ⟨G, n, none⟩ = some (.int .u32 (x : Int)) := by
              rw [World.cell?_setCell_other _ _ _ _ (by intro e; simp only [Addr.mk.injEq] at e; exact hne e.1)]; exact hc1
            clear HR hkz HZ hgz
            go_wp2_with fail
            exact ⟨⟨k + 1, by omega, by go_num, by simpa using HS.out⟩, by simp [intOf]; omega⟩
        · have hlti : (l : Int) ≤ (k : Int) := by omega
          obtain rfl : k = l := by omega
          go_wp2_with fail
          go_ret2
          refine ⟨_, by rw [if_pos HS1.out.1, if_neg HS1.out.2]; rfl, ?_, HR.out.below⟩
          rw [if_pos HS1.out, if_pos HS1.out, ← cto_all]
          have := HR.out.own
          rw [← HN.out] at this ⊢
          exact this
  · rw [if_neg hg]
    have HG := Lib.hid hg
    clear hg
    have H0 := Lib.hid (heap_alloc_new w1 (.cells (tl []).toArray 110))
    have HI := Lib.hid (info110 [])
    have HO := Lib.hid (tl_one [])
    have HB2 := Lib.hid (HB.out.alloc HB.out.size (.cells (tl []).toArray 110))
    go_wp2_with (refine wpList_store_row rfl 110 _ _ rfl w1.heap.size (tl []).toArray rfl rfl 110 _ H0.out HI.out rfl HO.out ?_; rw [← tl0, world_setRow_new])
    go_ret2
    refine ⟨.slice none 0 0, by rw [if_neg HG.out]; rfl, ?_, HB2.out⟩
    rw [if_neg (fun h => HG.out h.1), if_neg (fun h => HG.out h.1)]
    exact World.ownsRow_nil _ _ _ _
end Go.Proofs.YtefeilgbofphjaaDoor
/-
  The contracts of what Next hands to find, of find and of Next, over the closure of a source.
-/
namespace Go.Proofs.YtefeilgbofphjaaDoor
open Go.RowKit Hf

/-- The closure of a source, as a value. -/
def hand (gb : Nat) : Value := .func (.func 56) #[] #[.pointer (some ⟨gb, 0, none⟩)]
def hb (r : List Bool) : Nat := (r.headD false).toNat
theorem hb_lt (r : List Bool) : hb r < 2 := by unfold hb; cases r.headD false <;> decide
theorem shift_or (c b : Nat) (hc : c < 2147483648) (hb : b < 2) : bits .or .u32 ((c : Int) * 2) (bits .and .u32 (b : Int) 1) = ((2 * c + b : Nat) : Int) := by
  rw [show (1 : Int) = ((1 : Nat) : Int) from rfl, u32_and_nat _ _ (by omega) (by decide), Nat.and_one_is_mod, show (c : Int) * 2 = ((c * 2 : Nat) : Int) by omega, u32_or_nat _ _ (by omega) (by omega), Nat.mod_eq_of_lt hb, Nat.mul_comm, or_bit _ _ hb]

def he (r : List Bool) : Int := if r = [] then 4 else 0
def LongerPost (B : Nat) (O : Nat → Prop) (gb g gc : Nat) (r : List Bool) (c : Nat) (w : World) (e : Ending) (w' : World) : Prop :=
  e = .returned (.tuple #[.int .u32 (2 * c + hb r : Nat), .int .i64 (he r)]) ∧ BoxAt w' gc (.int .u32 (2 * c + hb r : Nat)) 49 ∧ ∃ O', HandAt w' B O' gb g r.tail ∧ OnlyS (fun i => O i ∨ i = gc) w w' ∧ Grew w O O'
set_option maxRecDepth 100000 in
set_option maxHeartbeats 1000000 in
theorem longer_walk (w : World) (B : Nat) (O : Nat → Prop) (gb g gx gc : Nat) (r : List Bool) (c : Nat) (h : HandAt w B O gb g r)
    (hx : BoxAt w gx (hand gb) 66) (hc : BoxAt w gc (.int .u32 (c : Int)) 49) (hcl : c < 2147483648) (hO : ¬ O gc) (hB : B ≤ gc) (hne : gc ≠ gb) :
    Calls Tryd.prog 92 #[.pointer (some ⟨gx, 0, none⟩), .pointer (some ⟨gc, 0, none⟩)] w (LongerPost B O gb g gc r c w) := by
  have HW : Hid (Calls Tryd.prog 56 #[.pointer (some ⟨gb, 0, none⟩)] w fun e w' => e = .returned (.tuple #[.int .u32 ((hb r : Nat) : Int), .int .i64 (he r)]) ∧ ∃ O', HandAt w' B O' gb g r.tail ∧ OnlyS O w w' ∧ Grew w O O') := Lib.hid (bit_walk w B O gb g r h)
  have HC := Lib.hid hc
  have HN := Lib.hid (And.intro hO (And.intro hB hne))
  have hb1 := hx.cell
  unfold hand at hb1
  have HE := Lib.hid (shift_or c (hb r) hcl (hb_lt r))
  clear hc hx hO hB hne h
  go_enter Tryd.func92, Tryd.ntmps92
  go_wp2_with fail
  refine HW.out.mono ?_
  rintro e w1 ⟨rfl, O', hF, hO, hG⟩
  have HC1 := Lib.hid (HC.out.only hO HN.out.1)
  have HF := Lib.hid hF
  have HO := Lib.hid hO
  have HG := Lib.hid hG
  have hc := HC1.out.cell
  have hz := HC1.out.free
  have hlt := HC1.out.lt
  have HL : Hid (gc < w.heap.size) := Lib.hid HC.out.lt
  clear hF hO hG HW
  have HQ : Hid (∀ x, HandAt (w1.setCell ⟨gc, 0, none⟩ x) B O' gb g r.tail ∧ OnlyS (fun i => O i ∨ i = gc) w (w1.setCell ⟨gc, 0, none⟩ x)) := Lib.hid fun x =>
    ⟨HF.out.only (S := (· = gc)) (OnlyS.setCell _ _ _ _ rfl) (fun i hi => by rw [hi]; exact ⟨HG.out.not HN.out.1 HL.out, HN.out.2.1⟩) (fun e => HN.out.2.2 e.symm), (HO.out.mono fun _ _ h => .inl h).trans (OnlyS.setCell _ _ _ _ (.inr rfl))⟩
  go_wp2_with fail
  rw [HE.out]
  go_ret2
  exact ⟨rfl, HC1.out.set _, O', (HQ.out _).1, (HQ.out _).2, HG.out⟩
/-- The symbols of a length, as numbers. -/
def pl (zs : List Int) (n : Nat) : List Int := (places zs n).map fun (i : Nat) => (i : Int)
/-- A book of these lengths; all its blocks from lo on, below hi. -/
structure BookAt (w : World) (lo hi g : Nat) (zs : List Int) : Prop where
  c0 : w.cell? ⟨g, 0, none⟩ = some (.int .i64 (deep zs : Int))
  cf : ∀ n, n < 16 → w.cell? ⟨g, 1 + n, none⟩ = some (.int .u32 ((F zs n : Nat) : Int))
  cs : ∀ n, 0 < n → n < 16 → ∃ v, w.cell? ⟨g, 17 + n, none⟩ = some v ∧ SlV w v (ni (pl zs n)) ∧ ∀ p m cap, v = .slice (some p) m cap → 0 < m → lo ≤ p.block ∧ p.block < hi
  glo : lo ≤ g
  ghi : g < hi
theorem BookAt.only {S : Nat → Prop} {w w' : World} {lo hi g : Nat} {zs : List Int} (h : BookAt w lo hi g zs) (ho : OnlyS S w w') (hS : ∀ i, lo ≤ i → i < hi → ¬ S i) : BookAt w' lo hi g zs :=
  ⟨ho.cell h.c0 (hS _ h.glo h.ghi), fun n hn => ho.cell (h.cf n hn) (hS _ h.glo h.ghi), fun n h0 hn => by
    obtain ⟨v, h1, h2, h3⟩ := h.cs n h0 hn
    exact ⟨v, ho.cell h1 (hS _ h.glo h.ghi), h2.only ho (fun p m cap e h0 => hS _ (h3 p m cap e h0).1 (h3 p m cap e h0).2), h3⟩, h.glo, h.ghi⟩
theorem rd_zero (zs : List Int) (n c : Nat) (bs : List Bool) : rd zs 0 n c bs = (0, 20, n) := by cases bs <;> rfl
theorem rd_end (zs : List Int) (m n c : Nat) : rd zs (m + 1) n c [] = (0, 4, n) := rfl
theorem rd_some (zs : List Int) (m n c s : Nat) (b : Bool) (bs : List Bool) (h : sym zs (n + 1) (2 * c + b.toNat) = some s) : rd zs (m + 1) n c (b :: bs) = (s, 0, n + 1) := by
  rw [rd, h]
theorem rd_none (zs : List Int) (m n c : Nat) (b : Bool) (bs : List Bool) (h : sym zs (n + 1) (2 * c + b.toNat) = none) : rd zs (m + 1) n c (b :: bs) = rd zs m (n + 1) (2 * c + b.toNat) bs := by
  rw [rd, h]

def FindPost (B : Nat) (O : Nat → Prop) (gb g gc : Nat) (zs : List Int) (r : List Bool) (w : World) (e : Ending) (w' : World) : Prop :=
  e = .returned (.tuple #[.int .i64 ((rd zs (deep zs) 0 0 r).1 : Nat), .int .i64 (rd zs (deep zs) 0 0 r).2.1]) ∧ ∃ O', HandAt w' B O' gb g (r.drop (rd zs (deep zs) 0 0 r).2.2) ∧ OnlyS (fun i => O i ∨ i = gc) w w' ∧ Grew w O O'

structure FindRel (w wr : World) (B : Nat) (O : Nat → Prop) (gb g gc : Nat) (zs : List Int) (r : List Bool) (n c : Nat) : Prop where
  rd : rd zs (deep zs) 0 0 r = Hf.rd zs (deep zs - n) n c (r.drop n)
  low : K zs n ≤ c
  high : c < 2 ^ n
  box : BoxAt wr gc (.int .u32 (c : Int)) 49
  hand : ∃ O', HandAt wr B O' gb g (r.drop n) ∧ Grew w O O'
  only : OnlyS (fun i => O i ∨ i = gc) w wr
set_option maxRecDepth 100000 in
set_option maxHeartbeats 1000000 in
theorem find_walk (w : World) (B : Nat) (O : Nat → Prop) (gb g gx gc lo hi gk : Nat) (zs : List Int) (r : List Bool) (hK : BookAt w lo hi gk zs) (hd : deep zs ≤ 15) (h : HandAt w B O gb g r)
    (hx : BoxAt w gx (hand gb) 66) (hc : BoxAt w gc (.int .u32 0) 49) (hO : ¬ O gc ∧ ¬ O gx) (hB : B ≤ gc) (hne : gc ≠ gb ∧ gx ≠ gc)
    (hf : ∀ i, lo ≤ i → i < hi → ¬ O i ∧ i ≠ gc) (hl : zs.length ≤ 1024) :
    Calls Tryd.prog 91 #[.pointer (some ⟨gk, 0, none⟩), .func (.func 92) #[] #[.pointer (some ⟨gx, 0, none⟩), .pointer (some ⟨gc, 0, none⟩)]] w (FindPost B O gb g gc zs r w) := by
  have H0 : Hid (FindRel w w B O gb g gc zs r 0 0) := Lib.hid ⟨rfl, Nat.le_refl _, by simp, hc, ⟨O, h, Grew.refl _ _⟩, OnlyS.refl _ _⟩
  have HB := Lib.hid hK
  have Hx := Lib.hid hx
  have HN := Lib.hid (And.intro hO (And.intro hB (And.intro hne (And.intro hf (And.intro hl (And.intro hc.lt hx.lt))))))
  clear hB h hK hx hc hne hf hl hO
  go_enter Tryd.func91, Tryd.ntmps91
  go_wp2_with fail
  go_loopw [6, 7, 8, 9] (fun v4 _ _ _ wr => ∃ n c : Nat, n ≤ deep zs ∧ v4 = .int .i64 ((n : Int) + 1) ∧ FindRel w wr B O gb g gc zs r n c) (fun v4 _ _ _ _ => deep zs + 2 - (intOf v4).toNat)
  case atStart => exact ⟨0, 0, Nat.zero_le _, rfl, H0.out⟩
  case round =>
    clear H0
    obtain ⟨n, c, hn, rfl, hR⟩ := hrel
    obtain ⟨O1, hH1, hG1⟩ := hR.hand
    have HR := Lib.hid hR
    have HBr := Lib.hid (HB.out.only hR.only (fun i h1 h2 h => by have := HN.out.2.2.2.1 i h1 h2; rcases h with h | rfl <;> simp_all))
    have HG1 := Lib.hid hG1
    have c0 := HBr.out.c0
    by_cases hlt : n < deep zs
    · have hlti : (n : Int) + 1 ≤ (deep zs : Int) := by omega
      have hL := Lib.hid (longer_walk wr B O1 gb g gx gc (r.drop n) c hH1 (Hx.out.only hR.only (by have := HN.out.1.2; have := HN.out.2.2.1.2; simp_all)) HR.out.box (by have h1 := HR.out.high; have : 2 ^ n ≤ 2 ^ 15 := Nat.pow_le_pow_right (by decide) (by omega); have : (2 : Nat) ^ 15 = 32768 := (by decide); omega) (hG1.not HN.out.1.1 HN.out.2.2.2.2.2.1) HN.out.2.1 HN.out.2.2.1.1)
      clear hH1 hG1 hR
      go_wp2_with fail
      refine hL.out.mono ?_
      rintro e w1 ⟨rfl, hBx, O2, hF, hO, hG⟩
      have HF := Lib.hid hF
      have HBx := Lib.hid hBx
      have hO' : OnlyS (fun i => O i ∨ i = gc) w w1 := HR.out.only.trans' hO (fun i hi => by
        rcases hi with hi | hi
        · rcases HG1.out i hi with h | h
          · exact .inl (.inl h)
          · exact .inr h
        · exact .inl (.inr hi))
      have HO := Lib.hid hO'
      have HG := Lib.hid (HG1.out.trans hG HR.out.only.size)
      have HB1 := Lib.hid (HB.out.only hO' (fun i h1 h2 h => by have := HN.out.2.2.2.1 i h1 h2; rcases h with h | rfl <;> simp_all))
      clear hF hBx hO hO' hL HBr hG
      by_cases hk : r.drop n = []
      · have e1 : he (r.drop n) = 4 := by unfold he; rw [if_pos hk]
        rw [e1]
        rw [show (r.drop n).tail = r.drop n by rw [hk]; rfl] at HF
        have hrd := HR.out.rd
        rw [hk, show deep zs - n = (deep zs - (n + 1)) + 1 by omega, rd_end] at hrd
        have HRD := Lib.hid hrd
        have HK := Lib.hid hk
        clear hrd e1 hk
        go_wp2_with fail
        go_ret2
        exact ⟨by rw [HRD.out]; rfl, O2, by rw [HRD.out]; exact HF.out, HO.out, HG.out⟩
      · obtain ⟨b, bs, hdrop⟩ : ∃ b bs, r.drop n = b :: bs := List.exists_cons_of_ne_nil hk
        have hdrop2 : bs = r.drop (n + 1) := by rw [← List.tail_drop, hdrop]; rfl
        have e1 : he (r.drop n) = 0 := by unfold he; rw [if_neg hk]
        have e3 : hb (r.drop n) = b.toNat := by rw [hdrop]; rfl
        have e4 : (r.drop n).tail = r.drop (n + 1) := List.tail_drop
        rw [e1, e3]
        rw [e3] at HBx
        rw [e4] at HF
        have hrd := HR.out.rd
        rw [hdrop, show deep zs - n = (deep zs - (n + 1)) + 1 by omega, hdrop2] at hrd
        have hlow := HR.out.low
        have hhigh := HR.out.high
        clear hk hdrop2 hdrop e4
        have hb2 : b.toNat < 2 := by cases b <;> decide
        obtain ⟨c', hc'⟩ : ∃ c', c' = 2 * c + b.toNat := ⟨_, rfl⟩
        have hFle : F zs (n + 1) ≤ c' := by rw [F_succ]; omega
        have hch : c' < 2 ^ (n + 1) := by rw [Nat.pow_succ]; omega
        have hc32 : c' < 65536 := by
          have : 2 ^ (n + 1) ≤ 2 ^ 16 := Nat.pow_le_pow_right (by decide) (by omega)
          have : (2 : Nat) ^ 16 = 65536 := (by decide)
          omega
        rw [← hc'] at HBx ⊢
        have c1 := HB1.out.cf (n + 1) (by omega)
        obtain ⟨vs, c2, hvs, _⟩ := HB1.out.cs (n + 1) (by omega) (by omega)
        obtain ⟨p, cap, rfl⟩ := hvs.shape
        have HVS := Lib.hid hvs
        clear hvs
        have HRD := Lib.hid hrd
        have HC := Lib.hid hc'
        clear hrd hc' e1 e3
        have hpl : (ni (pl zs (n + 1))).length = (places zs (n + 1)).length := by simp [pl]
        rw [hpl] at c2 HVS
        have HP := Lib.hid (show sym zs (n + 1) c' = (places zs (n + 1))[c' - F zs (n + 1)]? from by unfold sym; rw [if_pos hFle])
        generalize hf0 : F zs (n + 1) = f at *
        have HF0 := Lib.hid hf0
        clear hf0
        obtain ⟨y, hy⟩ : ∃ y, y = c' - f := ⟨_, rfl⟩
        have hyi : (c' : Int) - (f : Int) = (y : Int) := by omega
        rw [← hy] at HP
        have HY := Lib.hid hy
        clear hy
        by_cases hym : y < (places zs (n + 1)).length
        · have HPS : Hid (sym zs (n + 1) c' = some (places zs (n + 1))[y]) := Lib.hid (by rw [HP.out, List.getElem?_eq_getElem hym])
          obtain ⟨gz, o, rfl, hrow⟩ := HVS.out.some (by omega)
          have hcap := HVS.out.le
          have hc3 := hrow.ni y (by simp [pl]; exact hym)
          rw [show (pl zs (n + 1)).getD y 0 = (((places zs (n + 1))[y] : Nat) : Int) by simp [pl, hym]] at hc3
          clear hrow hpl HP
          have hyi2 : (y : Int) < ((places zs (n + 1)).length : Int) := by omega
          generalize (places zs (n + 1))[y] = sy at *
          generalize (places zs (n + 1)).length = m at *
          have HE := Lib.hid (HRD.out.trans (rd_some zs _ n c sy b _ (by rw [← HC.out]; exact HPS.out)))
          clear HPS HVS HRD
          go_wp2_with fail
          go_ret2
          exact ⟨by rw [HE.out]; rfl, O2, by rw [HE.out]; exact HF.out, HO.out, HG.out⟩
        · have hyi2 : ((places zs (n + 1)).length : Int) ≤ (y : Int) := by omega
          have HPN : Hid (sym zs (n + 1) c' = none) := Lib.hid (by rw [HP.out, List.getElem?_eq_none (by omega)])
          have HK : Hid (K zs (n + 1) ≤ c') := Lib.hid (by rw [← sym_none zs (n + 1) c' (by omega) (by rw [HF0.out]; exact hFle)]; exact HPN.out)
          have HE := Lib.hid (HRD.out.trans (rd_none zs _ n c b _ (by rw [← HC.out]; exact HPN.out)))
          generalize (places zs (n + 1)).length = m at *
          clear HVS HRD HP HPN
          go_wp2_with fail
          refine ⟨⟨n + 1, c', by omega, by go_num, ⟨by rw [HE.out, HC.out], HK.out, hch, HBx.out, ⟨O2, HF.out, HG.out⟩, HO.out⟩⟩, by simp [intOf]; omega⟩
    · have hlti : (deep zs : Int) < (n : Int) + 1 := by omega
      have hrd := HR.out.rd
      rw [show deep zs - n = 0 by omega, rd_zero] at hrd
      have HRD := Lib.hid hrd
      have HH1 := Lib.hid hH1
      clear hrd hH1 hG1 hR
      go_wp2_with fail
      go_ret2
      exact ⟨by rw [HRD.out]; rfl, O1, by rw [HRD.out]; exact HH1.out, HR.out.only, HG1.out⟩
end Go.Proofs.YtefeilgbofphjaaDoor
