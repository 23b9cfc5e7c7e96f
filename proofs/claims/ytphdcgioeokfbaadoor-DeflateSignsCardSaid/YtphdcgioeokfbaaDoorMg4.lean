/-
  Merged, in the order in which they build: Tally.
-/
import Derived.Test.YtphdcgioeokfbaaDoorMg1
import Derived.Test.YtphdcgioeokfbaaDoorMg3
/-
  The contracts of tallied, state, firsts, oneOrNone, State, Turned.
-/
namespace Go.Proofs.YtphdcgioeokfbaaDoor
open Go.RowKit Hf

/-- How many of each length, as cells. -/
def tl (zs : List Int) : List Value := (List.range 16).map fun (n : Nat) => Value.int .i64 ((zs.count (n : Int) : Nat) : Int)
theorem tl_length (zs : List Int) : (tl zs).length = 16 := by simp [tl]
theorem tl_at (zs : List Int) (n : Nat) (hn : n < 16) : (tl zs)[n]? = some (.int .i64 ((zs.count (n : Int) : Nat) : Int)) := by simp [tl, hn]
theorem tl_step (zs : List Int) (k z : Nat) (hk : k < zs.length) (hz : zs.getD k 0 = (z : Int)) (h16 : z < 16) :
    tl (zs.take (k + 1)) = (tl (zs.take k)).set z (.int .i64 (((zs.take k).count (z : Int) : Nat) + 1)) := by
  apply List.ext_getElem?
  intro n
  by_cases hn : n < 16
  · rw [tl_at _ _ hn, List.getElem?_set, count_take_succ zs k hk, hz]
    by_cases he : z = n
    · subst he; simp [tl_length, h16]
    · rw [if_neg he, tl_at _ _ hn, if_neg (by simp; omega)]
      rfl
  · rw [List.getElem?_eq_none (by rw [tl_length]; omega), List.getElem?_eq_none (by rw [List.length_set, tl_length]; omega)]
structure TalRel (w wr : World) (zs : List Int) : Prop where
  below : Below w.heap.size w wr
  size : wr.heap.size = w.heap.size + 2
  res : wr.heap[w.heap.size]? = some (.cells (tl []).toArray 144 (0, 0))
  row : wr.heap[w.heap.size + 1]? = some (.cells (tl zs).toArray 144 (0, 0))
def TalPost (zs : List Int) (w : World) (e : Ending) (w' : World) : Prop :=
  e = .returned (if good zs then .tuple #[.agg (tl zs).toArray, .int .i64 0] else .tuple #[.agg (tl []).toArray, .int .i64 1]) ∧ Below w.heap.size w w'
theorem TalRel.cell {w wr : World} {zs : List Int} (h : TalRel w wr zs) (n : Nat) (hn : n < 16) : wr.cell? ⟨w.heap.size + 1, n, none⟩ = some (.int .i64 ((zs.count (n : Int) : Nat) : Int)) := by
  rw [cell_of_row _ _ _ _ _ _ h.row]; simpa using tl_at zs n hn
theorem TalRel.rcell {w wr : World} {zs : List Int} (h : TalRel w wr zs) (n : Nat) (hn : n < 16) : wr.cell? ⟨w.heap.size, n, none⟩ = some (.int .i64 0) := by
  rw [cell_of_row _ _ _ _ _ _ h.res]; simpa using tl_at [] n hn
theorem TalRel.free {w wr : World} {zs : List Int} (h : TalRel w wr zs) (i : Nat) : wr.frozen? ⟨w.heap.size + 1, i, none⟩ = false := frozen_of_row _ _ _ _ _ h.row
theorem TalRel.rfree {w wr : World} {zs : List Int} (h : TalRel w wr zs) (i : Nat) : wr.frozen? ⟨w.heap.size, i, none⟩ = false := frozen_of_row _ _ _ _ _ h.res
theorem TalRel.step {w wr : World} {zs : List Int} {k : Nat} (h : TalRel w wr (zs.take k)) (hk : k < zs.length) (z : Nat) (hz : zs.getD k 0 = (z : Int)) (h16 : z < 16) :
    TalRel w (wr.setCell ⟨w.heap.size + 1, z, none⟩ (.int .i64 (((zs.take k).count (z : Int) : Nat) + 1))) (zs.take (k + 1)) :=
  ⟨h.below.setCell (Nat.le_succ _) _, by simp [World.setCell, h.size], by rw [heap_setCell_other _ _ _ _ (by simp)]; exact h.res,
   by rw [heap_setCell_same _ _ _ _ _ _ h.row, tl_step zs k z hk hz h16]; simp⟩
theorem TalRel.start (w : World) : TalRel w ((w.alloc (.cells (tl []).toArray 144)).alloc (.cells (tl []).toArray 144)) [] :=
  ⟨((Below.refl _ _).alloc (Nat.le_refl _) _).alloc (by simp) _, by simp, heap_alloc2_old _ _ _, heap_alloc2_new _ _ _⟩
def TalLoop (w : World) (zs : List Int) (v : Value) (wr : World) : Prop := ∃ k : Nat, k ≤ zs.length ∧ v = .int .i64 k ∧ TalRel w wr (zs.take k) ∧ ∀ i, i < k → 0 ≤ zs.getD i 0 ∧ zs.getD i 0 ≤ 15
theorem good_of (zs : List Int) (hl : zs.length ≤ 1024) (h : ∀ i, i < zs.length → 0 ≤ zs.getD i 0 ∧ zs.getD i 0 ≤ 15) : good zs := by
  refine ⟨hl, fun z hz => ?_⟩
  obtain ⟨i, hi, rfl⟩ := List.getElem_of_mem hz
  have := h i hi
  simpa [hi] using this
theorem not_good (zs : List Int) (i : Nat) (hi : i < zs.length) (h : zs.getD i 0 < 0 ∨ 15 < zs.getD i 0) : ¬ good zs := fun hg => by
  have := hg.2 zs[i] (List.getElem_mem hi)
  have e : zs.getD i 0 = zs[i] := by simp [hi]
  omega
theorem results_cell_tmp {P : Program} {fn : Func} {p q : Tmp} {ty : TypeId} (h : fn.results = #[.cell p ty, .tmp q]) (tmps : Array Value) (w : World) (g : Nat) (t : TypeId) (cs : Array Value) (fr : Nat × Nat) (d : TypeDesc) (x : Value)
    (hp : tmps.getD p undef = .pointer (some ⟨g, 0, none⟩)) (hq : tmps.getD q undef = x) (hg : w.heap[g]? = some (.cells cs t fr))
    (hu : P.underlying ty = some d) (hd : (match d with | .struct _ | .array _ _ => true | _ => false) = true) (hi : (P.info? ty).map (·.size) = some cs.size) :
    (results fn tmps).run P w = .ok (.tuple #[.agg cs, x]) w := by
  have hp' : tmps[p]?.getD undef = .pointer (some ⟨g, 0, none⟩) := by simpa using hp
  have hq' : tmps[q]?.getD undef = x := by simpa using hq
  simp [results, h, hp', hq', asAddr, run_loadVar_row w g t ty cs fr d hg hu hd hi]
theorem tl_one (zs : List Int) : ((tl zs).toArray).all (·.oneCell') = true := by
  rw [Array.all_eq_true']
  intro v hv
  simp [tl] at hv
  obtain ⟨_, _, rfl⟩ := hv
  rfl
theorem info144 (zs : List Int) : (Tryd.prog.info? 144).map (·.size) = some (tl zs).toArray.size := by
  rw [List.size_toArray, tl_length]; kernel_rfl
theorem tl0 : (tl []).toArray = #[.int .i64 0, .int .i64 0, .int .i64 0, .int .i64 0, .int .i64 0, .int .i64 0, .int .i64 0, .int .i64 0, .int .i64 0, .int .i64 0, .int .i64 0, .int .i64 0, .int .i64 0, .int .i64 0, .int .i64 0, .int .i64 0] := by rfl
/-- The end of a tally that is refused. -/
theorem tal_end {w wr : World} {zs ys : List Int} {tmps : Array Value} (hG : ¬ good zs) (hR : wr.heap[w.heap.size]? = some (.cells (tl []).toArray 144 (0, 0))) (hB : Below w.heap.size w wr) (hp : tmps.getD 2 undef = .pointer (some ⟨w.heap.size, 0, none⟩)) (hq : tmps.getD 3 undef = .int .i64 1) (ds : List Deferred) (hds : ds = []) (hy : ys = []) :
    bodyPost Tryd.prog Tryd.f80 (TalPost zs w) .ret { tmps := tmps, defers := ds } (wr.setRow w.heap.size (tl ys).toArray) := by
  subst hds hy
  refine bodyPost_ret (v := .tuple #[.agg (tl []).toArray, .int .i64 1]) ?_ rfl ⟨by rw [if_neg hG], below_setRow hB (Nat.le_refl _) _⟩
  exact results_cell_tmp (p := 2) (q := 3) (ty := 144) rfl _ _ w.heap.size 144 _ (0, 0) _ _ hp hq (setRow_heap _ _ _ _ _ _ hR) Tryd.underlying144 rfl (info144 [])
set_option maxRecDepth 100000 in
set_option maxHeartbeats 1000000 in
theorem tallied_walk (w : World) (v : Value) (zs : List Int) (hv : SlV w v (ni zs)) : Calls Tryd.prog 80 #[v] w (TalPost zs w) := by
  obtain ⟨p, cap, rfl⟩ := hv.shape
  rw [ni_length] at *
  obtain ⟨l, hl⟩ : ∃ l, l = zs.length := ⟨_, rfl⟩
  rw [← hl] at hv ⊢
  have HN := Lib.hid hl
  clear hl
  have HV := Lib.hid hv
  clear hv
  have HS := Lib.hid (TalRel.start w)
  have H0 := Lib.hid (heap_alloc_new w (.cells (tl []).toArray 144))
  have HI := Lib.hid (info144 [])
  have H1 := Lib.hid (tl_one [])
  have HB0 : Hid (Below w.heap.size w (w.alloc (.cells (tl []).toArray 144))) := Lib.hid ((Below.refl _ _).alloc (Nat.le_refl _) _)
  go_enter Tryd.func80, Tryd.ntmps80
  by_cases hbig : 1024 < (l : Int)
  · have HG : Hid (¬ good zs) := Lib.hid (fun h => by have := HN.out; unfold good at h; omega)
    go_wp2_with (refine wpList_store_row rfl 144 _ _ rfl w.heap.size (tl []).toArray rfl rfl 144 _ H0.out HI.out rfl H1.out ?_)
    exact tal_end HG.out H0.out HB0.out rfl rfl _ rfl rfl
  · have hbig : (l : Int) ≤ 1024 := by omega
    go_wp2_with fail
    go_loopw [6, 13] (fun _ v wr => TalLoop w zs v wr) (fun _ v _ => l - (intOf v).toNat)
    case atStart => exact ⟨0, Nat.zero_le _, rfl, HS.out, fun i hi => by omega⟩
    case round =>
      clear HS H0 HB0
      obtain ⟨k, hk, rfl, hR, hall⟩ := hrel
      have HR := Lib.hid hR
      have HA := Lib.hid hall
      have HZ0 := Lib.hid hR.res
      clear hR hall
      by_cases hlt : k < l
      · have hlti : (k : Int) < (l : Int) := by omega
        obtain ⟨g, o, rfl, hrow⟩ := HV.out.some (by omega)
        have hcap := HV.out.le
        have hc := (hrow.below HR.out.below (hrow.lt (by rw [ni_length, ← HN.out]; omega))).ni k (by rw [← HN.out]; omega)
        clear hrow
        obtain ⟨z, hz⟩ : ∃ z, z = zs.getD k 0 := ⟨_, rfl⟩
        rw [← hz] at hc
        have HZ := Lib.hid hz
        clear hz
        by_cases hz0 : z < 0
        · have HG : Hid (¬ good zs) := Lib.hid (not_good zs k (by rw [← HN.out]; omega) (.inl (by rw [← HZ.out]; exact hz0)))
          go_wp2_with (refine wpList_store_row rfl 144 _ _ rfl w.heap.size (tl []).toArray rfl rfl 144 _ HZ0.out HI.out rfl H1.out ?_)
          exact tal_end HG.out HZ0.out HR.out.below rfl rfl _ rfl rfl
        · by_cases hz1 : 15 < z
          · have HG : Hid (¬ good zs) := Lib.hid (not_good zs k (by rw [← HN.out]; omega) (.inr (by rw [← HZ.out]; exact hz1)))
            go_wp2_with (refine wpList_store_row rfl 144 _ _ rfl w.heap.size (tl []).toArray rfl rfl 144 _ HZ0.out HI.out rfl H1.out ?_)
            exact tal_end HG.out HZ0.out HR.out.below rfl rfl _ rfl rfl
          · obtain ⟨y, rfl⟩ : ∃ y : Nat, z = (y : Int) := ⟨z.toNat, by omega⟩
            have hc1 := HR.out.cell y (by omega)
            have hf1 := HR.out.free y
            obtain ⟨q, hq⟩ : ∃ q, q = (zs.take k).count (y : Int) := ⟨_, rfl⟩
            rw [← hq] at hc1
            have hql : q ≤ 1024 := by rw [hq]; have := List.count_le_length (a := (y : Int)) (l := zs.take k); simp at this; have := HN.out; omega
            have HS := Lib.hid (HR.out.step (by have := HN.out; omega) y HZ.out.symm (by omega))
            rw [← hq] at HS
            clear hq
            go_wp2_with fail
            refine ⟨⟨k + 1, by have := HN.out; omega, by go_num, HS.out, fun i hi => ?_⟩, by simp [intOf]; omega⟩
            rcases Nat.lt_or_ge i k with h | h
            · exact HA.out i h
            · obtain rfl : i = k := by omega
              rw [← HZ.out]; omega
      · have hlti : (l : Int) ≤ (k : Int) := by omega
        have hkl : k = zs.length := by have := HN.out; omega
        have HG : Hid (good zs) := Lib.hid (good_of zs (by have := HN.out; omega) (fun i hi => HA.out i (by omega)))
        have HE := HR.out.row
        rw [hkl, List.take_length] at HE
        have HE := Lib.hid HE
        have HJ := Lib.hid (info144 zs)
        have H2 := Lib.hid (tl_one zs)
        have HSZ : Hid ((tl []).toArray.size = (tl zs).toArray.size) := Lib.hid (by simp [tl_length])
        clear hkl
        go_wp2_with (first | (refine wpList_load_row rfl 144 _ rfl (w.heap.size + 1) rfl 144 (tl zs).toArray (0, 0) _ HE.out Tryd.underlying144 rfl HJ.out ?_) | (refine wpList_store_row rfl 144 _ _ rfl w.heap.size (tl zs).toArray rfl rfl 144 _ HZ0.out HJ.out HSZ.out H2.out ?_))
        refine bodyPost_ret (v := .tuple #[.agg (tl zs).toArray, .int .i64 0]) ?_ rfl ⟨by rw [if_pos HG.out], below_setRow HR.out.below (Nat.le_refl _) _⟩
        exact results_cell_tmp (p := 2) (q := 3) (ty := 144) rfl _ _ w.heap.size 144 _ (0, 0) _ _ rfl rfl (setRow_heap _ _ _ _ _ _ HZ0.out) Tryd.underlying144 rfl HJ.out

theorem count_le_len (zs : List Int) (z : Int) : zs.count z ≤ zs.length := List.count_le_length
/-- Where a tally stands. -/
def TAt (w : World) (g : Nat) (zs : List Int) : Prop := ∀ n, n < 16 → w.cell? ⟨g, n, none⟩ = some (.int .i64 ((zs.count (n : Int) : Nat) : Int))
/-- The sum of state, so far. -/
def sm (zs : List Int) : Nat → Nat
  | 0 => 0
  | n + 1 => sm zs n + zs.count ((n + 1 : Nat) : Int) * 2 ^ (15 - (n + 1))
theorem sm_K (zs : List Int) (n : Nat) (hn : n ≤ 15) : sm zs n = K zs n * 2 ^ (15 - n) := by
  induction n with
  | zero => simp [sm, K_zero]
  | succ n ih =>
    have e0 : K zs (n + 1) = 2 * K zs n + ct zs (n + 1) := rfl
    rw [sm, ih (by omega), e0, Nat.add_mul]
    have e : 2 ^ (15 - n) = 2 * 2 ^ (15 - (n + 1)) := by rw [show 15 - n = 15 - (n + 1) + 1 by omega, Nat.pow_succ]; omega
    rw [e]
    congr 1
    rw [Nat.mul_comm 2 (K zs n), Nat.mul_assoc]
theorem sm_le (zs : List Int) (hl : zs.length ≤ 1024) (n : Nat) : sm zs n ≤ n * 33554432 := by
  induction n with
  | zero => simp [sm]
  | succ n ih =>
    rw [sm]
    have h1 := count_le_len zs ((n + 1 : Nat) : Int)
    have h2 : 2 ^ (15 - (n + 1)) ≤ 2 ^ 15 := Nat.pow_le_pow_right (by decide) (by omega)
    have h3 : zs.count ((n + 1 : Nat) : Int) * 2 ^ (15 - (n + 1)) ≤ 1024 * 2 ^ 15 := Nat.mul_le_mul (by omega) h2
    have : (1024 : Nat) * 2 ^ 15 = 33554432 := by decide
    omega
theorem sm_all (zs : List Int) : sm zs 15 = kr zs := by rw [sm_K zs 15 (Nat.le_refl _)]; simp [kr]
set_option maxRecDepth 100000 in
set_option maxHeartbeats 1000000 in
theorem state_walk (w : World) (g : Nat) (zs : List Int) (h : TAt w g zs) (hl : zs.length ≤ 1024) :
    Calls Tryd.prog 81 #[.pointer (some ⟨g, 0, none⟩)] w fun e w' => e = .returned (.int .i64 (st zs)) ∧ w = w' := by
  have HT := Lib.hid h
  have HL := Lib.hid hl
  clear h hl
  go_enter Tryd.func81, Tryd.ntmps81
  go_wp2_with fail
  go_loop [3, 4] (fun v3 v4 => ∃ k : Nat, k ≤ 15 ∧ v4 = .int .i64 ((k : Int) + 1) ∧ v3 = .int .i64 (sm zs k : Nat)) (fun _ v4 => 17 - (intOf v4).toNat)
  case atStart => exact ⟨0, by omega, rfl, rfl⟩
  case round =>
    obtain ⟨k, hk, rfl, rfl⟩ := hrel
    have hs := sm_le zs HL.out k
    by_cases hlt : k < 15
    · have hc := HT.out (k + 1) (by omega)
      have hq := count_le_len zs ((k + 1 : Nat) : Int)
      have HS := Lib.hid (show sm zs (k + 1) = sm zs k + zs.count ((k + 1 : Nat) : Int) * 2 ^ (15 - (k + 1)) from rfl)
      obtain ⟨q, hq0⟩ : ∃ q, q = zs.count ((k + 1 : Nat) : Int) := ⟨_, rfl⟩
      rw [← hq0] at hc hq HS
      clear hq0
      have hq1 : q ≤ 1024 := by have := HL.out; omega
      clear hq
      generalize sm zs k = s at *
      go_wp2_with fail
      refine ⟨⟨k + 1, by omega, by go_num, ?_⟩, by simp [intOf]; omega⟩
      have h2 : q * 2 ^ (14 - k) ≤ 1024 * 2 ^ 14 := Nat.mul_le_mul hq1 (Nat.pow_le_pow_right (by decide) (by omega))
      have e : (q : Int) * 2 ^ (14 - k) = ((q * 2 ^ (14 - k) : Nat) : Int) := by simp
      rw [HS.out, show 15 - (k + 1) = 14 - k by omega, e]
      generalize q * 2 ^ (14 - k) = y at *
      have e1 : wrap64 (y : Int) = (y : Int) := by unfold wrap64; omega
      have e2 : wrap64 ((s : Int) + y) = ((s + y : Nat) : Int) := by unfold wrap64; omega
      rw [e1, e2]
    · obtain rfl : k = 15 := by omega
      rw [sm_all] at *
      have HK := Lib.hid (show st zs = (if kr zs < 32768 then -1 else if 32768 < kr zs then 1 else 0) from rfl)
      obtain ⟨s, hs1⟩ : ∃ s : Int, s = (kr zs : Int) := ⟨_, rfl⟩
      rw [← hs1]
      have HS1 := Lib.hid hs1
      clear hs1 hs hk hlt
      by_cases h1 : s < 32768
      · have HE : Hid (st zs = -1) := Lib.hid (by rw [HK.out, if_pos (by have := HS1.out; omega)])
        clear HK HS1
        go_wp2_with fail
        go_ret
        exact ⟨ret_int HE.out.symm, rfl⟩
      · by_cases h2 : 32768 < s
        · have HE : Hid (st zs = 1) := Lib.hid (by rw [HK.out, if_neg (by have := HS1.out; omega), if_pos (by have := HS1.out; omega)])
          clear HK HS1
          go_wp2_with fail
          go_ret
          exact ⟨ret_int HE.out.symm, rfl⟩
        · have HE : Hid (st zs = 0) := Lib.hid (by rw [HK.out, if_neg (by have := HS1.out; omega), if_neg (by have := HS1.out; omega)])
          clear HK HS1
          go_wp2_with fail
          go_ret
          exact ⟨ret_int HE.out.symm, rfl⟩

/-- First codes, as cells. -/
def fc (f : Nat → Nat) : List Value := (List.range 16).map fun (n : Nat) => Value.int .u32 ((f n : Nat) : Int)
theorem fc_length (f : Nat → Nat) : (fc f).length = 16 := by simp [fc]
theorem fc_at (f : Nat → Nat) (n : Nat) (hn : n < 16) : (fc f)[n]? = some (.int .u32 ((f n : Nat) : Int)) := by simp [fc, hn]
theorem fc_set (f : Nat → Nat) (n x : Nat) (hn : n < 16) : (fc f).set n (.int .u32 (x : Int)) = fc (fun m => if m = n then x else f m) := by
  apply List.ext_getElem?
  intro m
  by_cases hm : m < 16
  · rw [fc_at _ _ hm, List.getElem?_set]
    by_cases he : n = m
    · subst he; simp [fc_length, hn]
    · rw [if_neg he, fc_at _ _ hm, if_neg (fun e => he e.symm)]
  · rw [List.getElem?_eq_none (by rw [List.length_set, fc_length]; omega), List.getElem?_eq_none (by rw [fc_length]; omega)]
theorem fc_one (f : Nat → Nat) : ((fc f).toArray).all (·.oneCell') = true := by
  rw [Array.all_eq_true']
  intro v hv
  simp [fc] at hv
  obtain ⟨_, _, rfl⟩ := hv
  rfl
theorem info147 (f : Nat → Nat) : (Tryd.prog.info? 147).map (·.size) = some (fc f).toArray.size := by
  rw [List.size_toArray, fc_length]; kernel_rfl
/-- The first codes, those from k on not yet told. -/
def fto (zs : List Int) (k : Nat) : Nat → Nat := fun n => if n < k then F zs n else 0
theorem fto_two (zs : List Int) : fc (fto zs 2) = fc (fun _ => 0) := by
  unfold fc
  apply List.map_congr_left
  intro n _
  unfold fto
  congr 2
  split
  · have : n = 0 ∨ n = 1 := by omega
    rcases this with rfl | rfl <;> rfl
  · rfl
theorem fto_step (zs : List Int) (k : Nat) (hk : k < 16) : fc (fto zs (k + 1)) = (fc (fto zs k)).set k (.int .u32 (F zs k : Int)) := by
  rw [fc_set _ _ _ hk]
  congr 1
  funext m
  unfold fto
  by_cases h : m = k
  · subst h; simp
  · rw [if_neg h]; congr 1; simp; omega
theorem fto_all (zs : List Int) : fc (fto zs 16) = fc (F zs) := by
  unfold fc
  apply List.map_congr_left
  intro n hn
  unfold fto
  rw [if_pos (List.mem_range.1 hn)]
structure FstRel (w wr : World) (f : Nat → Nat) : Prop where
  below : Below w.heap.size w wr
  size : wr.heap.size = w.heap.size + 2
  res : wr.heap[w.heap.size]? = some (.cells (fc fun _ => 0).toArray 147 (0, 0))
  row : wr.heap[w.heap.size + 1]? = some (.cells (fc f).toArray 147 (0, 0))
theorem FstRel.cell {w wr : World} {f : Nat → Nat} (h : FstRel w wr f) (n : Nat) (hn : n < 16) : wr.cell? ⟨w.heap.size + 1, n, none⟩ = some (.int .u32 ((f n : Nat) : Int)) := by
  rw [cell_of_row _ _ _ _ _ _ h.row]; simpa using fc_at f n hn
theorem FstRel.free {w wr : World} {f : Nat → Nat} (h : FstRel w wr f) (i : Nat) : wr.frozen? ⟨w.heap.size + 1, i, none⟩ = false := frozen_of_row _ _ _ _ _ h.row
theorem FstRel.step {w wr : World} {zs : List Int} {k : Nat} (h : FstRel w wr (fto zs k)) (hk : k < 16) :
    FstRel w (wr.setCell ⟨w.heap.size + 1, k, none⟩ (.int .u32 (F zs k : Int))) (fto zs (k + 1)) :=
  ⟨h.below.setCell (Nat.le_succ _) _, by simp [World.setCell, h.size], by rw [heap_setCell_other _ _ _ _ (by simp)]; exact h.res,
   by rw [heap_setCell_same _ _ _ _ _ _ h.row, fto_step zs k hk]; simp⟩
theorem FstRel.drew {w wr : World} {f : Nat → Nat} (h : FstRel w wr f) : FstRel w wr.drew f := ⟨⟨h.below.os, h.below.tape, h.below.output, h.below.size, h.below.block⟩, h.size, h.res, h.row⟩
theorem FstRel.start (w : World) : FstRel w ((w.alloc (.cells (fc fun _ => 0).toArray 147)).alloc (.cells (fc fun _ => 0).toArray 147)) (fun _ => 0) :=
  ⟨((Below.refl _ _).alloc (Nat.le_refl _) _).alloc (by simp) _, by simp, heap_alloc2_old _ _ _, heap_alloc2_new _ _ _⟩
set_option maxRecDepth 100000 in
set_option maxHeartbeats 1000000 in
theorem firsts_walk (w : World) (g : Nat) (zs : List Int) (h : TAt w g zs) (hg : g < w.heap.size) (hl : zs.length ≤ 1024) :
    Calls Tryd.prog 82 #[.pointer (some ⟨g, 0, none⟩)] w fun e w' => e = .returned (.agg (fc (F zs)).toArray) ∧ Below w.heap.size w w' := by
  have HT := Lib.hid h
  have HL := Lib.hid hl
  have HG := Lib.hid hg
  clear h hl hg
  have HS := Lib.hid (FstRel.start w)
  go_enter Tryd.func82, Tryd.ntmps82
  go_wp2_with fail
  go_loopw [4] (fun v4 wr => ∃ k : Nat, 1 ≤ k ∧ k ≤ 15 ∧ v4 = .int .i64 ((k : Int) + 1) ∧ FstRel w wr (fto zs (k + 1))) (fun v4 _ => 17 - (intOf v4).toNat)
  case atStart => exact ⟨1, by omega, by omega, rfl, by have := HS.out; rw [show (1 + 1) = 2 from rfl]; exact ⟨this.below, this.size, this.res, by rw [fto_two]; exact this.row⟩⟩
  case round =>
    clear HS
    obtain ⟨k, hk1, hk, rfl, hR⟩ := hrel
    have HR := Lib.hid hR
    clear hR
    by_cases hlt : k < 15
    · have hc := HT.out k (by omega)
      rw [← HR.out.below.cell (p := ⟨g, k, none⟩) HG.out] at hc
      have hc1 := HR.out.cell k (by omega)
      have hc2 := HR.out.cell (k + 1) (by omega)
      have hf2 := HR.out.free (k + 1)
      rw [show fto zs (k + 1) k = F zs k by unfold fto; rw [if_pos (by omega)]] at hc1
      have HS := Lib.hid (HR.out.step (by omega : k + 1 < 16))
      have HK := Lib.hid (K_lt zs k (by omega) HL.out)
      have HE : Hid (F zs (k + 1) = 2 * (F zs k + zs.count (k : Int))) := Lib.hid (by rw [F_succ]; unfold K ct; rw [if_neg (by omega)])
      have HKE : Hid (K zs k = F zs k + zs.count (k : Int)) := Lib.hid (by unfold K ct; rw [if_neg (by omega)])
      have hb : F zs k + zs.count (k : Int) ≤ 33554432 := by rw [← HKE.out]; exact HK.out
      generalize fto zs (k + 1) (k + 1) = f0 at hc2
      rw [HE.out] at HS
      clear HK HE HKE
      generalize F zs k = f at *
      generalize zs.count (k : Int) = c at *
      go_wp2_with fail
      have s1 : IntKind.i64.wrap (k : Int) = (k : Int) := IntWalk.i64_in _ (by omega)
      have s2 : IntKind.u32.wrap (c : Int) = (c : Int) := IntWalk.u32_in _ (by omega)
      have s3 : IntKind.u32.wrap ((f : Int) + c) = (f : Int) + c := IntWalk.u32_in _ (by omega)
      have s4 : IntKind.u32.wrap (2 * ((f : Int) + c)) = 2 * ((f : Int) + c) := IntWalk.u32_in _ (by omega)
      obtain ⟨a1, a2, a3⟩ : (k : Int) < 16 ∧ (k : Int) + 1 < 16 ∧ 0 ≤ (k : Int) + 1 := by omega
      have t1 : ((k : Int) + 1).toNat = k + 1 := by omega
      refine wp_region_still_tail 15 (by kernel_rfl) (by kernel_rfl) ?_
      simp only [List.take_succ_cons, List.take_zero, List.drop_succ_cons, List.drop_zero]
      change wpStill _ _ wr.drew (fun a' => wpList _ _ _ _ a' wr.drew) _ _
      repeat (first | still_step)
      refine wpStill_nil ?_
      clear s1 s2 s3 s4 t1
      go_wp2_with fail
      refine ⟨⟨k + 1, by omega, by omega, by go_num, ?_⟩, by simp [intOf]; omega⟩
      have := HS.out.drew
      simpa using this
    · obtain rfl : k = 15 := by omega
      have HE := Lib.hid (HR.out.row.trans (by rw [fto_all]))
      have HJ := Lib.hid (info147 (F zs))
      have H2 := Lib.hid (fc_one (F zs))
      have HZ := Lib.hid HR.out.res
      have HSZ : Hid ((fc fun _ => 0).toArray.size = (fc (F zs)).toArray.size) := Lib.hid (by simp [fc_length])
      go_wp2_with (first | (refine wpList_load_row rfl 147 _ rfl (w.heap.size + 1) rfl 147 (fc (F zs)).toArray (0, 0) _ HE.out Tryd.underlying147 rfl HJ.out ?_) | (refine wpList_store_row rfl 147 _ _ rfl w.heap.size (fc (F zs)).toArray rfl rfl 147 _ HZ.out HJ.out HSZ.out H2.out ?_))
      refine bodyPost_ret (v := .agg (fc (F zs)).toArray) ?_ rfl ⟨rfl, below_setRow HR.out.below (Nat.le_refl _) _⟩
      exact results_cell_row (p := 2) (ty := 147) rfl _ _ w.heap.size 147 _ (0, 0) _ rfl (setRow_heap _ _ _ _ _ _ HZ.out) Tryd.underlying147 rfl HJ.out

end Go.Proofs.YtphdcgioeokfbaaDoor
