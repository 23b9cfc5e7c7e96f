/-
  Merged, in the order in which they build: Codes BackKit.
-/
import Derived.Laws.BitsAllLaws
import Derived.Test.YtphdcgioeokfbaaDoorMg2
import Derived.Test.YtphdcgioeokfbaaDoorMg4
/-
  The contracts of State, oneOrNone, Turned, Codes.
-/
namespace Go.Proofs.YtphdcgioeokfbaaDoor
open Go.RowKit Hf

theorem world_setRow_new (w : World) (c c' : Array Value) (t : TypeId) : (w.alloc (.cells c t)).setRow w.heap.size c' = w.alloc (.cells c' t) := World.setRow_alloc_new _ _ _ _
theorem tat_row {w : World} {g : Nat} {zs : List Int} {T : TypeId} (h : w.heap[g]? = some (.cells (tl zs).toArray T (0, 0))) : TAt w g zs := fun n hn => by
  rw [cell_of_row _ _ _ _ _ _ h]; simpa using tl_at zs n hn
theorem tat_new (w : World) (zs : List Int) : TAt (w.alloc (.cells (tl zs).toArray 144)) w.heap.size zs := tat_row (heap_alloc_new _ _)
theorem tl_size (zs : List Int) : (tl []).toArray.size = (tl zs).toArray.size := by simp [tl_length]
/-- A code's lowest bits, the first one last. -/
def trn (c : Nat) : Nat → Nat
  | 0 => 0
  | n + 1 => 2 * trn c n + c / 2 ^ n % 2
theorem trn_lt (c n : Nat) : trn c n < 2 ^ n := by
  induction n with
  | zero => simp [trn]
  | succ n ih => rw [trn, Nat.pow_succ]; omega
theorem or_bit (t b : Nat) (hb : b < 2) : 2 * t ||| b = 2 * t + b := by
  have h := Nat.two_pow_add_eq_or_of_lt (i := 1) (b := b) (by simpa using hb) t
  simp only [Nat.pow_one] at h
  rw [← h]
theorem trn_go (c k : Nat) (hc : c < 4294967296) (hk : k < 32) : bits .or .u32 ((trn c k : Int) * 2 % 4294967296) (bits .and .u32 ((c : Int) / 2 ^ k) 1) = ((trn c (k + 1) : Nat) : Int) := by
  have h1 := trn_lt c k
  have h2 : 2 ^ k ≤ 2 ^ 31 := Nat.pow_le_pow_right (by decide) (by omega)
  have h4 : (2 : Nat) ^ 31 = 2147483648 := by decide
  have h3 : trn c k * 2 < 4294967296 := by omega
  have e : (trn c k : Int) * 2 % 4294967296 = ((trn c k * 2 : Nat) : Int) := by omega
  have e2 : (c : Int) / 2 ^ k = ((c / 2 ^ k : Nat) : Int) := by simp
  have e3 : c / 2 ^ k < 4294967296 := Nat.lt_of_le_of_lt (Nat.div_le_self _ _) hc
  rw [e, e2, show (1 : Int) = ((1 : Nat) : Int) from rfl, u32_and_nat _ _ e3 (by decide), Nat.and_one_is_mod, u32_or_nat _ _ h3 (by omega), Nat.mul_comm, or_bit _ _ (by omega)]
  rfl
/-- The next code of each length, behind k symbols. -/
def nx (zs : List Int) (k n : Nat) : Nat := F zs n + ct (zs.take k) n
theorem nx_zero (zs : List Int) : nx zs 0 = F zs := by funext n; unfold nx ct; split <;> simp
theorem ct_take_le (zs : List Int) (k n : Nat) : ct (zs.take k) n ≤ ct zs n := by
  unfold ct
  split
  · omega
  · have e : zs.count (n : Int) = (zs.take k).count (n : Int) + (zs.drop k).count (n : Int) := by rw [← List.count_append, List.take_append_drop]
    omega
theorem nx_lt (zs : List Int) (hl : zs.length ≤ 1024) (k n : Nat) (hn : n ≤ 15) : nx zs k n ≤ 33554432 := by
  have h1 := ct_take_le zs k n
  have h2 := K_lt zs n hn hl
  unfold K at h2; unfold nx; omega
theorem nx_step (zs : List Int) (k n : Nat) (hk : k < zs.length) (hn : 0 < n) (hz : zs.getD k 0 = (n : Int)) : fc (nx zs (k + 1)) = (fc (nx zs k)).set n (.int .u32 ((nx zs k n + 1 : Nat) : Int)) ∨ 16 ≤ n := by
  rcases Nat.lt_or_ge n 16 with h | h
  · refine .inl ?_
    rw [fc_set _ _ _ h]
    congr 1
    funext m
    unfold nx
    by_cases hm : m = n
    · subst hm
      rw [if_pos rfl, ct_take_succ zs k hk m hn, if_pos hz]; omega
    · rw [if_neg hm]
      congr 1
      rcases Nat.eq_zero_or_pos m with h0 | h0
      · subst h0; rfl
      · rw [ct_take_succ zs k hk m h0, if_neg (by omega)]; omega
  · exact .inr h
theorem nx_keep (zs : List Int) (k : Nat) (hk : k < zs.length) (hz : zs.getD k 0 = 0) : nx zs (k + 1) = nx zs k := by
  funext m
  unfold nx
  congr 1
  rcases Nat.eq_zero_or_pos m with h0 | h0
  · subst h0; rfl
  · rw [ct_take_succ zs k hk m h0, if_neg (by omega)]; omega
/-- The codes of the first k symbols. -/
def cto (zs : List Int) (k : Nat) : List Nat := (List.range zs.length).map fun i => if i < k then code zs i else 0
theorem cto_length (zs : List Int) (k : Nat) : (cto zs k).length = zs.length := by simp [cto]
theorem cto_all (zs : List Int) : cto zs zs.length = codes zs := by
  unfold cto codes
  apply List.map_congr_left
  intro i hi
  rw [if_pos (List.mem_range.1 hi)]
theorem cto_zero (zs : List Int) : cto zs 0 = List.replicate zs.length 0 := by
  apply List.ext_getElem (by simp [cto])
  intro i h1 h2
  simp [cto]
theorem cto_step (zs : List Int) (k : Nat) : nu (cto zs (k + 1)) = (nu (cto zs k)).set k (.int .u32 ((code zs k : Nat) : Int)) := by
  apply List.ext_getElem (by simp [cto])
  intro i h1 h2
  simp only [nu, cto, List.map_map, List.getElem_map, List.getElem_range, List.getElem_set, Function.comp]
  by_cases he : k = i
  · subst he; simp
  · rw [if_neg he]
    congr 2
    by_cases h : i < k
    · rw [if_pos h, if_pos (by omega)]
    · rw [if_neg h, if_neg (by omega)]
theorem cto_keep (zs : List Int) (k : Nat) (hz : zs.getD k 0 = 0) : cto zs (k + 1) = cto zs k := by
  unfold cto
  apply List.map_congr_left
  intro i _
  by_cases he : i = k
  · subst he
    rw [if_pos (by omega), if_neg (by omega)]
    unfold code
    rw [hz, if_neg (by omega)]
  · by_cases h : i < k
    · rw [if_pos h, if_pos (by omega)]
    · rw [if_neg h, if_neg (by omega)]
structure CRel (w wr : World) (G g : Nat) (zs : List Int) (k : Nat) : Prop where
  below : Below w.heap.size w wr
  row : wr.heap[G]? = some (.cells (fc (nx zs k)).toArray 147 (0, 0))
  own : wr.ownsRow w.heap.size 132 1 (.slice (some ⟨g, 0, none⟩) zs.length zs.length) zs.length (nu (cto zs k))
  ne : g ≠ G
  le : w.heap.size ≤ G
theorem CRel.cell {w wr : World} {G g : Nat} {zs : List Int} {k : Nat} (h : CRel w wr G g zs k) (n : Nat) (hn : n < 16) : wr.cell? ⟨G, n, none⟩ = some (.int .u32 ((nx zs k n : Nat) : Int)) := by
  rw [cell_of_row _ _ _ _ _ _ h.row]; simpa using fc_at _ n hn
theorem CRel.free {w wr : World} {G g : Nat} {zs : List Int} {k : Nat} (h : CRel w wr G g zs k) (n : Nat) : wr.frozen? ⟨G, n, none⟩ = false := frozen_of_row _ _ _ _ _ h.row
theorem CRel.spot {w wr : World} {G g : Nat} {zs : List Int} {k : Nat} (h : CRel w wr G g zs k) (hk : k < zs.length) :
    w.heap.size ≤ g ∧ (∃ u, wr.cell? ⟨g, k, none⟩ = some u) ∧ wr.frozen? ⟨g, k, none⟩ = false ∧ ∀ x, (wr.setCell ⟨g, k, none⟩ x).ownsRow w.heap.size 132 1 (.slice (some ⟨g, 0, none⟩) zs.length zs.length) zs.length ((nu (cto zs k)).set k x) := by
  obtain ⟨g', cap, he, h1, h2, h3, h4, h5, h6, h7⟩ := own_spot h.own (by omega)
  cases he
  exact ⟨h1, ⟨_, h5 k _ (List.getElem?_eq_getElem (by simp [cto_length, hk]))⟩, h6 k, fun x => h7 k x hk⟩
theorem CRel.keep {w wr : World} {G g : Nat} {zs : List Int} {k : Nat} (h : CRel w wr G g zs k) (hk : k < zs.length) (hz : zs.getD k 0 = 0) : CRel w wr G g zs (k + 1) :=
  ⟨h.below, by rw [nx_keep zs k hk hz]; exact h.row, by rw [cto_keep zs k hz]; exact h.own, h.ne, h.le⟩
theorem CRel.step {w wr : World} {G g : Nat} {zs : List Int} {k n : Nat} (h : CRel w wr G g zs k) (hk : k < zs.length) (hn : 0 < n) (hn2 : n < 16) (hz : zs.getD k 0 = (n : Int)) :
    CRel w ((wr.setCell ⟨g, k, none⟩ (.int .u32 ((nx zs k n : Nat) : Int))).setCell ⟨G, n, none⟩ (.int .u32 ((nx zs k n + 1 : Nat) : Int))) G g zs (k + 1) := by
  obtain ⟨h1, _, _, h4⟩ := h.spot hk
  have hc : code zs k = nx zs k n := by unfold code nx; rw [hz, if_pos (by omega), Int.toNat_natCast]
  refine ⟨(h.below.setCell h1 _).setCell h.le _, ?_, ?_, h.ne, h.le⟩
  · have h0 : (wr.setCell ⟨g, k, none⟩ (.int .u32 ((nx zs k n : Nat) : Int))).heap[G]? = some (.cells (fc (nx zs k)).toArray 147 (0, 0)) := by rw [heap_setCell_other _ _ _ _ (by exact fun e => h.ne e.symm)]; exact h.row
    rw [heap_setCell_same _ _ _ _ _ _ h0]
    rcases nx_step zs k n hk hn hz with e | e
    · rw [e]; simp
    · omega
  · have h0 := h4 (.int .u32 ((nx zs k n : Nat) : Int))
    rw [cto_step zs k, hc]
    refine own_stays h0 fun j hj => ?_
    simp [Value.ownBlock] at hj
    subst hj
    exact heap_setCell_other _ _ _ _ h.ne
def CodesPost (zs : List Int) (w : World) (e : Ending) (w' : World) : Prop :=
  ∃ v, e = .returned (.tuple #[v, .int .i64 (if good zs then (if st zs = 1 then 20 else 0) else 1)]) ∧ w'.ownsRow w.heap.size 132 1 v (if good zs ∧ st zs ≠ 1 then zs.length else 0) (if good zs ∧ st zs ≠ 1 then nu (codes zs) else []) ∧ Below w.heap.size w w'
theorem made_u32 (n : Nat) : (madeCells (Value.int .u32 0).cells (n * 1)).toList = nu (List.replicate n 0) := by
  apply List.ext_getElem
  · simp [nu, size_madeCells]
  · intro i h1 h2
    simp [madeCells, nu, Value.cells, Nat.mod_one]
set_option maxRecDepth 100000 in
set_option maxHeartbeats 1000000 in
theorem Codes_walk (w : World) (v : Value) (zs : List Int) (hv : SlV w v (ni zs)) : Calls Tryd.prog 70 #[v] w (CodesPost zs w) := by
  obtain ⟨p, cap, rfl⟩ := hv.shape
  rw [ni_length] at *
  obtain ⟨l, hl⟩ : ∃ l, l = zs.length := ⟨_, rfl⟩
  rw [← hl] at hv ⊢
  have HN := Lib.hid hl
  clear hl
  have HV := Lib.hid hv
  clear hv
  go_enter Tryd.func70, Tryd.ntmps70
  go_wp2_with fail
  refine (tallied_walk w _ zs HV.out).mono ?_
  rintro e w1 ⟨rfl, hb⟩
  have HB := Lib.hid hb
  clear hb
  by_cases hg : good zs
  · rw [if_pos hg]
    have HG := Lib.hid hg
    clear hg
    have H0 := Lib.hid (heap_alloc_new w1 (.cells (tl []).toArray 144))
    have HI := Lib.hid (info144 zs)
    have HO := Lib.hid (tl_one zs)
    have HZ := Lib.hid (tl_size zs)
    have HT := Lib.hid (tat_new w1 zs)
    have HB2 := Lib.hid (HB.out.alloc HB.out.size (.cells (tl zs).toArray 144))
    go_wp2_with (refine wpList_store_row rfl 144 _ _ rfl w1.heap.size (tl zs).toArray rfl rfl 144 _ H0.out HI.out HZ.out HO.out ?_; rw [← tl0, world_setRow_new])
    have hl1 : w1.heap.size < (w1.alloc (.cells (tl zs).toArray 144)).heap.size := by simp
    have hle1 : w.heap.size ≤ w1.heap.size := HB.out.size
    generalize hw2 : w1.alloc (.cells (tl zs).toArray 144) = w2 at *
    clear hw2 HI HO HZ HB H0
    refine (state_walk _ _ zs HT.out HG.out.1).mono ?_
    rintro e w3 ⟨rfl, rfl⟩
    by_cases hs : st zs = 1
    · have HS := Lib.hid hs
      rw [hs]
      clear hs
      go_wp2_with fail
      go_ret2
      refine ⟨.slice none 0 0, by rw [if_pos HG.out, if_pos HS.out]; rfl, ?_, HB2.out⟩
      rw [if_neg (fun h => h.2 HS.out), if_neg (fun h => h.2 HS.out)]
      exact World.ownsRow_nil _ _ _ _
    · have hs' : (st zs == 1) = false := by simpa using hs
      have HS1 : Hid (good zs ∧ st zs ≠ 1) := Lib.hid ⟨HG.out, hs⟩
      clear hs
      obtain ⟨stz, hst⟩ : ∃ s, s = st zs := ⟨_, rfl⟩
      rw [← hst] at hs' ⊢
      clear hst
      go_wp2_with fail
      refine (firsts_walk _ _ zs HT.out hl1 HG.out.1).mono ?_
      rintro e w3 ⟨rfl, hb⟩
      have HB3 := Lib.hid (HB2.out.trans (hb.mono HB2.out.size))
      clear hb HB2 HT hl1
      have H0 := Lib.hid (heap_alloc_new w3 (.cells (fc fun _ => 0).toArray 147))
      have HI := Lib.hid (info147 (F zs))
      have HO := Lib.hid (fc_one (F zs))
      have HZ : Hid ((fc fun _ => 0).toArray.size = (fc (F zs)).toArray.size) := Lib.hid (by simp [fc_length])
      obtain ⟨i0, hi, hz0, hz1, hz2⟩ := info_parts info132
      have HI0 := Lib.hid (And.intro hi (And.intro hz0 (And.intro hz1 hz2)))
      clear hi hz0 hz1 hz2
      have hl2 : l ≤ 1024 := by have := HN.out; have := HG.out.1; omega
      have HX := Lib.hid (heap_alloc_new w3 (.cells (fc (F zs)).toArray 147))
      have HB4 := Lib.hid (HB3.out.alloc HB3.out.size (.cells (fc (F zs)).toArray 147))
      have hgs : (w3.alloc (.cells (fc (F zs)).toArray 147)).heap.size = w3.heap.size + 1 := by simp
      have hle3 : w.heap.size ≤ w3.heap.size := HB3.out.size
      go_wp2_with (first | (refine wpList_store_row rfl 147 _ _ rfl w3.heap.size (fc (F zs)).toArray rfl rfl 147 _ H0.out HI.out HZ.out HO.out ?_; rw [show (#[.int .u32 0, .int .u32 0, .int .u32 0, .int .u32 0, .int .u32 0, .int .u32 0, .int .u32 0, .int .u32 0, .int .u32 0, .int .u32 0, .int .u32 0, .int .u32 0, .int .u32 0, .int .u32 0, .int .u32 0, .int .u32 0] : Array Value) = (fc fun _ => 0).toArray from rfl, world_setRow_new]; generalize w3.alloc (.cells (fc (F zs)).toArray 147) = w4 at *) | (refine wpList_make_full w4 rfl _ _ 115 rfl w.heap.size 132 i0 (.int .u32 0) 1 Tryd.underlying115 HI0.out.1 HI0.out.2.1 HI0.out.2.2.1 .i64 .i64 l l l rfl rfl rfl rfl (by rw [HI0.out.2.2.2]; omega) (by unfold maxLen; omega) (by omega) ?_; intro w5 hown hgrow))
      have hCR : CRel w w5 w3.heap.size (w3.heap.size + 1) zs 0 := by
        rw [hgs] at hown
        refine ⟨HB4.out.grown hgrow HB4.out.size (fun k e => by cases e), ?_, ?_, by omega, by omega⟩
        · rw [hgrow.block _ (by omega) (by simp), nx_zero]; exact HX.out
        · rw [cto_zero, ← made_u32, ← HN.out]; exact hown
      have HCR := Lib.hid hCR
      clear hCR hown HX HB4 H0 HI HO HZ HI0 HB3
      generalize w3.heap.size + 1 = g at *
      generalize w3.heap.size = G at *
      go_loopw [8, 9, 26] (fun _ _ v wr => ∃ k : Nat, k ≤ l ∧ v = .int .i64 k ∧ CRel w wr G g zs k) (fun _ _ v _ => l - (intOf v).toNat)
      case atStart => exact ⟨0, Nat.zero_le _, rfl, HCR.out⟩
      case round =>
        clear HCR hgrow hgs hle3 hle1
        obtain ⟨k, hk, rfl, hR⟩ := hrel
        have HR := Lib.hid hR
        clear hR
        by_cases hlt : k < l
        · have hlti : (k : Int) < (l : Int) := by omega
          obtain ⟨gz, o, rfl, hrow⟩ := HV.out.some (by omega)
          have hcap := HV.out.le
          have hc := (hrow.below HR.out.below (hrow.lt (by rw [ni_length, ← HN.out]; omega))).ni k (by rw [← HN.out]; omega)
          clear hrow
          have hkz : k < zs.length := by have := HN.out; omega
          have hgz : 0 ≤ zs.getD k 0 ∧ zs.getD k 0 ≤ 15 := by
            have e : zs.getD k 0 = zs[k] := by simp [hkz]
            rw [e]; exact HG.out.2 _ (List.getElem_mem hkz)
          obtain ⟨n, hn⟩ : ∃ n : Nat, zs.getD k 0 = (n : Int) := ⟨(zs.getD k 0).toNat, by omega⟩
          rw [hn] at hc hgz
          have HZ := Lib.hid hn
          clear hn
          by_cases hn0 : n = 0
          · subst hn0
            have HS := Lib.hid (HR.out.keep hkz HZ.out)
            clear HR hkz
            go_wp2_with fail
            exact ⟨⟨k + 1, by omega, by go_num, HS.out⟩, by simp [intOf]; omega⟩
          · have hni : (0 : Int) < (n : Int) := by omega
            have hni2 : (n : Int) < 16 := by omega
            have HS := Lib.hid (HR.out.step hkz (by omega) (by omega : n < 16) HZ.out)
            have hc1 := HR.out.cell n (by omega)
            have hf1 := HR.out.free n
            obtain ⟨_, ⟨u, hc2⟩, hf2, _⟩ := HR.out.spot hkz
            have hne := HR.out.ne
            have hx := nx_lt zs HG.out.1 k n (by omega)
            generalize nx zs k n = x at *
            have hc1' : (wr.setCell ⟨g, k, none⟩ (.int .u32 (x : Int))).cell? ⟨G, n, none⟩ = some (.int .u32 (x : Int)) := by
              rw [World.cell?_setCell_other _ _ _ _ (by intro e; simp only [Addr.mk.injEq] at e; exact hne e.1)]; exact hc1
            clear HR hkz HZ hgz
            go_wp2_with fail
            exact ⟨⟨k + 1, by omega, by go_num, by simpa using HS.out⟩, by simp [intOf]; omega⟩
        · have hlti : (l : Int) ≤ (k : Int) := by omega
          obtain rfl : k = l := by omega
          go_wp2_with fail
          go_ret2
          refine ⟨_, by rw [if_pos HS1.out.1, if_neg HS1.out.2]; rfl, ?_, HR.out.below⟩
          rw [if_pos HS1.out, if_pos HS1.out, ← cto_all]
          have := HR.out.own
          rw [← HN.out] at this ⊢
          exact this
  · rw [if_neg hg]
    have HG := Lib.hid hg
    clear hg
    have H0 := Lib.hid (heap_alloc_new w1 (.cells (tl []).toArray 144))
    have HI := Lib.hid (info144 [])
    have HO := Lib.hid (tl_one [])
    have HB2 := Lib.hid (HB.out.alloc HB.out.size (.cells (tl []).toArray 144))
    go_wp2_with (refine wpList_store_row rfl 144 _ _ rfl w1.heap.size (tl []).toArray rfl rfl 144 _ H0.out HI.out rfl HO.out ?_; rw [← tl0, world_setRow_new])
    go_ret2
    refine ⟨.slice none 0 0, by rw [if_neg HG.out]; rfl, ?_, HB2.out⟩
    rw [if_neg (fun h => HG.out h.1), if_neg (fun h => HG.out h.1)]
    exact World.ownsRow_nil _ _ _ _
end Go.Proofs.YtphdcgioeokfbaaDoor
/-
  HuffBack, as plain mathematics: codes turned twice, what is read of a code's bits, no code the beginning of another.
-/
namespace Go.Proofs.YtphdcgioeokfbaaDoor
open Go.RowKit Hf

/-- The bits of a turned number. -/
theorem trn_bit (c n k : Nat) (hk : k < n) : trn c n / 2 ^ k % 2 = c / 2 ^ (n - 1 - k) % 2 := by
  induction n generalizing k with
  | zero => omega
  | succ n ih =>
    rw [trn]
    cases k with
    | zero =>
      rw [show n + 1 - 1 - 0 = n by omega]; simp
    | succ k =>
      have := ih k (by omega)
      rw [Nat.pow_succ, Nat.mul_comm (2 ^ k), ← Nat.div_div_eq_div_mul, show (2 * trn c n + c / 2 ^ n % 2) / 2 = trn c n by omega, this, show n + 1 - 1 - (k + 1) = n - 1 - k by omega]
theorem bits_same : ∀ (n x y : Nat), x < 2 ^ n → y < 2 ^ n → (∀ k, k < n → x / 2 ^ k % 2 = y / 2 ^ k % 2) → x = y
  | 0, x, y, hx, hy, _ => by simp at hx hy; omega
  | n + 1, x, y, hx, hy, h => by
    have h0 := h 0 (by omega)
    have := bits_same n (x / 2) (y / 2) (by rw [Nat.pow_succ] at hx; omega) (by rw [Nat.pow_succ] at hy; omega) (fun k hk => by
      have := h (k + 1) (by omega)
      rw [Nat.pow_succ, Nat.mul_comm (2 ^ k), ← Nat.div_div_eq_div_mul, ← Nat.div_div_eq_div_mul] at this
      exact this)
    simp at h0
    omega
/-- Turned twice it is as it was. -/
theorem trn_twice (c n : Nat) (h : c < 2 ^ n) : trn (trn c n) n = c := by
  refine bits_same n _ _ (trn_lt _ _) h fun k hk => ?_
  rw [trn_bit _ _ _ hk, trn_bit _ _ _ (by omega), show n - 1 - (n - 1 - k) = k by omega]
/-- The bits of a number, its first one ahead. -/
def bitsN (c n : Nat) : List Bool := (List.range n).map fun k => decide (trn c n / 2 ^ k % 2 = 1)
theorem bitsN_length (c n : Nat) : (bitsN c n).length = n := by simp [bitsN]
theorem bitsN_15 (c n : Nat) (hn : n ≤ 15) : bitsN c n = (bits15 (c * 2 ^ (15 - n))).take n := by
  apply List.ext_getElem
  · rw [bitsN_length, List.length_take, bits15_length]; omega
  · intro k h1 h2
    rw [bitsN_length] at h1
    rw [List.getElem_take]
    simp only [bitsN, bits15, List.getElem_map, List.getElem_range]
    rw [trn_bit c n k h1]
    have e : c * 2 ^ (15 - n) / 2 ^ (14 - k) = c / 2 ^ (n - 1 - k) := by
      rw [show 14 - k = (15 - n) + (n - 1 - k) by omega, Nat.pow_add, ← Nat.div_div_eq_div_mul, Nat.mul_div_cancel _ (Nat.pow_pos (by decide))]
    rw [e]
/-- What is read depends on what is taken. -/
theorem rd_local (zs : List Int) : ∀ f n c (bs bs' : List Bool) (m s : Nat), rd zs f n c bs = (s, 0, n + m) → bs'.take m = bs.take m → rd zs f n c bs' = (s, 0, n + m) := by
  intro f
  induction f with
  | zero => intro n c bs bs' m s h _; rw [rd] at h; simp at h
  | succ f ih =>
    intro n c bs bs' m s h ht
    cases bs with
    | nil => rw [rd] at h; simp at h
    | cons b t =>
      rcases rd_ends zs (f + 1) n c (b :: t) with h1 | h1 | h1
      · rw [h] at h1
        simp only at h1
        obtain ⟨m, rfl⟩ : ∃ q, m = q + 1 := ⟨m - 1, by omega⟩
        cases bs' with
        | nil => simp at ht
        | cons b' t' =>
          rw [List.take_succ_cons, List.take_succ_cons] at ht
          injection ht with hb ht
          subst hb
          rw [rd] at h ⊢
          cases hs : sym zs (n + 1) (2 * c + b'.toNat) with
          | some x => rw [hs] at h; simpa using h
          | none =>
            rw [hs] at h
            simp only at h ⊢
            rw [show n + (m + 1) = n + 1 + m by omega] at h ⊢
            exact ih _ _ _ _ _ _ h ht
      · rw [h] at h1; simp at h1
      · rw [h] at h1; simp at h1
theorem hit_code {zs : List Int} (_hg : good zs) (s : Nat) (hs : 0 < zs.getD s 0) : hit zs (code zs s * 2 ^ (15 - (zs.getD s 0).toNat)) s :=
  ⟨hs, Nat.mul_div_cancel _ (Nat.pow_pos (by decide))⟩
theorem hit_kr {zs : List Int} (hg : good zs) (x s : Nat) (h : hit zs x s) : x < kr zs := by
  obtain ⟨_, n, hn, _, h3⟩ := (hit_sym hg x s).1 h
  exact sym_kr zs n x hn (by rw [h3]; rfl)
theorem code_lt {zs : List Int} (hg : good zs) (hk : kr zs ≤ 32768) (s : Nat) (hs : 0 < zs.getD s 0) : code zs s < 2 ^ (zs.getD s 0).toNat := by
  have h1 := hit_kr hg _ s (hit_code hg s hs)
  have hz := getD_good hg s
  have h2 : code zs s * 2 ^ (15 - (zs.getD s 0).toNat) < 2 ^ (zs.getD s 0).toNat * 2 ^ (15 - (zs.getD s 0).toNat) := by
    rw [← Nat.pow_add, show (zs.getD s 0).toNat + (15 - (zs.getD s 0).toNat) = 15 by omega]
    have : (2 : Nat) ^ 15 = 32768 := by decide
    omega
  exact Nat.lt_of_mul_lt_mul_right h2
/-- A code is read as its symbol, whatever stands behind. -/
theorem rd_code {zs : List Int} (hg : good zs) (hk : kr zs ≤ 32768) (s : Nat) (hs : 0 < zs.getD s 0) (rest : List Bool) : rd zs (deep zs) 0 0 (bitsN (code zs s) (zs.getD s 0).toNat ++ rest) = (s, 0, (zs.getD s 0).toNat) := by
  have hh := hit_code hg s hs
  have h1 := hit_kr hg _ s hh
  have hz := getD_good hg s
  rcases read_hit hg _ s hh with h | h
  · have := rd_local zs (deep zs) 0 0 _ (bitsN (code zs s) (zs.getD s 0).toNat ++ rest) (zs.getD s 0).toNat s (by rw [Nat.zero_add]; exact h) (by
      rw [bitsN_15 _ _ (by omega), List.take_append_of_le_length (by rw [List.length_take, bits15_length]; omega), List.take_take, Nat.min_self])
    rwa [Nat.zero_add] at this
  · omega
/-- No code is the beginning of another one. -/
theorem code_apart {zs : List Int} (hg : good zs) (i k : Nat) (hi : 0 < zs.getD i 0) (hk : 0 < zs.getD k 0) (hne : i ≠ k) : code zs i / 2 ^ (zs.getD i 0 - min (zs.getD i 0) (zs.getD k 0)).toNat ≠ code zs k / 2 ^ (zs.getD k 0 - min (zs.getD i 0) (zs.getD k 0)).toNat := by
  have key : ∀ i k, 0 < zs.getD i 0 → 0 < zs.getD k 0 → i ≠ k → zs.getD i 0 ≤ zs.getD k 0 → code zs i ≠ code zs k / 2 ^ (zs.getD k 0 - zs.getD i 0).toNat := by
    intro i k hi hk hne hle e
    have h1 := hit_code hg k hk
    have z1 := getD_good hg i
    have z2 := getD_good hg k
    have h2 : hit zs (code zs k * 2 ^ (15 - (zs.getD k 0).toNat)) i := by
      refine ⟨hi, ?_⟩
      rw [e, show 15 - (zs.getD i 0).toNat = (15 - (zs.getD k 0).toNat) + (zs.getD k 0 - zs.getD i 0).toNat by omega, Nat.pow_add, ← Nat.div_div_eq_div_mul, Nat.mul_div_cancel _ (Nat.pow_pos (by decide))]
    exact hne (hit_one hg _ i k h2 h1)
  rcases Int.le_total (zs.getD i 0) (zs.getD k 0) with h | h
  · rw [show min (zs.getD i 0) (zs.getD k 0) = zs.getD i 0 by omega]
    have := key i k hi hk hne h
    simpa using this
  · rw [show min (zs.getD i 0) (zs.getD k 0) = zs.getD k 0 by omega]
    have := key k i hk hi (Ne.symm hne) h
    intro e
    exact this (by simpa using e.symm)
/-- All codes of a row of symbols, one behind the other. -/
def bitsAll (zs : List Int) (ss : List Nat) : List Bool := ss.flatMap fun s => bitsN (code zs s) (zs.getD s 0).toNat
theorem bitsAll_snoc (zs : List Int) (ss : List Nat) (s : Nat) : bitsAll zs (ss ++ [s]) = bitsAll zs ss ++ bitsN (code zs s) (zs.getD s 0).toNat := by simp [bitsAll]
theorem bitsAll_cons (zs : List Int) (ss : List Nat) (s : Nat) : bitsAll zs (s :: ss) = bitsN (code zs s) (zs.getD s 0).toNat ++ bitsAll zs ss := rfl
theorem bitsAll_length {zs : List Int} (hg : good zs) (ss : List Nat) : (bitsAll zs ss).length ≤ 15 * ss.length := by
  induction ss with
  | nil => simp [bitsAll]
  | cons s t ih =>
    rw [bitsAll_cons, List.length_append, bitsN_length, List.length_cons]
    have := getD_good hg s
    omega
theorem rd_nobits (zs : List Int) (h : 1 ≤ deep zs) : rd zs (deep zs) 0 0 [] = (0, 4, 0) := by
  obtain ⟨d, hd⟩ : ∃ d, deep zs = d + 1 := ⟨deep zs - 1, by omega⟩
  rw [hd, rd]
end Go.Proofs.YtphdcgioeokfbaaDoor
