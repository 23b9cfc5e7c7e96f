/-
  Merged, in the order in which they build: Next2 Pre Num Far.
-/
import Derived.RegionDies
import Derived.Test.YtefeilgbofphjaaDoorMg1
import Derived.Test.YtefeilgbofphjaaDoorMg3
/-
  The contract of Next.
-/
namespace Go.Proofs.YtefeilgbofphjaaDoor
open Go.RowKit Hf

theorem catch_idle (p q : Addr) (w : World) :
    CallsD Tryd.prog 90 #[.pointer (some p), .pointer (some q)] .returning w fun e u' w' => e = .returned (.tuple #[]) ∧ u' = .returning ∧ w' = w := by
  refine callsD_of_wpS Tryd.func90 rfl fun c₀ cs hu => ?_
  apply wpS_seq
  apply wpS_region
  simp [wpOpsS, go_sem, recoverD, hu, Tryd.ntmps90, Exit.thenS]
  refine wpS_cond (t := false) (by simp [Act.eval, Array.replicate]) ?_
  simp only [Bool.false_eq_true, if_false]
  refine wpS_of_wp (wp_skip ?_)
  cases c₀
  simp_all [bodyPostS, results, Tryd.results90]
/-- The world in which find is called. -/
def nw (w : World) (f : Value) : World := (((w.alloc (.cells #[f] 66)).alloc (.cells #[.int .i64 0] 3)).alloc (.cells #[.int .i64 0] 26)).alloc (.cells #[.int .u32 0] 49)
theorem nw_size (w : World) (f : Value) : (nw w f).heap.size = w.heap.size + 1 + 1 + 1 + 1 := by simp [nw]
theorem nw_below (w : World) (f : Value) : Below w.heap.size w (nw w f) := ((((Below.refl _ _).alloc (Nat.le_refl _) _).alloc (by simp) _).alloc (by simp; omega) _).alloc (by simp; omega) _
theorem box_keep {w : World} {g : Nat} {x : Value} {T : TypeId} (h : BoxAt w g x T) (o : Obj) : BoxAt (w.alloc o) g x T := (Below.heap_alloc w o _ h.lt).trans h
theorem nw_boxes (w : World) (f : Value) : BoxAt (nw w f) w.heap.size f 66 ∧ BoxAt (nw w f) (w.heap.size + 1) (.int .i64 0) 3 ∧ BoxAt (nw w f) (w.heap.size + 1 + 1) (.int .i64 0) 26 ∧ BoxAt (nw w f) (w.heap.size + 1 + 1 + 1) (.int .u32 0) 49 := by
  refine ⟨box_keep (box_keep (box_keep (BoxAt.new _ _ _) _) _) _, ?_, ?_, ?_⟩
  · have := BoxAt.new (w.alloc (.cells #[f] 66)) (.int .i64 0) 3
    rw [World.size_alloc] at this
    exact box_keep (box_keep this _) _
  · have := BoxAt.new ((w.alloc (.cells #[f] 66)).alloc (.cells #[.int .i64 0] 3)) (.int .i64 0) 26
    rw [World.size_alloc, World.size_alloc] at this
    exact box_keep this _
  · have := BoxAt.new (((w.alloc (.cells #[f] 66)).alloc (.cells #[.int .i64 0] 3)).alloc (.cells #[.int .i64 0] 26)) (.int .u32 0) 49
    rw [World.size_alloc, World.size_alloc, World.size_alloc] at this
    exact this

def NextPost (B : Nat) (O : Nat → Prop) (gb g : Nat) (zs : List Int) (r : List Bool) (w : World) (e : Ending) (w' : World) : Prop :=
  e = .returned (.tuple #[.int .i64 ((rd zs (deep zs) 0 0 r).1 : Nat), .int .i64 (rd zs (deep zs) 0 0 r).2.1]) ∧ ∃ O', HandAt w' B O' gb g (r.drop (rd zs (deep zs) 0 0 r).2.2) ∧ OnlyS O w w' ∧ Grew w O O'
set_option maxRecDepth 100000 in
set_option maxHeartbeats 1000000 in
theorem Next_walk (w : World) (B : Nat) (O : Nat → Prop) (gb g gk lo hi : Nat) (zs : List Int) (r : List Bool) (hK : BookAt w lo hi gk zs) (hd : deep zs ≤ 15) (h : HandAt w B O gb g r)
    (hf : ∀ i, lo ≤ i → i < hi → ¬ O i) (hhi : hi ≤ w.heap.size) (hl : zs.length ≤ 1024) :
    Calls Tryd.prog 81 #[.pointer (some ⟨gk, 0, none⟩), hand gb] w (NextPost B O gb g zs r w) := by
  have hmf : ∀ (fn : Fn) (first cap : Array Value) (w : World), (Instr.makeFunc fn first cap).run Tryd.prog w = .ok (.func fn first cap) w := fun _ _ _ _ => rfl
  have HW := Lib.hid (nw_below w (hand gb))
  have HX := Lib.hid (nw_boxes w (hand gb))
  have hgb := h.box.lt
  have hBb := h.ge
  have hown := h.src.own
  have HS := Lib.hid (nw_size w (hand gb))
  have HO : Hid (OnlyS (fun _ => False) w (nw w (hand gb))) := Lib.hid (OnlyS.of_below HW.out)
  have HB := Lib.hid (hK.only HO.out (fun _ _ _ h => h))
  have HF := Lib.hid (h.only HO.out (fun _ h => h.elim) (fun h => h))
  have HN := Lib.hid (And.intro hf (And.intro hhi (And.intro hown (And.intro hgb hBb))))
  clear hK h hf hhi hown hgb hBb
  unfold hand
  go_enter_defers Tryd.func81, Tryd.ntmps81
  go_wp2_with fail
  change Calls _ _ _ (nw w _) _
  change Calls _ _ _ (nw w (hand gb)) _
  generalize nw w (hand gb) = W at *
  generalize hG : w.heap.size = G at *
  have HG := Lib.hid hG
  clear hG
  refine (find_walk W B O gb g G (G + 1 + 1 + 1) lo hi gk zs r HB.out hd HF.out HX.out.1 HX.out.2.2.2 ⟨fun h => by have := (HN.out.2.2.1 _ h).2; omega, fun h => by have := (HN.out.2.2.1 _ h).2; omega⟩ (by have := HN.out.2.2.2; omega) (by have := HN.out.2.2.2; omega) (fun i h1 h2 => ⟨HN.out.1 i h1 h2, by have := HN.out.2.1; omega⟩) hl).mono ?_
  rintro e w1 ⟨rfl, O', hF, hO, hGr⟩
  have hb1 := HX.out.2.1.only hO (fun h => h.elim (fun h => by have := (HN.out.2.2.1 _ h).2; omega) (fun h => by omega))
  have hb2 := HX.out.2.2.1.only hO (fun h => h.elim (fun h => by have := (HN.out.2.2.1 _ h).2; omega) (fun h => by omega))
  have hc1 := hb1.cell
  have hc2 := hb2.cell
  have hf1 := hb1.free
  have hf2 := hb2.free
  have HB1 := Lib.hid hb1
  have HB2 := Lib.hid hb2
  have HF := Lib.hid hF
  have HOO := Lib.hid hO
  have HGr := Lib.hid hGr
  clear hb1 hb2 hF hO hGr
  obtain ⟨q, hq⟩ : ∃ q, q = rd zs (deep zs) 0 0 r := ⟨_, rfl⟩
  rw [← hq] at HF ⊢
  have HR := Lib.hid hq
  clear hq
  obtain ⟨s, e, t⟩ := q
  simp only at HF ⊢
  go_wp2_with fail
  have hx2 := (HB2.out.only (S := (· = G + 1)) (OnlyS.setCell w1 (G + 1) 0 (.int .i64 (s : Int)) rfl) (by omega)).set (.int .i64 e)
  have hx1 := (HB1.out.set (.int .i64 (s : Int))).only (S := (· = G + 1 + 1)) (OnlyS.setCell _ (G + 1 + 1) 0 (.int .i64 e) rfl) (by omega)
  have hO2 : OnlyS (fun i => G + 1 ≤ i ∧ i ≤ G + 1 + 1) w1 ((w1.setCell ⟨G + 1, 0, none⟩ (.int .i64 (s : Int))).setCell ⟨G + 1 + 1, 0, none⟩ (.int .i64 e)) := (OnlyS.setCell _ _ _ _ (by omega)).trans (OnlyS.setCell _ _ _ _ (by omega))
  have hF2 := HF.out.only hO2 (fun i hi => ⟨HGr.out.not (fun h => by have := (HN.out.2.2.1 _ h).2; omega) (by have := HS.out; omega), by have := HN.out.2.2.2; omega⟩) (by have := HN.out.2.2.2; omega)
  generalize (w1.setCell ⟨G + 1, 0, none⟩ (.int .i64 (s : Int))).setCell ⟨G + 1 + 1, 0, none⟩ (.int .i64 e) = w2 at *
  refine leaves_cons (f := 90) (args := #[.pointer (some ⟨G + 1, 0, none⟩), .pointer (some ⟨G + 1 + 1, 0, none⟩)]) (by simp) (by simp [go_sem]) ?_
  refine (catch_idle ⟨G + 1, 0, none⟩ ⟨G + 1 + 1, 0, none⟩ _).mono ?_
  rintro e2 u' w'' ⟨rfl, rfl, rfl⟩
  have hc3 := hx1.cell
  have hc4 := hx2.cell
  have HP : Hid (NextPost B O gb g zs r w (.returned (.tuple #[.int .i64 (s : Int), .int .i64 e])) w'') := by
    refine Lib.hid ⟨by rw [← HR.out], O', by rw [← HR.out]; exact hF2, ?_, fun i hi => ?_⟩
    · refine ((OnlyS.of_below (by rw [HG.out]; exact HW.out) : OnlyS O w W).trans' HOO.out (fun i h => ?_)).trans' hO2 (fun i h => by have := HG.out; omega)
      rcases h with h | h
      · exact .inl h
      · exact .inr (by have := HG.out; omega)
    · rcases HGr.out i hi with h | h
      · exact .inl h
      · exact .inr (by have := HG.out; have := HS.out; omega)
  clear hO2 hF2 hx1 hx2
  simp [Leaves, settle, results, Tryd.results81, go_sem, hc3, hc4]
  exact HP.out
end Go.Proofs.YtefeilgbofphjaaDoor
/-
  The plain mathematics of reading: codes cut the numbers of 15 bits into rows side by side; what is read of 15 bits.
-/
namespace Hf

/-- What lies below the codes behind a length, in parts of 2 to -15. -/
def U (zs : List Int) (n : Nat) : Nat := K zs n * 2 ^ (15 - n)
theorem U_zero (zs : List Int) : U zs 0 = 0 := by simp [U, K_zero]
theorem U_all (zs : List Int) : U zs 15 = kr zs := by simp [U, kr]
theorem U_F (zs : List Int) (n : Nat) (hn : n < 15) : U zs n = F zs (n + 1) * 2 ^ (15 - (n + 1)) := by
  unfold U; rw [F_succ, show 15 - n = (15 - (n + 1)) + 1 by omega, Nat.pow_succ, Nat.mul_comm _ 2, ← Nat.mul_assoc, Nat.mul_comm (K zs n) 2]
theorem U_step (zs : List Int) (n : Nat) (hn : n < 15) : U zs n ≤ U zs (n + 1) := by
  rw [U_F zs n hn]; unfold U; exact Nat.mul_le_mul_right _ (by unfold K; omega)
theorem U_mono (zs : List Int) (n d : Nat) (h : n + d ≤ 15) : U zs n ≤ U zs (n + d) := by
  induction d with
  | zero => exact Nat.le_refl _
  | succ d ih => exact Nat.le_trans (ih (by omega)) (U_step zs (n + d) (by omega))
theorem U_le (zs : List Int) (n m : Nat) (h : n ≤ m) (hm : m ≤ 15) : U zs n ≤ U zs m := by
  have := U_mono zs n (m - n) (by omega)
  rwa [show n + (m - n) = m by omega] at this
/-- A number of 15 bits begins with a code of that length. -/
theorem sym_is (zs : List Int) (n x : Nat) (hn : n < 15) : (sym zs (n + 1) (x / 2 ^ (15 - (n + 1)))).isSome = true ↔ U zs n ≤ x ∧ x < U zs (n + 1) := by
  have hp : 0 < 2 ^ (15 - (n + 1)) := Nat.pow_pos (by decide)
  rw [U_F zs n hn]
  unfold sym U
  rw [← Nat.le_div_iff_mul_le hp, ← Nat.div_lt_iff_lt_mul hp]
  by_cases h : F zs (n + 1) ≤ x / 2 ^ (15 - (n + 1))
  · rw [if_pos h, Option.isSome_iff_ne_none, ne_eq, List.getElem?_eq_none_iff, places_length zs (n + 1) (by omega)]
    unfold K; omega
  · rw [if_neg h]
    exact ⟨fun h' => (by cases h'), fun h' => absurd h'.1 h⟩
theorem sym_one (zs : List Int) (n m x : Nat) (hn : n < 15) (hm : m < 15) (h1 : (sym zs (n + 1) (x / 2 ^ (15 - (n + 1)))).isSome = true) (h2 : (sym zs (m + 1) (x / 2 ^ (15 - (m + 1)))).isSome = true) : n = m := by
  rw [sym_is zs n x hn] at h1
  rw [sym_is zs m x hm] at h2
  rcases Nat.lt_trichotomy n m with h | h | h
  · have := U_le zs (n + 1) m h (by omega); omega
  · exact h
  · have := U_le zs (m + 1) n h (by omega); omega
theorem sym_full (zs : List Int) (x : Nat) (h : x < kr zs) : ∃ n, n < 15 ∧ (sym zs (n + 1) (x / 2 ^ (15 - (n + 1)))).isSome = true := by
  rw [← U_all] at h
  have : ∀ d, d ≤ 15 → x < U zs d → ∃ n, n < d ∧ U zs n ≤ x ∧ x < U zs (n + 1) := by
    intro d
    induction d with
    | zero => intro _ h; rw [U_zero] at h; omega
    | succ d ih =>
      intro hd h
      rcases Nat.lt_or_ge x (U zs d) with h1 | h1
      · obtain ⟨n, h2, h3⟩ := ih (by omega) h1
        exact ⟨n, by omega, h3⟩
      · exact ⟨d, by omega, h1, h⟩
  obtain ⟨n, h1, h2⟩ := this 15 (Nat.le_refl _) h
  exact ⟨n, h1, (sym_is zs n x h1).2 h2⟩
theorem sym_kr (zs : List Int) (n x : Nat) (hn : n < 15) (h : (sym zs (n + 1) (x / 2 ^ (15 - (n + 1)))).isSome = true) : x < kr zs := by
  rw [sym_is zs n x hn] at h
  have := U_le zs (n + 1) 15 (by omega) (Nat.le_refl _)
  rw [U_all] at this; omega

/-- A symbol whose code a number of 15 bits begins with. -/
def hit (zs : List Int) (x i : Nat) : Prop := 0 < zs.getD i 0 ∧ x / 2 ^ (15 - (zs.getD i 0).toNat) = code zs i
instance (zs : List Int) (x i : Nat) : Decidable (hit zs x i) := by unfold hit; infer_instance
theorem getD_good {zs : List Int} (hg : good zs) (i : Nat) : 0 ≤ zs.getD i 0 ∧ zs.getD i 0 ≤ 15 := by
  rcases Nat.lt_or_ge i zs.length with h | h
  · have e : zs.getD i 0 = zs[i] := by simp [h]
    rw [e]; exact hg.2 _ (List.getElem_mem h)
  · simp [h]
theorem hit_sym {zs : List Int} (hg : good zs) (x i : Nat) : hit zs x i ↔ i < zs.length ∧ ∃ n, n < 15 ∧ zs.getD i 0 = ((n + 1 : Nat) : Int) ∧ sym zs (n + 1) (x / 2 ^ (15 - (n + 1))) = some i := by
  have hz := getD_good hg i
  constructor
  · rintro ⟨h1, h2⟩
    obtain ⟨n, hn⟩ : ∃ n : Nat, zs.getD i 0 = ((n + 1 : Nat) : Int) := ⟨(zs.getD i 0).toNat - 1, by omega⟩
    have hi : i < zs.length := by
      rcases Nat.lt_or_ge i zs.length with h | h
      · exact h
      · simp [h] at h1
    refine ⟨hi, n, by omega, hn, ?_⟩
    rw [hn, Int.toNat_natCast] at h2
    exact (sym_some zs (n + 1) _ i (by omega)).2 ⟨hi, hn, h2.symm⟩
  · rintro ⟨hi, n, hn, hzn, hs⟩
    have := (sym_some zs (n + 1) _ i (by omega)).1 hs
    refine ⟨by omega, ?_⟩
    rw [hzn, Int.toNat_natCast]; exact this.2.2.symm
theorem hit_one {zs : List Int} (hg : good zs) (x i j : Nat) (h1 : hit zs x i) (h2 : hit zs x j) : i = j := by
  obtain ⟨_, n, hn, _, h3⟩ := (hit_sym hg x i).1 h1
  obtain ⟨_, m, hm, _, h4⟩ := (hit_sym hg x j).1 h2
  obtain rfl := sym_one zs n m x hn hm (by rw [h3]; rfl) (by rw [h4]; rfl)
  rw [h3] at h4; injection h4
theorem hit_full {zs : List Int} (hg : good zs) (x : Nat) (h : x < kr zs) : ∃ i, i < zs.length ∧ hit zs x i := by
  obtain ⟨n, hn, hs⟩ := sym_full zs x h
  obtain ⟨i, hi⟩ := Option.isSome_iff_exists.1 hs
  have := (sym_some zs (n + 1) _ i (by omega)).1 hi
  exact ⟨i, this.1, (hit_sym hg x i).2 ⟨this.1, n, hn, this.2.1, hi⟩⟩

/-- Fifteen bits, the first one the highest. -/
def bits15 (x : Nat) : List Bool := (List.range 15).map fun j => decide (x / 2 ^ (14 - j) % 2 = 1)
theorem bits15_length (x : Nat) : (bits15 x).length = 15 := by simp [bits15]
theorem bits15_drop (x n : Nat) (hn : n < 15) : (bits15 x).drop n = decide (x / 2 ^ (14 - n) % 2 = 1) :: (bits15 x).drop (n + 1) := by
  have h : n < (bits15 x).length := by rw [bits15_length]; exact hn
  rw [List.drop_eq_getElem_cons h]
  congr 1
  simp [bits15]
theorem bits15_next (x n : Nat) (hn : n < 15) : 2 * (x / 2 ^ (15 - n)) + (decide (x / 2 ^ (14 - n) % 2 = 1)).toNat = x / 2 ^ (15 - (n + 1)) := by
  rw [show 15 - n = (14 - n) + 1 by omega, show 15 - (n + 1) = 14 - n by omega, Nat.pow_succ, ← Nat.div_div_eq_div_mul]
  generalize x / 2 ^ (14 - n) = y
  rcases Nat.mod_two_eq_zero_or_one y with h | h <;> simp [h] <;> omega
theorem rd_hit (zs : List Int) (x m s : Nat) (hm : m < 15) (hs : sym zs (m + 1) (x / 2 ^ (15 - (m + 1))) = some s) :
    ∀ d n fuel, n + d = m → d < fuel → rd zs fuel n (x / 2 ^ (15 - n)) ((bits15 x).drop n) = (s, 0, m + 1) := by
  intro d
  induction d with
  | zero =>
    intro n fuel hd hf
    obtain rfl : n = m := by omega
    obtain ⟨f, rfl⟩ : ∃ f, fuel = f + 1 := ⟨fuel - 1, by omega⟩
    rw [bits15_drop x n hm, rd, bits15_next x n hm, hs]
  | succ d ih =>
    intro n fuel hd hf
    obtain ⟨f, rfl⟩ : ∃ f, fuel = f + 1 := ⟨fuel - 1, by omega⟩
    have hno : sym zs (n + 1) (x / 2 ^ (15 - (n + 1))) = none := by
      cases h : sym zs (n + 1) (x / 2 ^ (15 - (n + 1))) with
      | none => rfl
      | some t =>
        have := sym_one zs n m x (by omega) hm (by rw [h]; rfl) (by rw [hs]; rfl)
        omega
    rw [bits15_drop x n (by omega), rd, bits15_next x n (by omega), hno]
    exact ih (n + 1) f (by omega) (by omega)
theorem foldl_max (l : List Int) (a : Int) : a ≤ l.foldl max a ∧ ∀ z ∈ l, z ≤ l.foldl max a := by
  induction l generalizing a with
  | nil => exact ⟨Int.le_refl _, fun z h => by cases h⟩
  | cons b t ih =>
    have := ih (max a b)
    refine ⟨Int.le_trans (by omega) this.1, fun z hz => ?_⟩
    rcases List.mem_cons.1 hz with rfl | h
    · exact Int.le_trans (by omega) this.1
    · exact this.2 z h
theorem deep_le (zs : List Int) (i n : Nat) (h : zs.getD i 0 = ((n + 1 : Nat) : Int)) : n + 1 ≤ deep zs := by
  have hi : i < zs.length := by
    rcases Nat.lt_or_ge i zs.length with hh | hh
    · exact hh
    · rw [List.getD_eq_getElem?_getD, List.getElem?_eq_none hh] at h; simp at h; omega
  have e : zs.getD i 0 = zs[i] := by simp [hi]
  have := (foldl_max zs 1).2 _ (List.getElem_mem hi)
  unfold deep; rw [← e, h] at this; omega
theorem deep_pos (zs : List Int) : 1 ≤ deep zs := by
  have := (foldl_max zs 1).1
  unfold deep; omega
/-- A symbol is read whose code is there. -/
theorem read_hit {zs : List Int} (hg : good zs) (x i : Nat) (h : hit zs x i) : rd zs (deep zs) 0 0 (bits15 x) = (i, 0, (zs.getD i 0).toNat) ∨ 32768 ≤ x := by
  rcases Nat.lt_or_ge x 32768 with hx | hx
  · obtain ⟨hi, n, hn, hz, hs⟩ := (hit_sym hg x i).1 h
    have := rd_hit zs x n i hn hs n 0 (deep zs) (by omega) (by have := deep_le zs i n hz; omega)
    rw [show x / 2 ^ (15 - 0) = 0 from Nat.div_eq_of_lt hx] at this
    left; rw [hz, Int.toNat_natCast]; exact this
  · exact .inr hx
theorem lone_deep {zs : List Int} (h : lone zs = true) : deep zs = 1 ∧ kr zs ≤ 16384 := by
  unfold lone at h
  rw [Bool.and_eq_true, decide_eq_true_iff, decide_eq_true_iff] at h
  have hc : ∀ z : Int, z ≠ 0 → z ≠ 1 → zs.count z = 0 := by
    intro z h0 h1
    have key : ∀ l : List Int, l.count 0 + l.count 1 + l.count z ≤ l.length := by
      intro l
      induction l with
      | nil => simp
      | cons a t ih =>
        rw [List.count_cons, List.count_cons, List.count_cons, List.length_cons]
        by_cases ha0 : a = 0
        · subst ha0; simp [Ne.symm h0]; omega
        · by_cases ha1 : a = 1
          · subst ha1; simp [Ne.symm h1]; omega
          · simp [ha0, ha1]; split <;> omega
    have := key zs
    omega
  have hn : ∀ n, 2 ≤ n → ct zs n = 0 := fun n hn => by
    unfold ct; rw [if_neg (by omega)]; exact hc _ (by omega) (by omega)
  have h1 : K zs 1 ≤ 1 := by
    show F zs 1 + ct zs 1 ≤ 1
    rw [F_one]; unfold ct; rw [if_neg (by decide)]
    have : zs.count ((1 : Nat) : Int) = zs.count 1 := rfl
    omega
  have hK : ∀ n, K zs (n + 1) ≤ 2 ^ n := by
    intro n
    induction n with
    | zero => simpa using h1
    | succ n ih =>
      show F zs (n + 2) + ct zs (n + 2) ≤ _
      rw [F_succ, hn (n + 2) (by omega), Nat.pow_succ]; omega
  constructor
  · have hall : ∀ z ∈ zs, z ≤ 1 := by
      intro z hz
      rcases Int.lt_or_le 1 z with h2 | h2
      · have := hc z (by omega) (by omega)
        rw [List.count_eq_zero] at this
        exact absurd hz this
      · exact h2
    have : ∀ (l : List Int), (∀ z ∈ l, z ≤ 1) → l.foldl max 1 = 1 := by
      intro l
      induction l with
      | nil => intro _; rfl
      | cons a t ih =>
        intro h
        rw [List.foldl_cons, show max (1 : Int) a = 1 by have := h a (by simp); omega]
        exact ih (fun z hz => h z (by simp [hz]))
    unfold deep; rw [this zs hall]; rfl
  · exact hK 14
/-- Nothing is read: behind one bit. -/
theorem read_none {zs : List Int} (hg : good zs) (h1 : lone zs = true) (x : Nat) (h : ∀ i, i < zs.length → ¬ hit zs x i) : rd zs (deep zs) 0 0 (bits15 x) = (0, 20, 1) ∨ 32768 ≤ x := by
  rcases Nat.lt_or_ge x 32768 with hx | hx
  · left
    rw [(lone_deep h1).1]
    have hd := bits15_drop x 0 (by decide)
    have hn := bits15_next x 0 (by decide)
    rw [show x / 2 ^ (15 - 0) = 0 from Nat.div_eq_of_lt hx] at hn
    rw [List.drop_zero] at hd
    have hno : sym zs (0 + 1) (x / 2 ^ (15 - (0 + 1))) = none := by
      cases hs : sym zs (0 + 1) (x / 2 ^ (15 - (0 + 1))) with
      | none => rfl
      | some t =>
        have := (sym_some zs (0 + 1) _ t (by omega)).1 hs
        exact absurd ((hit_sym hg x t).2 ⟨this.1, 0, by decide, this.2.1, hs⟩) (h t this.1)
    rw [hd, rd, hn, hno]
    rfl
  · exact .inr hx
end Hf
/-
  Contracts of number, symbol, scaled, long, far: what is read of a stream.
-/
namespace Go.Proofs.YtefeilgbofphjaaDoor
open Go.RowKit

/-- A stream's source and closure, and what is left. -/
structure StB (w : World) (B : Nat) (O : Nat → Prop) (gt gb g : Nat) (r : List Bool) : Prop where
  c0 : w.cell? ⟨gt, 0, none⟩ = some (.pointer (some ⟨g, 0, none⟩))
  c1 : w.cell? ⟨gt, 1, none⟩ = some (hand gb)
  out : ¬ O gt
  ge : B ≤ gt
  hand : HandAt w B O gb g r
theorem StB.lt {w : World} {B gt gb g : Nat} {O : Nat → Prop} {r : List Bool} (h : StB w B O gt gb g r) : gt < w.heap.size := block_lt_of_cell h.c0
theorem StB.next {w w' : World} {B gt gb g : Nat} {O O' : Nat → Prop} {r r' : List Bool} (h : StB w B O gt gb g r) (hh : HandAt w' B O' gb g r') (ho : OnlyS O w w') (hg : Grew w O O') : StB w' B O' gt gb g r' :=
  ⟨ho.cell h.c0 h.out, ho.cell h.c1 h.out, hg.not h.out h.lt, h.ge, hh⟩
theorem StB.same {w w' : World} {B gt gb g : Nat} {O : Nat → Prop} {r : List Bool} (h : StB w B O gt gb g r) (ho : OnlyS (fun _ => False) w w') : StB w' B O gt gb g r :=
  ⟨ho.cell h.c0 (fun h => h), ho.cell h.c1 (fun h => h), h.out, h.ge, h.hand.only ho (fun _ h => h.elim) (fun h => h)⟩
/-- What a call that reads tells and leaves. -/
def RPost {α : Type} (res : Inf.Res α) (V : α → Value) (B : Nat) (O : Nat → Prop) (gt gb g : Nat) (w : World) (e : Ending) (w' : World) : Prop :=
  OnlyS O w w' ∧ match res with
  | .ok (x, r') => e = .returned (V x) ∧ ∃ O', StB w' B O' gt gb g r' ∧ Grew w O O'
  | .error er => e = pan er
def iv (n : Nat) : Value := .int .i64 (n : Int)
theorem ofInt_i64 (a : Nat) (ha : a < 9223372036854775808) : (BitVec.ofInt 64 (a : Int)).toNat = a := by
  rw [BitVec.ofInt_natCast, BitVec.toNat_ofNat]; exact Nat.mod_eq_of_lt (by omega)
theorem i64_or_nat (a b : Nat) (ha : a < 4611686018427387904) (hb : b < 4611686018427387904) : bits .or .i64 (a : Int) (b : Int) = ((a ||| b : Nat) : Int) := by
  have hx : a ||| b < 2 ^ 62 := Nat.or_lt_two_pow (by omega) (by omega)
  show IntKind.i64.wrap ((BitVec.ofInt 64 (a : Int) ||| BitVec.ofInt 64 (b : Int)).toNat : Int) = _
  rw [BitVec.toNat_or, ofInt_i64 a (by omega), ofInt_i64 b (by omega)]
  exact IntWalk.i64_in _ (by omega)
theorem i64_xor_nat (a b : Nat) (ha : a < 4611686018427387904) (hb : b < 4611686018427387904) : bits .xor .i64 (a : Int) (b : Int) = ((a ^^^ b : Nat) : Int) := by
  have hx : a ^^^ b < 2 ^ 62 := Nat.xor_lt_two_pow (by omega) (by omega)
  show IntKind.i64.wrap ((BitVec.ofInt 64 (a : Int) ^^^ BitVec.ofInt 64 (b : Int)).toNat : Int) = _
  rw [BitVec.toNat_xor, ofInt_i64 a (by omega), ofInt_i64 b (by omega)]
  exact IntWalk.i64_in _ (by omega)
theorem or_add (x k b : Nat) (hx : x < 2 ^ k) : x ||| b * 2 ^ k = x + b * 2 ^ k := by
  rw [Nat.or_comm, Nat.mul_comm, ← Nat.two_pow_add_eq_or_of_lt hx, Nat.add_comm]
theorem or_go (x k : Nat) (b : Nat) (hb : b < 2) (hx : x < 2 ^ k) (hk : k ≤ 31) : bits .or .i64 (x : Int) (wrap64 ((b : Int) * 2 ^ k)) = ((x + b * 2 ^ k : Nat) : Int) := by
  have h2 : (2 : Nat) ^ k ≤ 2 ^ 31 := Nat.pow_le_pow_right (by decide) hk
  have h3 : (2 : Nat) ^ 31 = 2147483648 := by decide
  have h4 : b * 2 ^ k ≤ 1 * 2 ^ k := Nat.mul_le_mul_right _ (by omega)
  have e : (b : Int) * 2 ^ k = ((b * 2 ^ k : Nat) : Int) := by rw [Int.natCast_mul, Int.natCast_pow]; rfl
  rw [e, IntWalk.wrap64_in _ (by omega), i64_or_nat _ _ (by omega) (by omega), or_add x k b hx]
set_option maxRecDepth 100000 in
set_option maxHeartbeats 1000000 in
theorem number_walk (w : World) (B : Nat) (O : Nat → Prop) (gt gb g many : Nat) (r : List Bool) (h : StB w B O gt gb g r) (hm : many ≤ 31) :
    Calls Tryd.prog 40 #[.pointer (some ⟨gt, 0, none⟩), iv many] w (RPost (Inf.numb many r) iv B O gt gb g w) := by
  have H0 : Hid (∃ O', StB w B O' gt gb g (r.drop 0) ∧ OnlyS O w w ∧ Grew w O O') := Lib.hid ⟨O, h, OnlyS.refl _ _, Grew.refl _ _⟩
  clear h
  unfold iv
  go_enter Tryd.func40, Tryd.ntmps40
  go_wp2_with fail
  go_loopw [5, 6, 7, 8, 10] (fun v5 _ _ _ v10 wr => ∃ k : Nat, k ≤ many ∧ k ≤ r.length ∧ v10 = .int .i64 k ∧ v5 = .int .i64 (Inf.val (r.take k) : Nat) ∧ ∃ O', StB wr B O' gt gb g (r.drop k) ∧ OnlyS O w wr ∧ Grew w O O') (fun _ _ _ _ v10 _ => many - (intOf v10).toNat)
  case atStart => exact ⟨0, Nat.zero_le _, Nat.zero_le _, rfl, rfl, H0.out⟩
  case round =>
    clear H0
    obtain ⟨k, hk, hkr, rfl, rfl, O1, hS, hO, hG⟩ := hrel
    have HS := Lib.hid hS
    have HO := Lib.hid hO
    have HG := Lib.hid hG
    by_cases hlt : k < many
    · have hlti : (k : Int) < (many : Int) := by omega
      have c1 := hS.c1
      unfold hand at c1
      have HW : Hid (Calls Tryd.prog 56 #[.pointer (some ⟨gb, 0, none⟩)] wr fun e w' => e = .returned (.tuple #[.int .u32 ((hb (r.drop k) : Nat) : Int), .int .i64 (he (r.drop k))]) ∧ ∃ O', HandAt w' B O' gb g (r.drop k).tail ∧ OnlyS O1 wr w' ∧ Grew wr O1 O') := Lib.hid (bit_walk wr B O1 gb g (r.drop k) hS.hand)
      clear hS hO hG
      go_wp2_with fail
      refine HW.out.mono ?_
      rintro e w1 ⟨rfl, O2, hH, hO2, hG2⟩
      have hS2 := HS.out.next hH hO2 hG2
      have hO3 := HO.out.trans' hO2 (fun i hi => HG.out i hi)
      have hG3 := HG.out.trans hG2 HO.out.size
      rw [List.tail_drop] at hS2
      have HS2 := Lib.hid hS2
      have HO3 := Lib.hid hO3
      have HG3 := Lib.hid hG3
      clear hH hO2 hG2 hS2 hO3 hG3 HW
      have hbl := hb_lt (r.drop k)
      by_cases hend : k < r.length
      · have e1 : he (r.drop k) = 0 := by unfold he; rw [if_neg (by intro h; have := congrArg List.length h; simp at this; omega)]
        rw [e1]
        have HV : Hid (Inf.val (r.take (k + 1)) = Inf.val (r.take k) + hb (r.drop k) * 2 ^ k) := Lib.hid (by
          have e2 : r.take (k + 1) = r.take k ++ [(r.drop k).headD false] := by
            rw [List.take_add_one, List.getElem?_eq_getElem hend, List.drop_eq_getElem_cons hend]; rfl
          rw [e2, Inf.val_snoc, List.length_take, Nat.min_eq_left (by omega)]; rfl)
        have hx := Inf.val_lt (r.take k)
        rw [List.length_take, Nat.min_eq_left (by omega)] at hx
        have HE := Lib.hid (or_go (Inf.val (r.take k)) k (hb (r.drop k)) hbl hx (by omega))
        rw [← HV.out] at HE
        generalize Inf.val (r.take k) = x at *
        generalize hb (r.drop k) = b at *
        clear hx e1
        go_wp2_with fail
        refine (must_ok _).mono ?_
        rintro e w2 ⟨rfl, rfl⟩
        go_wp2_with fail
        exact ⟨⟨k + 1, by omega, by omega, by go_num, by rw [HE.out], O2, HS2.out, HO3.out, HG3.out⟩, by simp [intOf]; omega⟩
      · have e1 : he (r.drop k) = 4 := by unfold he; rw [if_pos (List.drop_eq_nil_of_le (by omega))]
        rw [e1]
        have HE : Hid (Inf.numb many r = .error 4) := Lib.hid (by unfold Inf.numb; rw [if_neg (by omega)])
        generalize hb (r.drop k) = b at *
        generalize Inf.val (r.take k) = x at *
        go_wp2_with fail
        refine (must_no _ 4 (by decide)).mono ?_
        rintro e w2 ⟨rfl, rfl⟩
        go_wp2_with fail
        exact ⟨rfl, HO3.out, by rw [HE.out]⟩
    · have hlti : (many : Int) ≤ (k : Int) := by omega
      obtain rfl : k = many := by omega
      have HE : Hid (Inf.numb k r = .ok (Inf.val (r.take k), r.drop k)) := Lib.hid (by unfold Inf.numb; rw [if_pos hkr])
      clear hS hO hG
      go_wp2_with fail
      go_ret
      exact ⟨HO.out, by rw [HE.out]; exact ⟨rfl, O1, HS.out, HG.out⟩⟩
/-- A book in memory, apart from the source's own blocks. -/
structure BkAt (w : World) (O : Nat → Prop) (gk : Nat) (zs : List Int) : Prop where
  book : ∃ lo hi, BookAt w lo hi gk zs ∧ (∀ i, lo ≤ i → i < hi → ¬ O i) ∧ hi ≤ w.heap.size
  deep : Hf.deep zs ≤ 15
  len : zs.length ≤ 1024
theorem BkAt.next {w w' : World} {O O' : Nat → Prop} {gk : Nat} {zs : List Int} (h : BkAt w O gk zs) (ho : OnlyS O w w') (hg : Grew w O O') : BkAt w' O' gk zs := by
  obtain ⟨lo, hi, hb, ha, hh⟩ := h.book
  exact ⟨⟨lo, hi, hb.only ho ha, fun i h1 h2 => hg.not (ha i h1 h2) (by omega), Nat.le_trans hh ho.size⟩, h.deep, h.len⟩
set_option maxRecDepth 100000 in
set_option maxHeartbeats 1000000 in
theorem symbol_walk (w : World) (B : Nat) (O : Nat → Prop) (gt gb g gk : Nat) (zs : List Int) (r : List Bool) (h : StB w B O gt gb g r) (hk : BkAt w O gk zs) :
    Calls Tryd.prog 64 #[.pointer (some ⟨gt, 0, none⟩), .pointer (some ⟨gk, 0, none⟩)] w (RPost (Inf.symb zs r) iv B O gt gb g w) := by
  obtain ⟨lo, hi, hb, ha, hh⟩ := hk.book
  have HN := Lib.hid (Next_walk w B O gb g gk lo hi zs r hb hk.deep h.hand ha hh hk.len)
  have HS := Lib.hid h
  have c1 := h.c1
  clear hb ha hh hk h
  unfold hand at c1 HN
  go_enter Tryd.func64, Tryd.ntmps64
  go_wp2_with fail
  refine HN.out.mono ?_
  rintro e w1 ⟨rfl, O', hH, hO, hG⟩
  have HQ : Hid (RPost (Inf.symb zs r) iv B O gt gb g w (if (Hf.rd zs (Hf.deep zs) 0 0 r).2.1 = 0 then .returned (iv (Hf.rd zs (Hf.deep zs) 0 0 r).1) else pan (Hf.rd zs (Hf.deep zs) 0 0 r).2.1) w1) := Lib.hid (by
    refine ⟨hO, ?_⟩
    unfold Inf.symb
    by_cases h0 : (Hf.rd zs (Hf.deep zs) 0 0 r).2.1 = 0
    · rw [if_pos h0, if_pos h0]; exact ⟨rfl, O', HS.out.next hH hO hG, hG⟩
    · rw [if_neg h0, if_neg h0])
  obtain ⟨q, hq⟩ : ∃ q, q = Hf.rd zs (Hf.deep zs) 0 0 r := ⟨_, rfl⟩
  rw [← hq] at HQ ⊢
  clear hq hH hO hG HN
  obtain ⟨s, e, t⟩ := q
  simp only at HQ ⊢
  by_cases he : e = 0
  · subst he
    rw [if_pos rfl] at HQ
    go_wp2_with fail
    refine (must_ok _).mono ?_
    rintro e w2 ⟨rfl, rfl⟩
    go_wp2_with fail
    go_ret
    exact HQ.out
  · rw [if_neg he] at HQ
    go_wp2_with fail
    refine (must_no _ e he).mono ?_
    rintro e w2 ⟨rfl, rfl⟩
    go_wp2_with fail
    exact ⟨rfl, HQ.out⟩
theorem RPost.before {α : Type} {res : Inf.Res α} {V : α → Value} {B : Nat} {O O1 : Nat → Prop} {gt gb g : Nat} {w w1 : World} {e : Ending} {w' : World} (h : RPost res V B O1 gt gb g w1 e w') (ho : OnlyS O w w1) (hg : Grew w O O1) : RPost res V B O gt gb g w e w' := by
  refine ⟨ho.trans' h.1 (fun i hi => hg i hi), ?_⟩
  have h2 := h.2
  cases res with
  | error er => exact h2
  | ok p => obtain ⟨he, O', hs, hg2⟩ := h2; exact ⟨he, O', hs, hg.trans hg2 ho.size⟩
set_option maxRecDepth 100000 in
set_option maxHeartbeats 1000000 in
theorem scaled2 (w : World) (B : Nat) (O : Nat → Prop) (gt gb g s : Nat) (r : List Bool) (h : StB w B O gt gb g r) (hs : s ≤ 29) :
    Calls Tryd.prog 83 #[.pointer (some ⟨gt, 0, none⟩), .int .i64 (s : Int), .int .i64 2] w (RPost (Inf.scal 2 s r) iv B O gt gb g w) := by
  have HS := Lib.hid h
  by_cases hlt : s < 2
  · have HE : Hid (Inf.scal 2 s r = .ok (s, r)) := Lib.hid (by unfold Inf.scal; rw [if_pos hlt])
    have hlti : (s : Int) < 2 := by omega
    clear h
    go_enter Tryd.func83, Tryd.ntmps83
    go_wp2_with fail
    go_ret
    exact ⟨OnlyS.refl _ _, by rw [HE.out]; exact ⟨rfl, O, HS.out, Grew.refl _ _⟩⟩
  · obtain ⟨m, hm⟩ : ∃ m, m = s / 2 - 1 := ⟨_, rfl⟩
    have hlti : (2 : Int) ≤ (s : Int) := by omega
    have hmi : (s : Int) / 2 - 1 = (m : Int) := by omega
    have hm2 : m ≤ 14 := by omega
    obtain ⟨y, hy⟩ : ∃ y, y = (2 + s % 2) * 2 ^ m := ⟨_, rfl⟩
    have hp : 2 ^ m ≤ 2 ^ 14 := Nat.pow_le_pow_right (by decide) hm2
    have hp2 : (2 : Nat) ^ 14 = 16384 := by decide
    have hyb : y ≤ 8 * 16384 := by
      rw [hy]; exact Nat.mul_le_mul (by omega) (by omega)
    have hyi : IntKind.i64.wrap (IntKind.i64.wrap (2 + (s : Int).tmod 2) * 2 ^ m) = (y : Int) := by
      have e1 : (s : Int).tmod 2 = ((s % 2 : Nat) : Int) := by rw [Int.tmod_eq_emod_of_nonneg (by omega)]; omega
      have e2 : IntKind.i64.wrap (2 + ((s % 2 : Nat) : Int)) = ((2 + s % 2 : Nat) : Int) := by rw [IntWalk.i64_in _ (by omega)]; omega
      have e3 : ((2 + s % 2 : Nat) : Int) * 2 ^ m = (y : Int) := by rw [hy, Int.natCast_mul, Int.natCast_pow]; rfl
      rw [e1, e2, e3]
      exact IntWalk.i64_in _ (by omega)
    have HN : Hid (∀ W, OnlyS (fun _ => False) w W → Calls Tryd.prog 40 #[.pointer (some ⟨gt, 0, none⟩), .int .i64 (m : Int)] W (RPost (Inf.numb m r) iv B O gt gb g w)) := Lib.hid fun W hW => (number_walk W B O gt gb g m r (h.same hW) (by omega)).mono fun e w' hr => hr.before (hW.mono (fun _ _ h => h.elim)) (Grew.refl _ _)
    have HE : Hid (Inf.scal 2 s r = match Inf.numb m r with | .ok (x, r) => .ok (y + x, r) | .error e => .error e) := Lib.hid (by unfold Inf.scal; rw [if_neg hlt, ← hm, hy]; cases Inf.numb m r <;> rfl)
    have HX : Hid (∀ x r', Inf.numb m r = .ok (x, r') → x < 2 ^ 14) := Lib.hid fun x r' hx => by
      unfold Inf.numb at hx
      split at hx
      · cases hx
        have := Inf.val_lt (r.take m)
        rw [List.length_take] at this
        have : 2 ^ min m r.length ≤ 2 ^ 14 := Nat.pow_le_pow_right (by decide) (by omega)
        omega
      · cases hx
    clear h hm hy hp hp2 hlt
    cases hres : Inf.numb m r with
    | error er =>
      rw [hres] at HN HE
      have HRes := Lib.hid hres
      clear hres
      go_enter Tryd.func83, Tryd.ntmps83
      go_wp2_with fail
      go_region_dies
      all_goals (go_at_call 40; refine (HN.out _ (OnlyS.drew _)).mono ?_; rintro e w1 ⟨ho, rfl⟩; exact ⟨rfl, ho, by rw [HE.out]⟩)
    | ok p =>
      obtain ⟨x, r'⟩ := p
      have hx := HX.out x r' hres
      have hs1 : IntKind.i64.wrap ((y : Int) + (x : Int)) = ((y + x : Nat) : Int) := by rw [IntWalk.i64_in _ (by omega)]; rfl
      rw [hres] at HN HE
      have HRes := Lib.hid hres
      clear hres
      go_enter Tryd.func83, Tryd.ntmps83
      go_wp2_with fail
      unfold iv at HN
      go_region_held3 (fun _ => True) (trivial) (first | (go_at_call 40; refine (HN.out _ (OnlyS.drew _)).mono ?_; rintro e w1 ⟨ho, rfl, hss⟩; have HO := Lib.hid ho; have HSS := Lib.hid hss; clear ho hss))
      go_wp2_with fail
      go_ret
      exact ⟨HO.out, by rw [HE.out]; exact ⟨rfl, HSS.out⟩⟩
set_option maxRecDepth 100000 in
set_option maxHeartbeats 1000000 in
theorem scaled4 (w : World) (B : Nat) (O : Nat → Prop) (gt gb g s : Nat) (r : List Bool) (h : StB w B O gt gb g r) (hs : s ≤ 29) :
    Calls Tryd.prog 83 #[.pointer (some ⟨gt, 0, none⟩), .int .i64 (s : Int), .int .i64 4] w (RPost (Inf.scal 4 s r) iv B O gt gb g w) := by
  have HS := Lib.hid h
  by_cases hlt : s < 4
  · have HE : Hid (Inf.scal 4 s r = .ok (s, r)) := Lib.hid (by unfold Inf.scal; rw [if_pos hlt])
    have hlti : (s : Int) < 4 := by omega
    clear h
    go_enter Tryd.func83, Tryd.ntmps83
    go_wp2_with fail
    go_ret
    exact ⟨OnlyS.refl _ _, by rw [HE.out]; exact ⟨rfl, O, HS.out, Grew.refl _ _⟩⟩
  · obtain ⟨m, hm⟩ : ∃ m, m = s / 4 - 1 := ⟨_, rfl⟩
    have hlti : (4 : Int) ≤ (s : Int) := by omega
    have hmi : (s : Int) / 4 - 1 = (m : Int) := by omega
    have hm2 : m ≤ 14 := by omega
    obtain ⟨y, hy⟩ : ∃ y, y = (4 + s % 4) * 2 ^ m := ⟨_, rfl⟩
    have hp : 2 ^ m ≤ 2 ^ 14 := Nat.pow_le_pow_right (by decide) hm2
    have hp2 : (2 : Nat) ^ 14 = 16384 := by decide
    have hyb : y ≤ 8 * 16384 := by
      rw [hy]; exact Nat.mul_le_mul (by omega) (by omega)
    have hyi : IntKind.i64.wrap (IntKind.i64.wrap (4 + (s : Int).tmod 4) * 2 ^ m) = (y : Int) := by
      have e1 : (s : Int).tmod 4 = ((s % 4 : Nat) : Int) := by rw [Int.tmod_eq_emod_of_nonneg (by omega)]; omega
      have e2 : IntKind.i64.wrap (4 + ((s % 4 : Nat) : Int)) = ((4 + s % 4 : Nat) : Int) := by rw [IntWalk.i64_in _ (by omega)]; omega
      have e3 : ((4 + s % 4 : Nat) : Int) * 2 ^ m = (y : Int) := by rw [hy, Int.natCast_mul, Int.natCast_pow]; rfl
      rw [e1, e2, e3]
      exact IntWalk.i64_in _ (by omega)
    have HN : Hid (∀ W, OnlyS (fun _ => False) w W → Calls Tryd.prog 40 #[.pointer (some ⟨gt, 0, none⟩), .int .i64 (m : Int)] W (RPost (Inf.numb m r) iv B O gt gb g w)) := Lib.hid fun W hW => (number_walk W B O gt gb g m r (h.same hW) (by omega)).mono fun e w' hr => hr.before (hW.mono (fun _ _ h => h.elim)) (Grew.refl _ _)
    have HE : Hid (Inf.scal 4 s r = match Inf.numb m r with | .ok (x, r) => .ok (y + x, r) | .error e => .error e) := Lib.hid (by unfold Inf.scal; rw [if_neg hlt, ← hm, hy]; cases Inf.numb m r <;> rfl)
    have HX : Hid (∀ x r', Inf.numb m r = .ok (x, r') → x < 2 ^ 14) := Lib.hid fun x r' hx => by
      unfold Inf.numb at hx
      split at hx
      · cases hx
        have := Inf.val_lt (r.take m)
        rw [List.length_take] at this
        have : 2 ^ min m r.length ≤ 2 ^ 14 := Nat.pow_le_pow_right (by decide) (by omega)
        omega
      · cases hx
    clear h hm hy hp hp2 hlt
    cases hres : Inf.numb m r with
    | error er =>
      rw [hres] at HN HE
      have HRes := Lib.hid hres
      clear hres
      go_enter Tryd.func83, Tryd.ntmps83
      go_wp2_with fail
      go_region_dies
      all_goals (go_at_call 40; refine (HN.out _ (OnlyS.drew _)).mono ?_; rintro e w1 ⟨ho, rfl⟩; exact ⟨rfl, ho, by rw [HE.out]⟩)
    | ok p =>
      obtain ⟨x, r'⟩ := p
      have hx := HX.out x r' hres
      have hs1 : IntKind.i64.wrap ((y : Int) + (x : Int)) = ((y + x : Nat) : Int) := by rw [IntWalk.i64_in _ (by omega)]; rfl
      rw [hres] at HN HE
      have HRes := Lib.hid hres
      clear hres
      go_enter Tryd.func83, Tryd.ntmps83
      go_wp2_with fail
      unfold iv at HN
      go_region_held3 (fun _ => True) (trivial) (first | (go_at_call 40; refine (HN.out _ (OnlyS.drew _)).mono ?_; rintro e w1 ⟨ho, rfl, hss⟩; have HO := Lib.hid ho; have HSS := Lib.hid hss; clear ho hss))
      go_wp2_with fail
      go_ret
      exact ⟨HO.out, by rw [HE.out]; exact ⟨rfl, HSS.out⟩⟩
end Go.Proofs.YtefeilgbofphjaaDoor
/-
  Contracts of long, far.
-/
namespace Go.Proofs.YtefeilgbofphjaaDoor
open Go.RowKit
theorem numb_lt {m : Nat} {r r' : List Bool} {x : Nat} (h : Inf.numb m r = .ok (x, r')) : x < 2 ^ m := by
  unfold Inf.numb at h
  split at h
  · cases h
    have := Inf.val_lt (r.take m)
    rwa [List.length_take, Nat.min_eq_left (by assumption)] at this
  · cases h
theorem scal_lt {g s : Nat} {r r' : List Bool} {x : Nat} (hg : g = 2 ∨ g = 4) (hs : s ≤ 29) (h : Inf.scal g s r = .ok (x, r')) : x < 131072 := by
  unfold Inf.scal at h
  split at h
  · cases h; omega
  · cases hn : Inf.numb (s / g - 1) r with
    | error e => rw [hn] at h; cases h
    | ok p =>
      obtain ⟨y, r2⟩ := p
      rw [hn] at h
      cases h
      have h1 := numb_lt hn
      have h2 : 2 ^ (s / g - 1) ≤ 2 ^ 13 := Nat.pow_le_pow_right (by decide) (by rcases hg with rfl | rfl <;> omega)
      have h3 : (2 : Nat) ^ 13 = 8192 := by decide
      have h4 : s % g < 4 := by rcases hg with rfl | rfl <;> omega
      have h5 : (g + s % g) * 2 ^ (s / g - 1) ≤ 8 * 2 ^ 13 := Nat.mul_le_mul (by rcases hg with rfl | rfl <;> omega) h2
      omega
set_option maxRecDepth 100000 in
set_option maxHeartbeats 1000000 in
theorem long_walk (w : World) (B : Nat) (O : Nat → Prop) (gt gb g s : Nat) (r : List Bool) (h : StB w B O gt gb g r) (hs : 257 ≤ s) (hs2 : s ≤ 1024) :
    Calls Tryd.prog 66 #[.pointer (some ⟨gt, 0, none⟩), .int .i64 (s : Int)] w (RPost (Inf.long s r) iv B O gt gb g w) := by
  have HS := Lib.hid h
  by_cases h1 : 285 < s
  · have HE : Hid (Inf.long s r = .error 20) := Lib.hid (by unfold Inf.long; rw [if_pos h1])
    have hd : decide ((285 : Int) < (s : Int)) = true := by simp; omega
    clear h
    go_enter Tryd.func66, Tryd.ntmps66
    go_wp2_with fail
    refine (refuse_yes _ 20).mono ?_
    rintro e w1 ⟨rfl, rfl⟩
    go_wp2_with fail
    exact ⟨rfl, OnlyS.refl _ _, by rw [HE.out]⟩
  · have hd : decide ((285 : Int) < (s : Int)) = false := by simp; omega
    by_cases h2 : s = 285
    · subst h2
      have HE : Hid (Inf.long 285 r = .ok (258, r)) := Lib.hid (by unfold Inf.long; rw [if_neg (by omega), if_pos rfl])
      clear h
      go_enter Tryd.func66, Tryd.ntmps66
      go_wp2_with fail
      refine (refuse_no _ 20).mono ?_
      rintro e w1 ⟨rfl, rfl⟩
      go_wp2_with fail
      go_ret
      exact ⟨OnlyS.refl _ _, by rw [HE.out]; exact ⟨rfl, O, HS.out, Grew.refl _ _⟩⟩
    · obtain ⟨k, hk0⟩ : ∃ k, k = s - 257 := ⟨_, rfl⟩
      have hd2 : ((s : Int) == 285) = false := by simp; omega
      have hk : (s : Int) - 256 - 1 = (k : Int) := by omega
      have HC := Lib.hid (scaled4 w B O gt gb g k r h (by omega))
      have HE : Hid (Inf.long s r = match Inf.scal 4 k r with | .ok (x, r) => .ok (3 + x, r) | .error e => .error e) := Lib.hid (by unfold Inf.long; rw [if_neg h1, if_neg h2, ← hk0]; cases Inf.scal 4 k r <;> rfl)
      cases hres : Inf.scal 4 k r with
      | error er =>
        rw [hres] at HC HE
        clear h hres hk0 h1 h2
        go_enter Tryd.func66, Tryd.ntmps66
        go_wp2_with fail
        refine (refuse_no _ 20).mono ?_
        rintro e w1 ⟨rfl, rfl⟩
        go_wp2_with fail
        refine HC.out.mono ?_
        rintro e w1 ⟨ho, rfl⟩
        have HO := Lib.hid ho
        clear ho
        go_wp2_with fail
        exact ⟨rfl, HO.out, by rw [HE.out]⟩
      | ok p =>
        obtain ⟨x, r'⟩ := p
        have hx := scal_lt (.inr rfl) (by omega) hres
        rw [hres] at HC HE
        unfold iv at HC
        clear h hres hk0 h1 h2
        go_enter Tryd.func66, Tryd.ntmps66
        go_wp2_with fail
        refine (refuse_no _ 20).mono ?_
        rintro e w1 ⟨rfl, rfl⟩
        go_wp2_with fail
        refine HC.out.mono ?_
        rintro e w1 ⟨ho, rfl, hss⟩
        have HO := Lib.hid ho
        have HSS := Lib.hid hss
        clear ho hss
        go_wp2_with fail
        go_ret
        exact ⟨HO.out, by rw [HE.out]; exact ⟨rfl, HSS.out⟩⟩
set_option maxRecDepth 100000 in
set_option maxHeartbeats 1000000 in
theorem far_walk (w : World) (B : Nat) (O : Nat → Prop) (gt gb g gk : Nat) (ds : List Int) (r : List Bool) (h : StB w B O gt gb g r) (hk : BkAt w O gk ds) :
    Calls Tryd.prog 82 #[.pointer (some ⟨gt, 0, none⟩), .pointer (some ⟨gk, 0, none⟩)] w (RPost (Inf.far ds r) iv B O gt gb g w) := by
  have HC := Lib.hid (symbol_walk w B O gt gb g gk ds r h hk)
  have HE : Hid (Inf.far ds r = match Inf.symb ds r with | .ok (s, r) => if 29 < s then .error 20 else (match Inf.scal 2 s r with | .ok (x, r) => .ok (1 + x, r) | .error e => .error e) | .error e => .error e) := Lib.hid (by
    unfold Inf.far
    cases Inf.symb ds r with
    | error e => rfl
    | ok p => obtain ⟨s, r⟩ := p; simp only; split <;> rfl)
  cases hres : Inf.symb ds r with
  | error er =>
    rw [hres] at HC HE
    clear h hk hres
    go_enter Tryd.func82, Tryd.ntmps82
    go_wp2_with fail
    refine HC.out.mono ?_
    rintro e w1 ⟨ho, rfl⟩
    have HO := Lib.hid ho
    clear ho
    go_wp2_with fail
    exact ⟨rfl, HO.out, by rw [HE.out]⟩
  | ok p =>
    obtain ⟨s, r1⟩ := p
    rw [hres] at HC HE
    simp only at HE
    unfold iv at HC
    clear h hk hres
    go_enter Tryd.func82, Tryd.ntmps82
    go_wp2_with fail
    refine HC.out.mono ?_
    rintro e w1 ⟨ho, rfl, O1, hs1, hg1⟩
    have HO := Lib.hid ho
    have HG := Lib.hid hg1
    by_cases h1 : 29 < s
    · have HE2 := HE.out
      rw [if_pos h1] at HE2
      have HE := Lib.hid HE2
      have hd : decide ((29 : Int) < (s : Int)) = true := by simp; omega
      clear HE2 ho hs1 hg1
      go_wp2_with fail
      refine (refuse_yes _ 20).mono ?_
      rintro e w1 ⟨rfl, rfl⟩
      go_wp2_with fail
      exact ⟨rfl, HO.out, by rw [HE.out]⟩
    · have HE2 := HE.out
      rw [if_neg h1] at HE2
      have HE := Lib.hid HE2
      have hd : decide ((29 : Int) < (s : Int)) = false := by simp; omega
      have HC := Lib.hid (scaled2 w1 B O1 gt gb g s r1 hs1 (by omega))
      cases hres : Inf.scal 2 s r1 with
      | error er =>
        rw [hres] at HC HE
        clear ho hs1 hg1 HE2 hres
        go_wp2_with fail
        refine (refuse_no _ 20).mono ?_
        rintro e w2 ⟨rfl, rfl⟩
        go_wp2_with fail
        refine HC.out.mono ?_
        rintro e w3 hq
        have HQ := Lib.hid (hq.before HO.out HG.out)
        obtain ⟨_, rfl⟩ := hq
        go_wp2_with fail
        exact ⟨rfl, HQ.out.1, by rw [HE.out]⟩
      | ok p =>
        obtain ⟨x, r'⟩ := p
        have hx := scal_lt (.inl rfl) (by omega) hres
        rw [hres] at HC HE
        clear ho hs1 hg1 HE2 hres
        go_wp2_with fail
        refine (refuse_no _ 20).mono ?_
        rintro e w2 ⟨rfl, rfl⟩
        go_wp2_with fail
        refine HC.out.mono ?_
        rintro e w3 hq
        have HQ := Lib.hid (hq.before HO.out HG.out)
        obtain ⟨_, rfl, _⟩ := hq
        unfold iv
        go_wp2_with fail
        go_ret
        exact ⟨HQ.out.1, by rw [HE.out]; exact ⟨rfl, HQ.out.2.2⟩⟩
end Go.Proofs.YtefeilgbofphjaaDoor
