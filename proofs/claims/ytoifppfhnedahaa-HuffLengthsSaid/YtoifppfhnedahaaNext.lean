/-
  The contracts of feed.bit, of what Next hands to find, of find and of Next.
-/
import Derived.Test.YtoifppfhnedahaaCodes
import Derived.Defers
import Derived.Recover
import Derived.Laws.Pointers
namespace Go.Proofs.Ytoifppfhnedahaa
open Go.RowKit Hf

/-- A feed: its bits, and where it is. -/
structure FeedAt (w : World) (g : Nat) (v : Value) (l : List Bool) (k : Nat) : Prop where
  row : w.heap[g]? = some (.cells #[v, .int .i64 (k : Int)] 50 (0, 0))
  sl : SlV w v (nb l)
  le : k ≤ l.length
  small : l.length ≤ 1099511627776
  apart : ∀ p n cap, v = .slice (some p) n cap → 0 < n → p.block ≠ g
theorem FeedAt.c0 {w : World} {g : Nat} {v : Value} {l : List Bool} {k : Nat} (h : FeedAt w g v l k) : w.cell? ⟨g, 0, none⟩ = some v := cell_of_row _ _ _ _ _ _ h.row
theorem FeedAt.c1 {w : World} {g : Nat} {v : Value} {l : List Bool} {k : Nat} (h : FeedAt w g v l k) : w.cell? ⟨g, 1, none⟩ = some (.int .i64 (k : Int)) := cell_of_row _ _ _ _ _ _ h.row
theorem FeedAt.free {w : World} {g : Nat} {v : Value} {l : List Bool} {k : Nat} (h : FeedAt w g v l k) (o : Nat) : w.frozen? ⟨g, o, none⟩ = false := frozen_of_row _ _ _ _ _ h.row
theorem FeedAt.lt {w : World} {g : Nat} {v : Value} {l : List Bool} {k : Nat} (h : FeedAt w g v l k) : g < w.heap.size := (Array.getElem?_eq_some_iff.1 h.row).1
theorem SlV.only {S : Nat → Prop} {w w' : World} {v : Value} {vs : List Value} (h : SlV w v vs) (ho : OnlyS S w w') (ha : ∀ p n cap, v = .slice (Option.some p) n cap → 0 < n → ¬ S p.block) : SlV w' v vs := by
  rcases h with ⟨g, o, cap, h1, h2, h3⟩ | h
  · refine .inl ⟨g, o, cap, h1, h2, ?_⟩
    intro i u hi
    have h0 : 0 < vs.length := by have := (List.getElem?_eq_some_iff.1 hi).1; omega
    exact ho.cell (h3 i u hi) (ha ⟨g, o, none⟩ _ _ h1 h0)
  · exact .inr h
/-- Whatever leaves the feed's block and its bits. -/
theorem FeedAt.only {S : Nat → Prop} {w w' : World} {g : Nat} {v : Value} {l : List Bool} {k : Nat} (h : FeedAt w g v l k) (ho : OnlyS S w w') (hg : ¬ S g) (ha : ∀ p n cap, v = .slice (some p) n cap → 0 < n → ¬ S p.block) : FeedAt w' g v l k :=
  ⟨(ho.block g h.lt hg).trans h.row, h.sl.only ho ha, h.le, h.small, h.apart⟩
theorem FeedAt.step {w : World} {g : Nat} {v : Value} {l : List Bool} {k : Nat} (h : FeedAt w g v l k) (hk : k < l.length) : FeedAt (w.setCell ⟨g, 1, none⟩ (.int .i64 ((k + 1 : Nat) : Int))) g v l (k + 1) :=
  ⟨(heap_setCell_same _ _ _ _ _ _ h.row).trans rfl, h.sl.only (S := (· = g)) (OnlyS.setCell _ _ _ _ rfl) h.apart, hk, h.small, h.apart⟩
theorem OnlyS.drewN {S : Nat → Prop} (w : World) (n : Nat) : OnlyS S w (w.drewN n) := ⟨rfl, rfl, rfl, Nat.le_refl _, fun _ _ _ => rfl⟩
theorem FeedAt.drewN {w : World} {g : Nat} {v : Value} {l : List Bool} {k : Nat} (h : FeedAt w g v l k) (n : Nat) : FeedAt (w.drewN n) g v l k := ⟨h.row, h.sl, h.le, h.small, h.apart⟩
/-- What a call of bit tells, and where it leaves the feed. -/
def bitOf (l : List Bool) (k : Nat) : Nat := (l.getD k false).toNat
def errOf (l : List Bool) (k : Nat) : Int := if k < l.length then 0 else 4
def nextOf (l : List Bool) (k : Nat) : Nat := if k < l.length then k + 1 else k
def BitPost (g : Nat) (v : Value) (l : List Bool) (k : Nat) (w : World) (e : Ending) (w' : World) : Prop :=
  e = .returned (.tuple #[.int .u32 (bitOf l k : Nat), .int .i64 (errOf l k)]) ∧ FeedAt w' g v l (nextOf l k) ∧ OnlyS (· = g) w w'
set_option maxRecDepth 100000 in
set_option maxHeartbeats 1000000 in
theorem bit_walk (w : World) (g : Nat) (v : Value) (l : List Bool) (k : Nat) (h : FeedAt w g v l k) :
    Calls Try.prog 24 #[.pointer (some ⟨g, 0, none⟩)] w (BitPost g v l k w) := by
  have HF := Lib.hid h
  have h0 := h.c0
  have h1 := h.c1
  have hf := h.free 1
  have hsm := h.small
  obtain ⟨p, cap, rfl⟩ := h.sl.shape
  rw [nb_length] at *
  by_cases hk : k < l.length
  · obtain ⟨gz, o, rfl, hrow⟩ := h.sl.some (by omega)
    have hcap := h.sl.le
    have hc := hrow.nb k hk
    have hne := h.apart _ _ _ rfl (by omega)
    simp only at hne
    have HS := fun n => (h.drewN n).step hk
    have HS := Lib.hid HS
    have HP : Hid ((bitOf l k : Int) = ((l.getD k false).toNat : Int) ∧ errOf l k = 0 ∧ nextOf l k = k + 1) := Lib.hid ⟨rfl, by unfold errOf; rw [if_pos hk], by unfold nextOf; rw [if_pos hk]⟩
    generalize l.getD k false = b at *
    generalize hn : l.length = n at *
    have HN := Lib.hid hn
    clear hn
    have hc' : ∀ m, ((w.drewN m).setCell ⟨g, 1, none⟩ (.int .i64 ((k : Int) + 1))).cell? ⟨gz, o + k, none⟩ = some (.bool b) := fun m => by
      rw [World.cell?_setCell_other _ _ _ _ (by intro e; simp only [Addr.mk.injEq] at e; exact hne e.1.symm)]; exact hc
    clear h hrow hc
    have hki : (k : Int) < (n : Int) := by omega
    cases b with
    | true =>
      go_enter Try.func24, Try.ntmps24
      go_wp2_with fail
      go_quiet (fail)
      have hc2 := hc' nq
      clear hc'
      go_wp2_with fail
      go_quiet (fail)
      go_wp2_with fail
      go_ret2
      exact ⟨by rw [HP.out.1, HP.out.2.1]; rfl, by rw [HP.out.2.2]; exact (HS.out _).drewN _, ((OnlyS.drewN w _).trans (OnlyS.setCell (S := (· = g)) _ _ _ _ rfl)).trans (OnlyS.drewN _ _)⟩
    | false =>
      go_enter Try.func24, Try.ntmps24
      go_wp2_with fail
      go_quiet (fail)
      have hc2 := hc' nq
      clear hc'
      go_wp2_with fail
      go_quiet (fail)
      go_wp2_with fail
      go_ret2
      exact ⟨by rw [HP.out.1, HP.out.2.1]; rfl, by rw [HP.out.2.2]; exact (HS.out _).drewN _, ((OnlyS.drewN w _).trans (OnlyS.setCell (S := (· = g)) _ _ _ _ rfl)).trans (OnlyS.drewN _ _)⟩
  · have HP : Hid ((bitOf l k : Int) = 0 ∧ errOf l k = 4 ∧ nextOf l k = k) := Lib.hid ⟨by unfold bitOf; simp [hk], by unfold errOf; rw [if_neg hk], by unfold nextOf; rw [if_neg hk]⟩
    have hki : (l.length : Int) ≤ (k : Int) := by omega
    clear h
    generalize hn : l.length = n at *
    have HN := Lib.hid hn
    clear hn
    go_enter Try.func24, Try.ntmps24
    go_wp2_with fail
    go_quiet (fail)
    go_wp2_with fail
    go_ret2
    exact ⟨by rw [HP.out.1, HP.out.2.1]; rfl, by rw [HP.out.2.2]; exact HF.out.drewN _, OnlyS.drewN _ _⟩
/-- One value in a block of its own. -/
def BoxAt (w : World) (g : Nat) (x : Value) (T : TypeId) : Prop := w.heap[g]? = some (.cells #[x] T (0, 0))
theorem BoxAt.cell {w : World} {g : Nat} {x : Value} {T : TypeId} (h : BoxAt w g x T) : w.cell? ⟨g, 0, none⟩ = some x := cell_of_row _ _ _ _ _ _ h
theorem BoxAt.free {w : World} {g : Nat} {x : Value} {T : TypeId} (h : BoxAt w g x T) : w.frozen? ⟨g, 0, none⟩ = false := frozen_of_row _ _ _ _ _ h
theorem BoxAt.lt {w : World} {g : Nat} {x : Value} {T : TypeId} (h : BoxAt w g x T) : g < w.heap.size := (Array.getElem?_eq_some_iff.1 h).1
theorem BoxAt.only {S : Nat → Prop} {w w' : World} {g : Nat} {x : Value} {T : TypeId} (h : BoxAt w g x T) (ho : OnlyS S w w') (hg : ¬ S g) : BoxAt w' g x T := (ho.block g h.lt hg).trans h
theorem BoxAt.set {w : World} {g : Nat} {x : Value} {T : TypeId} (h : BoxAt w g x T) (y : Value) : BoxAt (w.setCell ⟨g, 0, none⟩ y) g y T := (heap_setCell_same _ _ _ _ _ _ h).trans rfl
theorem BoxAt.new (w : World) (x : Value) (T : TypeId) : BoxAt (w.alloc (.cells #[x] T)) w.heap.size x T := heap_alloc_new _ _
theorem bitOf_lt (l : List Bool) (k : Nat) : bitOf l k < 2 := by unfold bitOf; cases l.getD k false <;> decide
theorem shift_or (c b : Nat) (hc : c < 2147483648) (hb : b < 2) : bits .or .u32 ((c : Int) * 2) (bits .and .u32 (b : Int) 1) = ((2 * c + b : Nat) : Int) := by
  rw [show (1 : Int) = ((1 : Nat) : Int) from rfl, u32_and_nat _ _ (by omega) (by decide), Nat.and_one_is_mod, show (c : Int) * 2 = ((c * 2 : Nat) : Int) by omega, u32_or_nat _ _ (by omega) (by omega), Nat.mod_eq_of_lt hb, Nat.mul_comm, or_bit _ _ hb]
def LongerPost (gc gf : Nat) (v : Value) (l : List Bool) (k c : Nat) (w : World) (e : Ending) (w' : World) : Prop :=
  e = .returned (.tuple #[.int .u32 (2 * c + bitOf l k : Nat), .int .i64 (errOf l k)]) ∧ FeedAt w' gf v l (nextOf l k) ∧ BoxAt w' gc (.int .u32 (2 * c + bitOf l k : Nat)) 33 ∧ OnlyS (fun i => i = gf ∨ i = gc) w w'
set_option maxRecDepth 100000 in
set_option maxHeartbeats 1000000 in
theorem longer_walk (w : World) (gb gc gf : Nat) (v : Value) (l : List Bool) (k c : Nat) (h : FeedAt w gf v l k)
    (hb : BoxAt w gb (.func (.func 24) #[.pointer (some ⟨gf, 0, none⟩)] #[]) 52) (hc : BoxAt w gc (.int .u32 (c : Int)) 33) (hne : gc ≠ gf) (hcl : c < 2147483648) (hv : ∀ p n cap, v = .slice (some p) n cap → 0 < n → p.block ≠ gc) :
    Calls Try.prog 39 #[.pointer (some ⟨gb, 0, none⟩), .pointer (some ⟨gc, 0, none⟩)] w (LongerPost gc gf v l k c w) := by
  have HB := Lib.hid (bit_walk w gf v l k h)
  have HC := Lib.hid hc
  have HV := Lib.hid hv
  have hb1 := hb.cell
  clear hc hb hv h
  have HE := Lib.hid (shift_or c (bitOf l k) hcl (bitOf_lt l k))
  have HN := Lib.hid hne
  clear hne
  go_enter Try.func39, Try.ntmps39
  go_wp2_with fail
  refine HB.out.mono ?_
  rintro e w1 ⟨rfl, hF, hO⟩
  have HC1 := Lib.hid (HC.out.only hO HN.out)
  have HF := Lib.hid hF
  have HO := Lib.hid hO
  have hc := HC1.out.cell
  have hz := HC1.out.free
  clear hF hO HB
  go_wp2_with fail
  rw [HE.out]
  go_ret2
  refine ⟨rfl, ?_, HC1.out.set _, (HO.out.mono fun _ _ h => .inl h).trans (OnlyS.setCell _ _ _ _ (.inr rfl))⟩
  exact HF.out.only (S := (· = gc)) (OnlyS.setCell _ _ _ _ rfl) (fun e => HN.out e.symm) HV.out

/-- The symbols of a length, as numbers. -/
def pl (zs : List Int) (n : Nat) : List Int := (places zs n).map fun (i : Nat) => (i : Int)
/-- A book of these lengths; all its blocks from lo on, below hi. -/
structure BookAt (w : World) (lo hi g : Nat) (zs : List Int) : Prop where
  c0 : w.cell? ⟨g, 0, none⟩ = some (.int .i64 (deep zs : Int))
  cf : ∀ n, n < 16 → w.cell? ⟨g, 1 + n, none⟩ = some (.int .u32 ((F zs n : Nat) : Int))
  cs : ∀ n, 0 < n → n < 16 → ∃ v, w.cell? ⟨g, 17 + n, none⟩ = some v ∧ SlV w v (ni (pl zs n)) ∧ ∀ p m cap, v = .slice (some p) m cap → 0 < m → lo ≤ p.block ∧ p.block < hi
  glo : lo ≤ g
  ghi : g < hi
theorem BookAt.only {S : Nat → Prop} {w w' : World} {lo hi g : Nat} {zs : List Int} (h : BookAt w lo hi g zs) (ho : OnlyS S w w') (hS : ∀ i, lo ≤ i → i < hi → ¬ S i) : BookAt w' lo hi g zs :=
  ⟨ho.cell h.c0 (hS _ h.glo h.ghi), fun n hn => ho.cell (h.cf n hn) (hS _ h.glo h.ghi), fun n h0 hn => by
    obtain ⟨v, h1, h2, h3⟩ := h.cs n h0 hn
    exact ⟨v, ho.cell h1 (hS _ h.glo h.ghi), h2.only ho (fun p m cap e h0 => hS _ (h3 p m cap e h0).1 (h3 p m cap e h0).2), h3⟩, h.glo, h.ghi⟩
def FindPost (gc gf : Nat) (v : Value) (zs : List Int) (l : List Bool) (k : Nat) (w : World) (e : Ending) (w' : World) : Prop :=
  e = .returned (.tuple #[.int .i64 ((rd zs (deep zs) 0 0 (l.drop k)).1 : Nat), .int .i64 (rd zs (deep zs) 0 0 (l.drop k)).2.1]) ∧ FeedAt w' gf v l (k + (rd zs (deep zs) 0 0 (l.drop k)).2.2) ∧ OnlyS (fun i => i = gf ∨ i = gc) w w'
structure FindRel (w wr : World) (gc gf : Nat) (v : Value) (zs : List Int) (l : List Bool) (k n c : Nat) : Prop where
  rd : rd zs (deep zs) 0 0 (l.drop k) = Hf.rd zs (deep zs - n) n c (l.drop (k + n))
  low : K zs n ≤ c
  high : c < 2 ^ n
  box : BoxAt wr gc (.int .u32 (c : Int)) 33
  feed : FeedAt wr gf v l (k + n)
  only : OnlyS (fun i => i = gf ∨ i = gc) w wr
theorem rd_zero (zs : List Int) (n c : Nat) (bs : List Bool) : rd zs 0 n c bs = (0, 20, n) := by cases bs <;> rfl
theorem rd_end (zs : List Int) (m n c : Nat) : rd zs (m + 1) n c [] = (0, 4, n) := rfl
theorem rd_some (zs : List Int) (m n c s : Nat) (b : Bool) (bs : List Bool) (h : sym zs (n + 1) (2 * c + b.toNat) = some s) : rd zs (m + 1) n c (b :: bs) = (s, 0, n + 1) := by
  rw [rd, h]
theorem rd_none (zs : List Int) (m n c : Nat) (b : Bool) (bs : List Bool) (h : sym zs (n + 1) (2 * c + b.toNat) = none) : rd zs (m + 1) n c (b :: bs) = rd zs m (n + 1) (2 * c + b.toNat) bs := by
  rw [rd, h]
set_option maxRecDepth 100000 in
set_option maxHeartbeats 1000000 in
theorem find_walk (w : World) (lo hi g gb gc gf : Nat) (v : Value) (zs : List Int) (l : List Bool) (k : Nat) (hB : BookAt w lo hi g zs) (hd : deep zs ≤ 15) (h : FeedAt w gf v l k)
    (hb : BoxAt w gb (.func (.func 24) #[.pointer (some ⟨gf, 0, none⟩)] #[]) 52) (hc : BoxAt w gc (.int .u32 0) 33) (hne : gc ≠ gf) (hnb : gb ≠ gf ∧ gb ≠ gc) (hv : ∀ p n cap, v = .slice (some p) n cap → 0 < n → p.block ≠ gc)
    (hf : gf < lo ∨ hi ≤ gf) (hcc : gc < lo ∨ hi ≤ gc) (hl : zs.length ≤ 1024) :
    Calls Try.prog 38 #[.pointer (some ⟨g, 0, none⟩), .func (.func 39) #[] #[.pointer (some ⟨gb, 0, none⟩), .pointer (some ⟨gc, 0, none⟩)]] w (FindPost gc gf v zs l k w) := by
  have H0 : Hid (FindRel w w gc gf v zs l k 0 0) := Lib.hid ⟨rfl, Nat.le_refl _, by simp, hc, h, OnlyS.refl _ _⟩
  have HB := Lib.hid hB
  have Hb := Lib.hid hb
  have HN := Lib.hid (And.intro hne (And.intro hnb (And.intro hv (And.intro hf (And.intro hcc hl)))))
  clear hB h hb hc hne hnb hv hf hcc hl
  go_enter Try.func38, Try.ntmps38
  go_wp2_with fail
  go_loopw [6, 7, 8, 9] (fun v4 _ _ _ wr => ∃ n c : Nat, n ≤ deep zs ∧ v4 = .int .i64 ((n : Int) + 1) ∧ FindRel w wr gc gf v zs l k n c) (fun v4 _ _ _ _ => deep zs + 2 - (intOf v4).toNat)
  case atStart => exact ⟨0, 0, Nat.zero_le _, rfl, H0.out⟩
  case round =>
    clear H0
    obtain ⟨n, c, hn, rfl, hR⟩ := hrel
    have HR := Lib.hid hR
    have HBr := Lib.hid (HB.out.only hR.only (fun i h1 h2 h => by have := HN.out.2.2.2; rcases h with rfl | rfl <;> omega))
    clear hR
    have c0 := HBr.out.c0
    by_cases hlt : n < deep zs
    · have hlti : (n : Int) + 1 ≤ (deep zs : Int) := by omega
      have hL := Lib.hid (longer_walk wr gb gc gf v l (k + n) c HR.out.feed (Hb.out.only HR.out.only (by have := HN.out.2.1; omega)) HR.out.box HN.out.1 (by have h1 := HR.out.high; have : 2 ^ n ≤ 2 ^ 15 := Nat.pow_le_pow_right (by decide) (by omega); have : (2 : Nat) ^ 15 = 32768 := (by decide); omega) HN.out.2.2.1)
      go_wp2_with fail
      refine hL.out.mono ?_
      rintro e w1 ⟨rfl, hF, hBx, hO⟩
      have HF := Lib.hid hF
      have HBx := Lib.hid hBx
      have HO := Lib.hid (HR.out.only.trans hO)
      have HB1 := Lib.hid (HBr.out.only hO (fun i h1 h2 h => by have := HN.out.2.2.2; rcases h with rfl | rfl <;> omega))
      clear hF hBx hO hL HBr
      by_cases hk : k + n < l.length
      · have hdrop : l.drop (k + n) = l.getD (k + n) false :: l.drop (k + n + 1) := by rw [List.drop_eq_getElem_cons hk]; simp [hk]
        have e1 : errOf l (k + n) = 0 := by unfold errOf; rw [if_pos hk]
        have e2 : nextOf l (k + n) = k + n + 1 := by unfold nextOf; rw [if_pos hk]
        have e3 : bitOf l (k + n) = (l.getD (k + n) false).toNat := rfl
        rw [e1, e3]
        rw [e3] at HBx
        rw [e2] at HF
        have hrd := HR.out.rd
        rw [hdrop, show deep zs - n = (deep zs - (n + 1)) + 1 by omega] at hrd
        have hlow := HR.out.low
        have hhigh := HR.out.high
        generalize l.getD (k + n) false = b at *
        have hb2 : b.toNat < 2 := by cases b <;> decide
        obtain ⟨c', hc'⟩ : ∃ c', c' = 2 * c + b.toNat := ⟨_, rfl⟩
        have hFle : F zs (n + 1) ≤ c' := by rw [F_succ]; omega
        have hch : c' < 2 ^ (n + 1) := by rw [Nat.pow_succ]; omega
        have hc32 : c' < 65536 := by
          have : 2 ^ (n + 1) ≤ 2 ^ 16 := Nat.pow_le_pow_right (by decide) (by omega)
          have : (2 : Nat) ^ 16 = 65536 := (by decide)
          omega
        rw [← hc'] at HBx ⊢
        have c1 := HB1.out.cf (n + 1) (by omega)
        obtain ⟨vs, c2, hvs, _⟩ := HB1.out.cs (n + 1) (by omega) (by omega)
        obtain ⟨p, cap, rfl⟩ := hvs.shape
        have HVS := Lib.hid hvs
        clear hvs
        have HRD := Lib.hid hrd
        have HC := Lib.hid hc'
        clear hrd hc' hdrop e1 e2 e3
        have hpl : (ni (pl zs (n + 1))).length = (places zs (n + 1)).length := by simp [pl]
        rw [hpl] at c2 HVS
        have HP := Lib.hid (show sym zs (n + 1) c' = (places zs (n + 1))[c' - F zs (n + 1)]? from by unfold sym; rw [if_pos hFle])
        generalize hf0 : F zs (n + 1) = f at *
        have HF0 := Lib.hid hf0
        clear hf0
        obtain ⟨y, hy⟩ : ∃ y, y = c' - f := ⟨_, rfl⟩
        have hyi : (c' : Int) - (f : Int) = (y : Int) := by omega
        rw [← hy] at HP
        have HY := Lib.hid hy
        clear hy
        by_cases hym : y < (places zs (n + 1)).length
        · have HPS : Hid (sym zs (n + 1) c' = some (places zs (n + 1))[y]) := Lib.hid (by rw [HP.out, List.getElem?_eq_getElem hym])
          obtain ⟨gz, o, rfl, hrow⟩ := HVS.out.some (by omega)
          have hcap := HVS.out.le
          have hc3 := hrow.ni y (by simp [pl]; exact hym)
          rw [show (pl zs (n + 1)).getD y 0 = (((places zs (n + 1))[y] : Nat) : Int) by simp [pl, hym]] at hc3
          clear hrow hpl HP
          have hyi2 : (y : Int) < ((places zs (n + 1)).length : Int) := by omega
          generalize (places zs (n + 1))[y] = sy at *
          generalize (places zs (n + 1)).length = m at *
          have HE := Lib.hid (HRD.out.trans (rd_some zs _ n c sy b _ (by rw [← HC.out]; exact HPS.out)))
          clear HPS HVS HRD
          go_wp2_with fail
          go_ret2
          exact ⟨by rw [HE.out]; rfl, by rw [HE.out]; exact HF.out, HO.out⟩
        · have hyi2 : ((places zs (n + 1)).length : Int) ≤ (y : Int) := by omega
          have HPN : Hid (sym zs (n + 1) c' = none) := Lib.hid (by rw [HP.out, List.getElem?_eq_none (by omega)])
          have HK : Hid (K zs (n + 1) ≤ c') := Lib.hid (by rw [← sym_none zs (n + 1) c' (by omega) (by rw [HF0.out]; exact hFle)]; exact HPN.out)
          have HE := Lib.hid (HRD.out.trans (rd_none zs _ n c b _ (by rw [← HC.out]; exact HPN.out)))
          generalize (places zs (n + 1)).length = m at *
          clear HVS HRD HP HPN
          go_wp2_with fail
          refine ⟨⟨n + 1, c', by omega, by go_num, ⟨by rw [HE.out, HC.out]; rfl, HK.out, hch, HBx.out, HF.out, HO.out⟩⟩, by simp [intOf]; omega⟩
      · have hdrop : l.drop (k + n) = [] := List.drop_eq_nil_of_le (by omega)
        have e1 : errOf l (k + n) = 4 := by unfold errOf; rw [if_neg hk]
        have e2 : nextOf l (k + n) = k + n := by unfold nextOf; rw [if_neg hk]
        rw [e1]
        rw [e2] at HF
        have hrd := HR.out.rd
        rw [hdrop, show deep zs - n = (deep zs - (n + 1)) + 1 by omega, rd_end] at hrd
        have HRD := Lib.hid hrd
        clear hrd hdrop
        go_wp2_with fail
        go_ret2
        exact ⟨by rw [HRD.out]; rfl, by rw [HRD.out]; exact HF.out, HO.out⟩
    · have hlti : (deep zs : Int) < (n : Int) + 1 := by omega
      have hrd := HR.out.rd
      rw [show deep zs - n = 0 by omega, rd_zero] at hrd
      have HRD := Lib.hid hrd
      clear hrd
      go_wp2_with fail
      go_ret2
      exact ⟨by rw [HRD.out]; rfl, by rw [HRD.out]; exact HR.out.feed, HR.out.only⟩
end Go.Proofs.Ytoifppfhnedahaa
