/-
  Merged, in the order in which they build: TlA TlB Inv.
-/
import Derived.StillTailTactics
import Derived.Orders
import Derived.Laws.World
import Derived.Tactics
import Derived.Test.YtefeilgbofphjaaDoorMg18
/-
  Counting signs: the teller that counts.
-/
namespace Go.Proofs.YtefeilgbofphjaaDoor
open Go.RowKit
/-- How often each number below n stands in a row. -/
def cnt (l : List Nat) (n : Nat) : List Int := (List.range n).map fun s => (l.count s : Int)
@[simp] theorem cnt_length (l : List Nat) (n : Nat) : (cnt l n).length = n := by simp [cnt]
theorem cnt_getD (l : List Nat) (n s : Nat) (h : s < n) : (cnt l n).getD s 0 = (l.count s : Int) := by simp [cnt, h]
theorem cnt_nil (n : Nat) : cnt [] n = List.replicate n 0 := by
  apply List.ext_getElem
  · simp
  · intro i h1 h2; simp [cnt]
theorem cnt_more (l : List Nat) (n s : Nat) (h : s < n) : (cnt l n).set s ((cnt l n).getD s 0 + 1) = cnt (l ++ [s]) n := by
  rw [cnt_getD _ _ _ h]
  apply List.ext_getElem
  · simp
  · intro i h1 h2
    simp at h1
    rw [List.getElem_set]
    simp only [cnt, List.getElem_map, List.getElem_range, List.count_append, List.count_singleton]
    by_cases e : s = i
    · subst e; simp
    · simp [e]
theorem cnt_ok (l : List Nat) (n : Nat) (hn : n ≤ 1024) (hl : l.length ≤ 1000000) : okC (cnt l n) = true := by
  rw [okC_of (cnt l n) (fun i hi => ?_), cnt_length, decide_eq_true hn]
  rw [cnt_length] at hi
  rw [cnt_getD _ _ _ hi]
  have := List.count_le_length (a := i) (l := l)
  omega
theorem cnt_pos (l : List Nat) (n s : Nat) (h : s < n) (hs : s ∈ l) : 0 < (cnt l n).getD s 0 := by
  rw [cnt_getD _ _ _ h]
  have := List.count_pos_iff.2 hs
  omega
/-- The signs, those that are distances', among the first k. -/
def spl (ss : List Sg) (b : Bool) : Nat → List Nat
  | 0 => []
  | k + 1 => spl ss b k ++ (if flg ss k = b then [(ss.getD k nog).s] else [])
theorem spl_length (ss : List Sg) (b : Bool) : ∀ k, (spl ss b k).length ≤ k
  | 0 => Nat.le_refl _
  | k + 1 => by
    have := spl_length ss b k
    rw [spl, List.length_append]
    split
    · simp; omega
    · simp; omega
theorem spl_mem (ss : List Sg) (b : Bool) (n : Nat) : ∀ k, k < n → flg ss k = b → (ss.getD k nog).s ∈ spl ss b n := by
  induction n with
  | zero => intro k h; omega
  | succ n ih =>
    intro k h hf
    rw [spl]
    rcases Nat.lt_or_ge k n with h1 | h1
    · exact List.mem_append_left _ (ih k h1 hf)
    · obtain rfl : k = n := by omega
      rw [if_pos hf]; simp
/-- The two rows of counts, in captured cells. -/
def CntI (ga gb B : Nat) (ss : List Sg) (w : World) (X : Nat → Prop) (k : Nat) : Prop :=
  ∃ ka kb ca cb, w.heap[ga]? = some (.cells #[.slice (some ⟨ka, 0, none⟩) 286 ca] 53 (0, 0)) ∧ w.heap[gb]? = some (.cells #[.slice (some ⟨kb, 0, none⟩) 30 cb] 53 (0, 0)) ∧
    w.ownsRow B 3 1 (.slice (some ⟨ka, 0, none⟩) 286 ca) 286 (ni (cnt (spl ss false k) 286)) ∧ w.ownsRow B 3 1 (.slice (some ⟨kb, 0, none⟩) 30 cb) 30 (ni (cnt (spl ss true k) 30)) ∧
    ka ≠ kb ∧ ka ≠ ga ∧ ka ≠ gb ∧ kb ≠ ga ∧ kb ≠ gb ∧ X = fun i => i = ka ∨ i = kb ∨ i = ga ∨ i = gb
theorem cell_ni {w : World} {B g n cap : Nat} {l : List Int} (h : w.ownsRow B 3 1 (.slice (some ⟨g, 0, none⟩) n cap) n (ni l)) (i : Nat) (hi : i < n) (hl : l.length = n) : w.cell? ⟨g, i, none⟩ = some (.int .i64 (l.getD i 0)) ∧ w.frozen? ⟨g, i, none⟩ = false ∧ ∀ x, (w.setCell ⟨g, i, none⟩ (.int .i64 x)).ownsRow B 3 1 (.slice (some ⟨g, 0, none⟩) n cap) n (ni (l.set i x)) := by
  obtain ⟨g', cap', h1, hw, _, _, _, h2, h3, h4⟩ := own_spot h (by omega)
  cases h1
  refine ⟨h2 i _ (by unfold ni; rw [List.getElem?_map, List.getElem?_eq_getElem (by omega)]; simp [show i < l.length by omega]), h3 i, fun x => ?_⟩
  have := h4 i (.int .i64 x) hi
  have e : (ni l).set i (.int .i64 x) = ni (l.set i x) := by simp [ni, List.map_set]
  rw [← e]; exact this
set_option maxRecDepth 100000 in
set_option maxHeartbeats 1000000 in
theorem hears15 (ga gb B : Nat) (ss : List Sg) (hA : ∀ k, k < ss.length → flg ss k = false → (ss.getD k nog).s < 286) (hF : ∀ k, k < ss.length → flg ss k = true → (ss.getD k nog).s < 30) (hl : ss.length ≤ 1000000) :
    Hears ss 15 #[.pointer (some ⟨gb, 0, none⟩), .pointer (some ⟨ga, 0, none⟩)] (CntI ga gb B ss) where
  call := fun w X k hk h => by
    obtain ⟨ka, kb, ca, cb, h1, h2, h3, h4, n1, n2, n3, n4, n5, rfl⟩ := h
    have c1 : w.cell? ⟨ga, 0, none⟩ = some (.slice (some ⟨ka, 0, none⟩) 286 ca) := cell_of_row _ _ 0 _ _ _ h1
    have c2 : w.cell? ⟨gb, 0, none⟩ = some (.slice (some ⟨kb, 0, none⟩) 30 cb) := cell_of_row _ _ 0 _ _ _ h2
    have hca := hA k hk
    have hcf := hF k hk
    obtain ⟨s, hs⟩ : ∃ s, s = (ss.getD k nog).s := ⟨_, rfl⟩
    have hsa : spl ss false (k + 1) = spl ss false k ++ (if flg ss k = false then [s] else []) := by rw [spl, ← hs]
    have hsf : spl ss true (k + 1) = spl ss true k ++ (if flg ss k = true then [s] else []) := by rw [spl, ← hs]
    rw [← hs] at hca hcf ⊢
    simp only [List.append_toArray, List.cons_append, List.nil_append]
    cases hf : flg ss k with
    | false =>
      rw [hf, if_pos rfl] at hsa
      rw [hf, if_neg (by decide), List.append_nil] at hsf
      have hlt := hca hf
      obtain ⟨d1, d2, d3⟩ := cell_ni h3 s hlt (by simp)
      have hct : (cnt (spl ss false k) 286).getD s 0 + 1 ≤ 1000001 ∧ 0 ≤ (cnt (spl ss false k) 286).getD s 0 := by
        rw [cnt_getD _ _ _ hlt]
        have h5 := List.count_le_length (a := s) (l := spl ss false k)
        have h6 := spl_length ss false k
        omega
      have hd := d3 ((cnt (spl ss false k) 286).getD s 0 + 1)
      rw [cnt_more _ _ _ hlt, ← hsa] at hd
      obtain ⟨u, hu⟩ : ∃ u, u = (cnt (spl ss false k) 286).getD s 0 := ⟨_, rfl⟩
      rw [← hu] at d1 hct hd
      have hlti : (s : Int) < 286 := by omega
      have H1 := Lib.hid h1
      have H2 := Lib.hid h2
      have H4 := Lib.hid h4
      have HD := Lib.hid hd
      have HSF := Lib.hid hsf
      clear h1 h2 h3 h4 d3 hca hcf hf hu hsa hsf hd hs hA hF
      go_enter Tryd.func15, Tryd.ntmps15
      go_wp2_with fail
      go_end0
      refine ⟨rfl, OnlyS.setCell _ _ _ _ (.inl rfl), _, ⟨ka, kb, ca, cb, (heap_setCell_other _ _ _ _ (by show ¬ ga = ka; exact fun e => n2 e.symm)).trans H1.out, (heap_setCell_other _ _ _ _ (by show ¬ gb = ka; exact fun e => n3 e.symm)).trans H2.out, HD.out, ?_, n1, n2, n3, n4, n5, rfl⟩, Grew.refl _ _⟩
      rw [HSF.out]
      exact own_stays H4.out (fun j hj => heap_setCell_other _ _ _ _ (by show ¬ j = ka; simp [Value.ownBlock] at hj; omega))
    | true =>
      rw [hf, if_neg (by decide), List.append_nil] at hsa
      rw [hf, if_pos rfl] at hsf
      have hlt := hcf hf
      obtain ⟨d1, d2, d3⟩ := cell_ni h4 s hlt (by simp)
      have hct : (cnt (spl ss true k) 30).getD s 0 + 1 ≤ 1000001 ∧ 0 ≤ (cnt (spl ss true k) 30).getD s 0 := by
        rw [cnt_getD _ _ _ hlt]
        have h5 := List.count_le_length (a := s) (l := spl ss true k)
        have h6 := spl_length ss true k
        omega
      have hd := d3 ((cnt (spl ss true k) 30).getD s 0 + 1)
      rw [cnt_more _ _ _ hlt, ← hsf] at hd
      obtain ⟨u, hu⟩ : ∃ u, u = (cnt (spl ss true k) 30).getD s 0 := ⟨_, rfl⟩
      rw [← hu] at d1 hct hd
      have hlti : (s : Int) < 30 := by omega
      have H1 := Lib.hid h1
      have H2 := Lib.hid h2
      have H3 := Lib.hid h3
      have HD := Lib.hid hd
      have HSA := Lib.hid hsa
      clear h1 h2 h3 h4 d3 hca hcf hf hu hsa hsf hd hs hA hF
      go_enter Tryd.func15, Tryd.ntmps15
      go_wp2_with fail
      go_end0
      refine ⟨rfl, OnlyS.setCell _ _ _ _ (.inr (.inl rfl)), _, ⟨ka, kb, ca, cb, (heap_setCell_other _ _ _ _ (by show ¬ ga = kb; exact fun e => n4 e.symm)).trans H1.out, (heap_setCell_other _ _ _ _ (by show ¬ gb = kb; exact fun e => n5 e.symm)).trans H2.out, ?_, HD.out, n1, n2, n3, n4, n5, rfl⟩, Grew.refl _ _⟩
      rw [HSA.out]
      exact own_stays H3.out (fun j hj => heap_setCell_other _ _ _ _ (by show ¬ j = kb; simp [Value.ownBlock] at hj; omega))
  stay := fun {w w' X k} h ho => by
    have hS : ∀ i, (fun _ => False) i → ¬ X i := fun _ h => h.elim
    obtain ⟨ka, kb, ca, cb, h1, h2, h3, h4, n1, n2, n3, n4, n5, rfl⟩ := h
    have hlt : ∀ g o, w.heap[g]? = some o → g < w.heap.size := fun g o e => (Array.getElem?_eq_some_iff.1 e).1
    exact ⟨ka, kb, ca, cb, (ho.block ga (hlt _ _ h1) (fun hs => hS ga hs (.inr (.inr (.inl rfl))))).trans h1, (ho.block gb (hlt _ _ h2) (fun hs => hS gb hs (.inr (.inr (.inr rfl))))).trans h2,
      own_stays h3 (fun j hj => ho.block j (own_lt h3 j hj).2 (fun hs => hS j hs (.inl (by simp [Value.ownBlock] at hj; exact hj.symm)))),
      own_stays h4 (fun j hj => ho.block j (own_lt h4 j hj).2 (fun hs => hS j hs (.inr (.inl (by simp [Value.ownBlock] at hj; exact hj.symm))))), n1, n2, n3, n4, n5, rfl⟩
theorem cntI_lt {ga gb B : Nat} {ss : List Sg} {w : World} {X : Nat → Prop} {k : Nat} (h : CntI ga gb B ss w X k) : ∀ i, X i → i < w.heap.size := by
  obtain ⟨ka, kb, ca, cb, h1, h2, h3, h4, n1, n2, n3, n4, n5, rfl⟩ := h
  intro i hi
  rcases hi with rfl | rfl | rfl | rfl
  · exact (own_lt h3 _ rfl).2
  · exact (own_lt h4 _ rfl).2
  · exact (Array.getElem?_eq_some_iff.1 h1).1
  · exact (Array.getElem?_eq_some_iff.1 h2).1
end Go.Proofs.YtefeilgbofphjaaDoor
/-
  body: the teller that writes; its call.
-/
namespace Go.Proofs.YtefeilgbofphjaaDoor
open Go.RowKit Hf
/-- What the first k signs write. -/
def wds (zs ds : List Int) (ss : List Sg) : Nat → List Bool
  | 0 => []
  | k + 1 => wds zs ds ss k ++ (cod (if flg ss k then ds else zs) (ss.getD k nog).s ++ num (ss.getD k nog).x (ss.getD k nog).m)
/-- A slice's bytes stand apart from what is written. -/
def Off (w : World) (X : Nat → Prop) (v : Value) : Prop := ∀ p n cap, v = .slice (some p) n cap → 0 < n → ¬ X p.block ∧ p.block < w.heap.size
theorem Off.next {w w' : World} {X X' : Nat → Prop} {v : Value} (h : Off w X v) (hs : w.heap.size ≤ w'.heap.size) (hg : Grew w X X') : Off w' X' v := fun p n cap e h0 => ⟨hg.not (h p n cap e h0).1 (h p n cap e h0).2, Nat.lt_of_lt_of_le (h p n cap e h0).2 hs⟩
/-- A captured cell that stays. -/
def Box1 (w : World) (X : Nat → Prop) (g : Nat) (v : Value) (t : TypeId) : Prop := w.heap[g]? = some (.cells #[v] t (0, 0)) ∧ ¬ X g
theorem Box1.next {w w' : World} {X X' : Nat → Prop} {g : Nat} {v : Value} {t : TypeId} (h : Box1 w X g v t) (ho : OnlyS X w w') (hg : Grew w X X') : Box1 w' X' g v t :=
  have hlt := (Array.getElem?_eq_some_iff.1 h.1).1
  ⟨(ho.block g hlt h.2).trans h.1, hg.not h.2 hlt⟩
theorem Box1.c {w : World} {X : Nat → Prop} {g : Nat} {v : Value} {t : TypeId} (h : Box1 w X g v t) : w.cell? ⟨g, 0, none⟩ = some v := cell_of_row _ _ 0 _ _ _ h.1
structure BodF (w : World) (X : Nat → Prop) (g0 g2 g3 g4 g5 g6 gp : Nat) (rv dv bv cv av : Value) (ss : List Sg) (zs ds : List Int) : Prop where
  k0 : Box1 w X g0 rv 50
  k2 : Box1 w X g2 (.pointer (some ⟨gp, 0, none⟩)) 44
  k3 : Box1 w X g3 dv 77
  k4 : Box1 w X g4 bv 53
  k5 : Box1 w X g5 cv 77
  k6 : Box1 w X g6 av 53
  row : SlK 3 w rv ss.length (sgc ss)
  d : SlV w dv (nu (codes ds))
  b : SlV w bv (ni ds)
  c : SlV w cv (nu (codes zs))
  a : SlV w av (ni zs)
  o0 : Off w X rv
  o3 : Off w X dv
  o4 : Off w X bv
  o5 : Off w X cv
  o6 : Off w X av
theorem BodF.next {w w' : World} {X X' : Nat → Prop} {g0 g2 g3 g4 g5 g6 gp : Nat} {rv dv bv cv av : Value} {ss : List Sg} {zs ds : List Int} (h : BodF w X g0 g2 g3 g4 g5 g6 gp rv dv bv cv av ss zs ds) (ho : OnlyS X w w') (hg : Grew w X X') : BodF w' X' g0 g2 g3 g4 g5 g6 gp rv dv bv cv av ss zs ds :=
  ⟨h.k0.next ho hg, h.k2.next ho hg, h.k3.next ho hg, h.k4.next ho hg, h.k5.next ho hg, h.k6.next ho hg, h.row.only ho (fun p n cap e h0 => (h.o0 p n cap e h0).1), h.d.only ho (fun p n cap e h0 => (h.o3 p n cap e h0).1), h.b.only ho (fun p n cap e h0 => (h.o4 p n cap e h0).1), h.c.only ho (fun p n cap e h0 => (h.o5 p n cap e h0).1), h.a.only ho (fun p n cap e h0 => (h.o6 p n cap e h0).1),
   h.o0.next ho.size hg, h.o3.next ho.size hg, h.o4.next ho.size hg, h.o5.next ho.size hg, h.o6.next ho.size hg⟩
/-- The writing teller's state. -/
def BodI (B g0 g1 g2 g3 g4 g5 g6 gp : Nat) (rv dv bv cv av : Value) (L : List Bool) (ss : List Sg) (zs ds : List Int) (w : World) (X : Nat → Prop) (k : Nat) : Prop :=
  ∃ sv, X = (fun i => i = g1 ∨ penX gp sv i) ∧ w.heap[g1]? = some (.cells #[.int .i64 (k : Int)] 3 (0, 0)) ∧ ¬ penX gp sv g1 ∧ PenAt w B gp sv (L ++ wds zs ds ss k) ∧ BodF w X g0 g2 g3 g4 g5 g6 gp rv dv bv cv av ss zs ds ∧ B ≤ w.heap.size
theorem nu_at {w : World} {p : Option Addr} {n cap : Nat} {l : List Nat} (h : SlV w (.slice p n cap) (nu l)) (i : Nat) (hi : i < l.length) : ∃ g o, p = some ⟨g, o, none⟩ ∧ w.cell? ⟨g, o + i, none⟩ = some (.int .u32 ((l.getD i 0 : Nat) : Int)) := by
  have hl := h.len
  rw [nu_length] at hl
  obtain ⟨g, o, hp, hr⟩ := h.some (by omega)
  exact ⟨g, o, hp, hr.nu i hi⟩
theorem ni_at {w : World} {p : Option Addr} {n cap : Nat} {l : List Int} (h : SlV w (.slice p n cap) (ni l)) (i : Nat) (hi : i < l.length) : ∃ g o, p = some ⟨g, o, none⟩ ∧ w.cell? ⟨g, o + i, none⟩ = some (.int .i64 (l.getD i 0)) := by
  have hl := h.len
  rw [ni_length] at hl
  obtain ⟨g, o, hp, hr⟩ := h.some (by omega)
  exact ⟨g, o, hp, hr.ni i hi⟩
theorem lt_of_pos {zs : List Int} {s : Nat} (h : 0 < zs.getD s 0) : s < zs.length := by
  rcases Nat.lt_or_ge s zs.length with h1 | h1
  · exact h1
  · rw [List.getD_eq_getElem?_getD, List.getElem?_eq_none h1] at h; simp at h
theorem code_small {zs : List Int} (h : Coded zs) {s : Nat} (hs : 0 < zs.getD s 0) : code zs s < 4294967296 ∧ (zs.getD s 0).toNat ≤ 15 ∧ zs.getD s 0 = (((zs.getD s 0).toNat : Nat) : Int) := by
  have h1 := code_lt h.good h.kr s hs
  have h2 := getD_good h.good s
  have h3 : 2 ^ (zs.getD s 0).toNat ≤ 2 ^ 15 := Nat.pow_le_pow_right (by decide) (by omega)
  omega
/-- One round's own facts. -/
structure SgOk (zs ds : List Int) (g : Sg) (f : Bool) : Prop where
  pos : 0 < (if f then ds else zs).getD g.s 0
  x : g.x < 2147483648
  m : g.m ≤ 31
theorem bod_end {w w2 w3 w4 : World} {B g0 g1 g2 g3 g4 g5 g6 gp k : Nat} {rv dv bv cv av sv sv3 sv4 : Value} {L : List Bool} {ss : List Sg} {zs ds : List Int}
    (ho2 : OnlyS (fun i => i = g1 ∨ penX gp sv i) w w2) (ho3 : OnlyS (fun i => i = g1 ∨ penX gp sv i) w2 w3) (ho4 : OnlyS (fun i => i = g1 ∨ penX gp sv3 i) w3 w4)
    (hg3 : Grew w2 (fun i => i = g1 ∨ penX gp sv i) (fun i => i = g1 ∨ penX gp sv3 i)) (hg4 : Grew w3 (fun i => i = g1 ∨ penX gp sv3 i) (fun i => i = g1 ∨ penX gp sv4 i))
    (hr : w2.heap[g1]? = some (.cells #[.int .i64 ((k + 1 : Nat) : Int)] 3 (0, 0))) (hn1 : ¬ penX gp sv g1 ∧ g1 < w2.heap.size) (hn3 : ¬ penX gp sv3 g1) (hn4 : ¬ penX gp sv4 g1)
    (hb3 : OnlyS (penX gp sv) w2 w3) (hb4 : OnlyS (penX gp sv3) w3 w4)
    (hF : BodF w3 (fun i => i = g1 ∨ penX gp sv3 i) g0 g2 g3 g4 g5 g6 gp rv dv bv cv av ss zs ds) (hp : PenAt w4 B gp sv4 (L ++ wds zs ds ss (k + 1))) (hB : B ≤ w2.heap.size) :
    (Ending.returned (.tuple #[]) : Ending) = .returned (.tuple #[]) ∧ OnlyS (fun i => i = g1 ∨ penX gp sv i) w w4 ∧ ∃ X', BodI B g0 g1 g2 g3 g4 g5 g6 gp rv dv bv cv av L ss zs ds w4 X' (k + 1) ∧ Grew w (fun i => i = g1 ∨ penX gp sv i) X' := by
  have hg := hg3.trans hg4 ho3.size
  refine ⟨rfl, (ho2.trans ho3).trans' ho4 (fun i hi => ?_), _, ⟨sv4, rfl, ?_, hn4, hp, hF.next ho4 hg4, Nat.le_trans hB (Nat.le_trans ho3.size ho4.size)⟩, fun i hi => ?_⟩
  · rcases hg3 i hi with h | h
    · exact .inl h
    · exact .inr (Nat.le_trans ho2.size h)
  · exact (hb4.block g1 (Nat.lt_of_lt_of_le hn1.2 hb3.size) hn3).trans ((hb3.block g1 hn1.2 hn1.1).trans hr)
  · rcases hg i hi with h | h
    · exact .inl h
    · exact .inr (Nat.le_trans ho2.size h)
set_option maxRecDepth 100000 in
set_option maxHeartbeats 2000000 in
theorem hears28 (B g0 g1 g2 g3 g4 g5 g6 gp : Nat) (rv dv bv cv av : Value) (L : List Bool) (ss : List Sg) (zs ds : List Int) (hz : Coded zs) (hd : Coded ds) (hok : ∀ k, k < ss.length → SgOk zs ds (ss.getD k nog) (flg ss k)) (hL : ∀ k, k ≤ ss.length → (L ++ wds zs ds ss k).length ≤ 1000000000) (hl : ss.length ≤ 1000000) :
    Hears ss 28 #[.pointer (some ⟨g0, 0, none⟩), .pointer (some ⟨g1, 0, none⟩), .pointer (some ⟨g2, 0, none⟩), .pointer (some ⟨g3, 0, none⟩), .pointer (some ⟨g4, 0, none⟩), .pointer (some ⟨g5, 0, none⟩), .pointer (some ⟨g6, 0, none⟩)] (BodI B g0 g1 g2 g3 g4 g5 g6 gp rv dv bv cv av L ss zs ds) where
  call := fun w X k hk h => by
    obtain ⟨sv, rfl, h1, hn1, hp, hF, hB⟩ := h
    have hko := hok k hk
    have hLk := hL k (by omega)
    simp only [List.append_toArray, List.cons_append, List.nil_append]
    obtain ⟨pr, cr, hsr⟩ : ∃ p c, rv = .slice p ss.length c := by
      obtain ⟨_, ⟨g, o, cap, h2, _⟩ | ⟨p, h2, h3⟩⟩ := hF.row
      · exact ⟨_, _, h2⟩
      · exact ⟨p, 0, by rw [h3]; exact h2⟩
    subst hsr
    obtain ⟨g, o, hpr, e0, e1, e2⟩ := sg_at hF.row rfl k hk
    subst hpr
    obtain ⟨n, hn⟩ : ∃ n, n = ss.length := ⟨_, rfl⟩
    have hkn : (k : Int) < (n : Int) := by omega
    have hkl : (k : Int) ≤ 1000000 := by omega
    have c1w : w.cell? ⟨g1, 0, none⟩ = some (.int .i64 (k : Int)) := cell_of_row _ _ 0 _ _ _ h1
    obtain ⟨q, hq⟩ : ∃ q, q = ss.getD k nog := ⟨_, rfl⟩
    rw [← hq] at hko e0 e1 e2 ⊢
    have HQ := Lib.hid hq
    obtain ⟨s, x, m⟩ := q
    simp only at e0 e1 e2 ⊢
    have c0 := hF.k0.c
    rw [← hn] at c0
    obtain ⟨w1, hw1⟩ : ∃ w1, w1 = w.alloc (.cells #[.int .i64 (s : Int), .int .i64 (x : Int), .int .i64 (m : Int)] 72) := ⟨_, rfl⟩
    have ha : OnlyS (fun _ => False) w w1 := by rw [hw1]; exact OnlyS.alloc _ _
    have hr1 : w1.heap[w.heap.size]? = some (.cells #[.int .i64 (s : Int), .int .i64 (x : Int), .int .i64 (m : Int)] 72 (0, 0)) := by rw [hw1]; exact heap_alloc_new w _
    have hg1 : w1.heap[g1]? = some (.cells #[.int .i64 (k : Int)] 3 (0, 0)) := (ha.block g1 (Array.getElem?_eq_some_iff.1 h1).1 (fun h => h)).trans h1
    have hg1l := (Array.getElem?_eq_some_iff.1 h1).1
    have c1 : w1.cell? ⟨g1, 0, none⟩ = some (.int .i64 (k : Int)) := cell_of_row _ _ 0 _ _ _ hg1
    have f1 : w1.frozen? ⟨g1, 0, none⟩ = false := frozen_of_row _ _ 0 _ _ hg1
    obtain ⟨w2, hw2⟩ : ∃ w2, w2 = w1.setCell ⟨g1, 0, none⟩ (.int .i64 ((k : Int) + 1)) := ⟨_, rfl⟩
    have hs2 : OnlyS (fun i => i = g1) w1 w2 := by rw [hw2]; exact OnlyS.setCell _ _ _ _ rfl
    have ho2 : OnlyS (fun i => i = g1 ∨ penX gp sv i) w w2 := (ha.mono fun _ _ h => h.elim).trans (hs2.mono fun _ _ h => .inl h)
    have HF2 := Lib.hid (hF.next ho2 (Grew.refl _ _))
    have HP2 := Lib.hid ((hp.stay ha (fun _ h => h.elim)).stay hs2 (fun i hi hx => hn1 (by rw [← hi]; exact hx)))
    have HB2 : Hid (B ≤ w2.heap.size) := Lib.hid (Nat.le_trans hB ho2.size)
    have HO2 := Lib.hid ho2
    have HR2 : Hid (w2.heap[w.heap.size]? = some (.cells #[.int .i64 (s : Int), .int .i64 (x : Int), .int .i64 (m : Int)] 72 (0, 0))) := Lib.hid ((hs2.block w.heap.size (Array.getElem?_eq_some_iff.1 hr1).1 (fun e => by have h : w.heap.size = g1 := e; omega)).trans hr1)
    have HG1 : Hid (w2.heap[g1]? = some (.cells #[.int .i64 ((k + 1 : Nat) : Int)] 3 (0, 0))) := Lib.hid (by rw [hw2]; exact (heap_setCell_same _ _ _ _ _ _ hg1).trans rfl)
    have HNX : Hid (¬ (w.heap.size = g1 ∨ penX gp sv w.heap.size)) := Lib.hid (fun h => by
      rcases h with h | h
      · omega
      · have := (hp.x_lt _ h).2; omega)
    have HN1 : Hid (¬ penX gp sv g1 ∧ g1 < w2.heap.size) := Lib.hid ⟨hn1, Nat.lt_of_lt_of_le hg1l ho2.size⟩
    rw [hw1] at c1 f1
    have HW1 := Lib.hid hw1
    have HW2 := Lib.hid hw2
    clear ha hr1 hs2 ho2 hF hp hB hw1 hw2 h1 hn1 hn hg1 hg1l hq
    have HZ := Lib.hid hz
    have HD := Lib.hid hd
    clear hz hd hok hL hl
    cases hf : flg ss k with
    | false =>
      rw [hf] at hko
      have hpos : 0 < zs.getD s 0 := by simpa using hko.pos
      have hsl := lt_of_pos hpos
      have hcs := code_small (zs := zs) HZ.out hpos
      obtain ⟨pv, cv', hsv1⟩ := HF2.out.c.shape
      obtain ⟨pw, cw', hsv2⟩ := HF2.out.a.shape
      rw [nu_length, codes_length] at hsv1
      rw [ni_length] at hsv2
      obtain ⟨nl, hnl⟩ : ∃ nl, nl = zs.length := ⟨_, rfl⟩
      rw [← hnl] at hsv1 hsv2 hsl
      have hsli : (s : Int) < (nl : Int) := by omega
      subst hsv1 hsv2
      obtain ⟨ge, oe, hpe, d1⟩ := nu_at HF2.out.c s (by rw [codes_length, ← hnl]; exact hsl)
      obtain ⟨gh, oh, hph, d2⟩ := ni_at HF2.out.a s (by rw [← hnl]; exact hsl)
      rw [codes_getD _ _ (by rw [← hnl]; exact hsl)] at d1
      subst hpe hph
      rw [hcs.2.2] at d2
      obtain ⟨cc, hcc⟩ : ∃ cc, cc = code zs s := ⟨_, rfl⟩
      obtain ⟨zz, hzz⟩ : ∃ zz, zz = (zs.getD s 0).toNat := ⟨_, rfl⟩
      rw [← hcc, ← hzz] at hcs
      rw [← hcc] at d1
      rw [← hzz] at d2
      have b2 := HF2.out.k2.c
      have b5 := HF2.out.k5.c
      have b6 := HF2.out.k6.c
      have HC := Lib.hid (pcode_walk w2.drew B gp cc zz sv _ (HP2.out.stay (OnlyS.drew (S := fun _ => False) _) (fun _ h => h.elim)) (by omega) hcs.1 (by omega) HB2.out)
      have HWD : Hid (L ++ wds zs ds ss (k + 1) = L ++ wds zs ds ss k ++ bitsN cc zz ++ num x m) := Lib.hid (by
        rw [wds, hf, ← HQ.out, hcc, hzz]
        simp only [Bool.false_eq_true, if_false]
        unfold cod
        simp only [List.append_assoc])
      have HKX := Lib.hid (And.intro hko.x hko.m)
      have hlen2 : (L ++ wds zs ds ss k ++ bitsN cc zz).length + m ≤ 1099511627776 := by
        rw [List.length_append, bitsN_length]
        have hm31 : m ≤ 31 := hko.m
        omega
      have HLEN := Lib.hid hlen2
      clear hcc hzz hko hsl hnl hcs hlen2 hf hpos
      go_enter Tryd.func28, Tryd.ntmps28
      go_wp2_with fail
      rw [← HW1.out, ← HW2.out]
      go_still_tail 9, (by kernel_rfl)
      change wpList _ _ _ _ _ w2.drew
      go_wp2_with fail
      refine HC.out.mono ?_
      rintro e w3 ⟨rfl, ho3, sv3, hp3, hg3⟩
      have HOP3 : Hid (OnlyS (penX gp sv) w2 w3) := Lib.hid ((OnlyS.drew _).trans ho3)
      have HO3 : Hid (OnlyS (fun i => i = g1 ∨ penX gp sv i) w2 w3) := Lib.hid ((OnlyS.drew _).trans (ho3.mono fun _ _ h => .inr h))
      have HG3 : Hid (Grew w2 (fun i => i = g1 ∨ penX gp sv i) (fun i => i = g1 ∨ penX gp sv3 i)) := Lib.hid (fun i hi => by
        rcases hi with hi | hi
        · exact .inl (.inl hi)
        · rcases hg3 i hi with h | h
          · exact .inl (.inr h)
          · exact .inr h)
      have HN3 : Hid (¬ penX gp sv3 g1) := Lib.hid (fun h => by
        rcases hg3 g1 h with h | h
        · exact HN1.out.1 h
        · have : w2.drew.heap.size = w2.heap.size := rfl; have := HN1.out.2; omega)
      have hF3 := HF2.out.next HO3.out HG3.out
      have b23 := hF3.k2.c
      obtain ⟨-, y1, y2, -, -, -⟩ := row3 ((HO3.out.block w.heap.size (Array.getElem?_eq_some_iff.1 HR2.out).1 HNX.out).trans HR2.out)
      have HC2 := Lib.hid (pnum_walk w3 B gp x m sv3 _ hp3 HLEN.out HKX.out.1 HKX.out.2 (Nat.le_trans HB2.out HO3.out.size))
      rw [← HWD.out] at HC2
      have HF3 := Lib.hid hF3
      clear ho3 hp3 hg3 hF3 d1 d2 b2 b5 b6
      go_wp2_with fail
      refine HC2.out.mono ?_
      rintro e w4 ⟨rfl, ho4, sv4, hp4, hg4⟩
      have HOP4 := Lib.hid ho4
      have HO4 : Hid (OnlyS (fun i => i = g1 ∨ penX gp sv3 i) w3 w4) := Lib.hid (ho4.mono fun _ _ h => .inr h)
      have HG4 : Hid (Grew w3 (fun i => i = g1 ∨ penX gp sv3 i) (fun i => i = g1 ∨ penX gp sv4 i)) := Lib.hid (fun i hi => by
        rcases hi with hi | hi
        · exact .inl (.inl hi)
        · rcases hg4 i hi with h | h
          · exact .inl (.inr h)
          · exact .inr h)
      have HP4 := Lib.hid hp4
      have HN4 : Hid (¬ penX gp sv4 g1) := Lib.hid (fun h => by
        rcases hg4 g1 h with h | h
        · exact HN3.out h
        · have := HN1.out.2; have := HO3.out.size; omega)
      clear ho4 hp4 hg4
      go_wp2_with fail
      go_end0
      exact bod_end HO2.out HO3.out HO4.out HG3.out HG4.out HG1.out HN1.out HN3.out HN4.out HOP3.out HOP4.out HF3.out HP4.out HB2.out
    | true =>
      rw [hf] at hko
      have hpos : 0 < ds.getD s 0 := by simpa using hko.pos
      have hsl := lt_of_pos hpos
      have hcs := code_small (zs := ds) HD.out hpos
      obtain ⟨pv, cv', hsv1⟩ := HF2.out.d.shape
      obtain ⟨pw, cw', hsv2⟩ := HF2.out.b.shape
      rw [nu_length, codes_length] at hsv1
      rw [ni_length] at hsv2
      obtain ⟨nl, hnl⟩ : ∃ nl, nl = ds.length := ⟨_, rfl⟩
      rw [← hnl] at hsv1 hsv2 hsl
      have hsli : (s : Int) < (nl : Int) := by omega
      subst hsv1 hsv2
      obtain ⟨ge, oe, hpe, d1⟩ := nu_at HF2.out.d s (by rw [codes_length, ← hnl]; exact hsl)
      obtain ⟨gh, oh, hph, d2⟩ := ni_at HF2.out.b s (by rw [← hnl]; exact hsl)
      rw [codes_getD _ _ (by rw [← hnl]; exact hsl)] at d1
      subst hpe hph
      rw [hcs.2.2] at d2
      obtain ⟨cc, hcc⟩ : ∃ cc, cc = code ds s := ⟨_, rfl⟩
      obtain ⟨zz, hzz⟩ : ∃ zz, zz = (ds.getD s 0).toNat := ⟨_, rfl⟩
      rw [← hcc, ← hzz] at hcs
      rw [← hcc] at d1
      rw [← hzz] at d2
      have b2 := HF2.out.k2.c
      have b5 := HF2.out.k3.c
      have b6 := HF2.out.k4.c
      have HC := Lib.hid (pcode_walk w2.drew B gp cc zz sv _ (HP2.out.stay (OnlyS.drew (S := fun _ => False) _) (fun _ h => h.elim)) (by omega) hcs.1 (by omega) HB2.out)
      have HWD : Hid (L ++ wds zs ds ss (k + 1) = L ++ wds zs ds ss k ++ bitsN cc zz ++ num x m) := Lib.hid (by
        rw [wds, hf, ← HQ.out, hcc, hzz]
        simp only [if_true]
        unfold cod
        simp only [List.append_assoc])
      have HKX := Lib.hid (And.intro hko.x hko.m)
      have hlen2 : (L ++ wds zs ds ss k ++ bitsN cc zz).length + m ≤ 1099511627776 := by
        rw [List.length_append, bitsN_length]
        have hm31 : m ≤ 31 := hko.m
        omega
      have HLEN := Lib.hid hlen2
      clear hcc hzz hko hsl hnl hcs hlen2 hf hpos
      go_enter Tryd.func28, Tryd.ntmps28
      go_wp2_with fail
      rw [← HW1.out, ← HW2.out]
      go_still_tail 9, (by kernel_rfl)
      change wpList _ _ _ _ _ w2.drew
      go_wp2_with fail
      refine HC.out.mono ?_
      rintro e w3 ⟨rfl, ho3, sv3, hp3, hg3⟩
      have HOP3 : Hid (OnlyS (penX gp sv) w2 w3) := Lib.hid ((OnlyS.drew _).trans ho3)
      have HO3 : Hid (OnlyS (fun i => i = g1 ∨ penX gp sv i) w2 w3) := Lib.hid ((OnlyS.drew _).trans (ho3.mono fun _ _ h => .inr h))
      have HG3 : Hid (Grew w2 (fun i => i = g1 ∨ penX gp sv i) (fun i => i = g1 ∨ penX gp sv3 i)) := Lib.hid (fun i hi => by
        rcases hi with hi | hi
        · exact .inl (.inl hi)
        · rcases hg3 i hi with h | h
          · exact .inl (.inr h)
          · exact .inr h)
      have HN3 : Hid (¬ penX gp sv3 g1) := Lib.hid (fun h => by
        rcases hg3 g1 h with h | h
        · exact HN1.out.1 h
        · have : w2.drew.heap.size = w2.heap.size := rfl; have := HN1.out.2; omega)
      have hF3 := HF2.out.next HO3.out HG3.out
      have b23 := hF3.k2.c
      obtain ⟨-, y1, y2, -, -, -⟩ := row3 ((HO3.out.block w.heap.size (Array.getElem?_eq_some_iff.1 HR2.out).1 HNX.out).trans HR2.out)
      have HC2 := Lib.hid (pnum_walk w3 B gp x m sv3 _ hp3 HLEN.out HKX.out.1 HKX.out.2 (Nat.le_trans HB2.out HO3.out.size))
      rw [← HWD.out] at HC2
      have HF3 := Lib.hid hF3
      clear ho3 hp3 hg3 hF3 d1 d2 b2 b5 b6
      go_wp2_with fail
      refine HC2.out.mono ?_
      rintro e w4 ⟨rfl, ho4, sv4, hp4, hg4⟩
      have HOP4 := Lib.hid ho4
      have HO4 : Hid (OnlyS (fun i => i = g1 ∨ penX gp sv3 i) w3 w4) := Lib.hid (ho4.mono fun _ _ h => .inr h)
      have HG4 : Hid (Grew w3 (fun i => i = g1 ∨ penX gp sv3 i) (fun i => i = g1 ∨ penX gp sv4 i)) := Lib.hid (fun i hi => by
        rcases hi with hi | hi
        · exact .inl (.inl hi)
        · rcases hg4 i hi with h | h
          · exact .inl (.inr h)
          · exact .inr h)
      have HP4 := Lib.hid hp4
      have HN4 : Hid (¬ penX gp sv4 g1) := Lib.hid (fun h => by
        rcases hg4 g1 h with h | h
        · exact HN3.out h
        · have := HN1.out.2; have := HO3.out.size; omega)
      clear ho4 hp4 hg4
      go_wp2_with fail
      go_end0
      exact bod_end HO2.out HO3.out HO4.out HG3.out HG4.out HG1.out HN1.out HN3.out HN4.out HOP3.out HOP4.out HF3.out HP4.out HB2.out
  stay := fun {w w' X k} h ho => by
    obtain ⟨sv, rfl, h1, hn1, hp, hF, hB⟩ := h
    have ho' : OnlyS (fun i => i = g1 ∨ penX gp sv i) w w' := ho.mono fun _ _ h => h.elim
    exact ⟨sv, rfl, (ho.block g1 (Array.getElem?_eq_some_iff.1 h1).1 (fun h => h)).trans h1, hn1, hp.stay ho (fun _ h => h.elim), hF.next ho' (Grew.refl _ _), Nat.le_trans hB ho.size⟩
end Go.Proofs.YtefeilgbofphjaaDoor
/-
  A region that draws its order, by an invariant: each operation is asked once, in any world that may come up, under what the operations that it waits for have left.
-/
namespace Inv
open Go

/-- What an operation has left in its temporary. -/
def dval (o : Oper) (a : Act) : Value := match o.dst with | some d => a.eval (.tmp d) | none => undef
def valAt (ops : Array Oper) (a : Act) (j : Nat) : Value := match ops[j]? with | some o => dval o a | none => undef
/-- A frame that differs from a0 only in the region's own temporaries. -/
structure Like (ops : Array Oper) (a0 a : Act) : Prop where
  size : a.tmps.size = a0.tmps.size
  defers : a.defers = a0.defers
  rest : ∀ s, (ops.all fun o => o.dst != some s) = true → a.eval (.tmp s) = a0.eval (.tmp s)
def Deps (ops : Array Oper) (V : Nat → Value → World → Prop) (a : Act) (w : World) : List Edge → Prop
  | [] => True
  | e :: t => (Region.binds .any e = true → V e.on (valAt ops a e.on) w) ∧ Deps ops V a w t
theorem Deps.of {ops : Array Oper} {V : Nat → Value → World → Prop} {a : Act} {w : World} : ∀ (l : List Edge), (∀ e ∈ l, Region.binds .any e = true → V e.on (valAt ops a e.on) w) → Deps ops V a w l
  | [], _ => trivial
  | e :: t, h => ⟨h e (by simp), Deps.of t fun e' he' => h e' (by simp [he'])⟩
/-- What an operation owes. -/
def OpOK (P : Program) (ops : Array Oper) (Q : Exit → Act → World → Prop) (a0 : Act) (Base : World → Prop) (Step : World → World → Prop) (V : Nat → Value → World → Prop) (i : Nat) (o : Oper) : Prop :=
  ∀ a w, Like ops a0 a → Base w → Deps ops V a w o.after.toList →
    (Region.wanted o (yielded ops a.tmps) = true ∧ o.wp P a w (fun a' w' => ∃ v, a' = a.put o.dst v ∧ Step w w' ∧ Base w' ∧ V i (if o.dst.isSome then v else undef) w') Q) ∨
    (Region.wanted o (yielded ops a.tmps) = false ∧ V i undef w)
def AllOK (R : Nat → Oper → Prop) : Nat → List Oper → Prop
  | _, [] => True
  | i, o :: t => R i o ∧ AllOK R (i + 1) t
theorem AllOK.get {R : Nat → Oper → Prop} : ∀ {l : List Oper} {i : Nat}, AllOK R i l → ∀ (k : Nat) (o : Oper), l[k]? = some o → R (i + k) o
  | [], _, _, k, o, h => by simp at h
  | x :: t, i, h, 0, o, hk => by simp at hk; subst hk; exact h.1
  | x :: t, i, h, k + 1, o, hk => by
    have := AllOK.get h.2 k o (by simpa using hk)
    rwa [Nat.add_assoc, Nat.add_comm 1 k] at this
/-- Edges lead back; no two operations have one temporary; each temporary is in the frame. -/
def okB (ops : Array Oper) (n : Nat) : Bool :=
  ((List.range ops.size).all fun i => ((ops[i]?).map fun o => o.after.all fun e => decide (e.on < i)).getD true) &&
  ((List.range ops.size).all fun i => (List.range ops.size).all fun j => i == j || (match (ops[i]?).bind (·.dst) with | some d => (ops[j]?).bind (·.dst) != some d | none => true)) &&
  (ops.all fun o => match o.dst with | some d => decide (d < n) | none => true)
structure OkP (ops : Array Oper) (n : Nat) : Prop where
  back : ∀ (i : Nat) (o : Oper), ops[i]? = some o → ∀ e ∈ o.after, e.on < i
  apart : ∀ (i j : Nat) (oi oj : Oper) (d : Tmp), ops[i]? = some oi → ops[j]? = some oj → oi.dst = some d → oj.dst = some d → i = j
  here : ∀ (i : Nat) (o : Oper) (d : Tmp), ops[i]? = some o → o.dst = some d → d < n
theorem okP {ops : Array Oper} {n : Nat} (h : okB ops n = true) : OkP ops n := by
  unfold okB at h
  rw [Bool.and_eq_true, Bool.and_eq_true] at h
  obtain ⟨⟨h1, h2⟩, h3⟩ := h
  have lt : ∀ (i : Nat) (o : Oper), ops[i]? = some o → i < ops.size := fun i o hi => (Array.getElem?_eq_some_iff.1 hi).1
  refine ⟨fun i o hi e he => ?_, fun i j oi oj d hi hj di dj => ?_, fun i o d hi hd => ?_⟩
  · have := List.all_eq_true.1 h1 i (List.mem_range.2 (lt i o hi))
    simp only [hi, Option.map_some, Option.getD_some] at this
    have h5 := Array.all_eq_true'.1 this e he
    exact of_decide_eq_true h5
  · have := List.all_eq_true.1 (List.all_eq_true.1 h2 i (List.mem_range.2 (lt i oi hi))) j (List.mem_range.2 (lt j oj hj))
    simp only [hi, hj, Option.bind_some, di, dj] at this
    simpa using this
  · have := Array.all_eq_true'.1 h3 o (Array.mem_of_getElem? hi)
    rw [hd] at this
    exact of_decide_eq_true this

section
variable {P : Program} {ops : Array Oper} {Q : Exit → Act → World → Prop} {a0 : Act} {Base : World → Prop} {Step : World → World → Prop} {V : Nat → Value → World → Prop}

theorem eval_put_same {a : Act} {d : Tmp} {v : Value} (h : d < a.tmps.size) : (a.put (some d) v).eval (.tmp d) = v := by
  show (a.tmps.setIfInBounds d v).getD d undef = v
  simp [h]
theorem eval_put_other {a : Act} {dst : Option Tmp} {s : Tmp} {v : Value} (h : dst ≠ some s) : (a.put dst v).eval (.tmp s) = a.eval (.tmp s) := by
  cases dst with
  | none => rfl
  | some d =>
    have hne : d ≠ s := fun e => h (by rw [e])
    show (a.tmps.setIfInBounds d v).getD s undef = a.tmps.getD s undef
    simp [hne]
theorem size_put (a : Act) (dst : Option Tmp) (v : Value) : (a.put dst v).tmps.size = a.tmps.size := by
  cases dst <;> simp [Act.put]
theorem defers_put (a : Act) (dst : Option Tmp) (v : Value) : (a.put dst v).defers = a.defers := by
  cases dst <;> rfl
theorem Like.put {a : Act} (h : Like ops a0 a) {i : Nat} {o : Oper} (ho : ops[i]? = some o) (v : Value) : Like ops a0 (a.put o.dst v) := by
  refine ⟨(size_put _ _ _).trans h.size, (defers_put _ _ _).trans h.defers, fun s hs => ?_⟩
  have hne : o.dst ≠ some s := by
    have := Array.all_eq_true'.1 hs o (Array.mem_of_getElem? ho)
    simpa using this
  rw [eval_put_other hne, h.rest s hs]
theorem valAt_put_same {a : Act} {i : Nat} {o : Oper} (ho : ops[i]? = some o) {n : Nat} (hok : OkP ops n) (hn : a.tmps.size = n) (v : Value) : valAt ops (a.put o.dst v) i = if o.dst.isSome then v else undef := by
  unfold valAt
  rw [ho]
  simp only [dval]
  cases hd : o.dst with
  | none => rfl
  | some d => simp only [Option.isSome_some, if_true]; exact eval_put_same (by rw [hn]; exact hok.here i o d ho hd)
theorem valAt_put_other {a : Act} {i j : Nat} {o : Oper} (ho : ops[i]? = some o) {n : Nat} (hok : OkP ops n) (hij : j ≠ i) (v : Value) : valAt ops (a.put o.dst v) j = valAt ops a j := by
  unfold valAt
  cases hj : ops[j]? with
  | none => rfl
  | some oj =>
    simp only [dval]
    cases hdj : oj.dst with
    | none => rfl
    | some d =>
      simp only
      exact eval_put_other (fun e => hij (hok.apart i j o oj d ho hj e hdj).symm)

structure I (ops : Array Oper) (a0 : Act) (Base : World → Prop) (V : Nat → Value → World → Prop) (listed : Array Bool) (a : Act) (w : World) : Prop where
  size : listed.size = ops.size
  like : Like ops a0 a
  base : Base w
  val : ∀ j, j < ops.size → listed.getD j true = true → V j (valAt ops a j) w

theorem mem_ready {listed : Array Bool} {i : Nat} (h : i ∈ Region.ready .any ops listed) : listed.getD i true = false ∧ ∃ o, ops[i]? = some o ∧ ∀ e ∈ o.after, Region.binds .any e = true → listed.getD e.on false = true := by
  unfold Region.ready at h
  rw [List.mem_filter] at h
  obtain ⟨h1, h2⟩ := h
  rw [Bool.and_eq_true] at h2
  obtain ⟨h2, h3⟩ := h2
  cases ho : ops[i]? with
  | none => rw [ho] at h3; simp at h3
  | some o =>
    rw [ho] at h3
    simp only [Option.map_some, Option.getD_some] at h3
    refine ⟨by simpa using h2, o, rfl, fun e he hb => ?_⟩
    have := Array.all_eq_true'.1 h3 e he
    rw [hb] at this
    simpa using this
theorem all_listed {n : Nat} (hok : OkP ops n) {listed : Array Bool} (hs : listed.size = ops.size) (h : Region.ready .any ops listed = []) : ∀ j, j < ops.size → listed.getD j true = true := by
  intro j
  induction j using Nat.strongRecOn with
  | _ j ih =>
    intro hj
    cases hb : listed.getD j true with
    | true => rfl
    | false =>
      exfalso
      have hm : j ∈ Region.ready .any ops listed := by
        unfold Region.ready
        rw [List.mem_filter]
        refine ⟨List.mem_range.2 hj, ?_⟩
        rw [hb]
        have ho : ops[j]? = some ops[j] := Array.getElem?_eq_getElem hj
        rw [ho]
        simp only [Option.map_some, Option.getD_some, Bool.not_false, Bool.true_and]
        refine Array.all_eq_true'.2 fun e he => ?_
        have hlt := hok.back j _ ho e he
        have h1 := ih e.on hlt (by omega)
        have h2 : e.on < listed.size := by omega
        have : listed.getD e.on false = true := by
          simp [h2] at h1 ⊢; exact h1
        simp [this]
      rw [h] at hm
      cases hm
def unl (listed : Array Bool) : Nat := listed.toList.countP (· == false)
theorem unl_set (listed : Array Bool) (i : Nat) (h : listed.getD i true = false) : unl (listed.setIfInBounds i true) + 1 = unl listed := by
  have hi : i < listed.size := by
    rcases Nat.lt_or_ge i listed.size with h' | h'
    · exact h'
    · simp [h'] at h
  unfold unl
  rw [Array.toList_setIfInBounds]
  have key : ∀ (l : List Bool) (i : Nat), l[i]? = some false → (l.set i true).countP (· == false) + 1 = l.countP (· == false) := by
    intro l
    induction l with
    | nil => intro i h; simp at h
    | cons x t ih =>
      intro i h
      cases i with
      | zero => simp at h; subst h; simp
      | succ i =>
        have := ih i (by simpa using h)
        cases x <;> simp_all <;> omega
  refine key _ _ ?_
  simp [hi] at h
  rw [Array.getElem?_toList, Array.getElem?_eq_getElem hi, h]
theorem ready_nil_of_unl {listed : Array Bool} (h : unl listed = 0) : Region.ready .any ops listed = [] := by
  apply List.eq_nil_iff_forall_not_mem.2
  intro i hi
  have := unl_set listed i (mem_ready hi).1
  omega
theorem wpAny_inv {n : Nat} (hok : OkP ops n) (hn : a0.tmps.size = n)
    (hmono : ∀ w w' j v, Step w w' → V j v w → V j v w')
    (hall : AllOK (OpOK P ops Q a0 Base Step V) 0 ops.toList)
    (hend : ∀ a' w', Like ops a0 a' → Base w' → (∀ j, j < ops.size → V j (valAt ops a' j) w') → Q .normal a' w') :
    ∀ (fuel : Nat) (listed : Array Bool) (a : Act) (w : World), unl listed ≤ fuel → I ops a0 Base V listed a w → wpAny P .any ops Q fuel listed a w := by
  intro fuel
  induction fuel with
  | zero =>
    intro listed a w hf hI
    have hr : Region.ready .any ops listed = [] := ready_nil_of_unl (listed := listed) (by omega)
    exact ⟨hr, hend a w hI.like hI.base fun j hj => hI.val j hj (all_listed hok hI.size hr j hj)⟩
  | succ fuel ih =>
    intro listed a w hf hI
    refine ⟨fun hr => hend a w hI.like hI.base fun j hj => hI.val j hj (all_listed hok hI.size hr j hj), fun i hi => ?_⟩
    obtain ⟨hun, o, ho, hdep⟩ := mem_ready hi
    have hR := hall.get i o (by simpa using ho)
    rw [Nat.zero_add] at hR
    have hlt : i < ops.size := (Array.getElem?_eq_some_iff.1 ho).1
    have hd : Deps ops V a w o.after.toList := Deps.of _ fun e he hb => by
      have he' : e ∈ o.after := by simpa using he
      have h1 := hok.back i o ho e he'
      have h2 := hdep e he' hb
      refine hI.val e.on (by omega) ?_
      have h3 : e.on < listed.size := by rw [hI.size]; omega
      simp [h3] at h2 ⊢
      exact h2
    have hset : unl (listed.setIfInBounds i true) ≤ fuel := by have := unl_set listed i hun; omega
    have hIset : ∀ (v : Value) (w' : World), Step w w' → Base w' → V i (if o.dst.isSome then v else undef) w' → I ops a0 Base V (listed.setIfInBounds i true) (a.put o.dst v) w' := fun v w' hs hb hv =>
      ⟨by simp [hI.size], hI.like.put ho v, hb, fun j hj hl => by
        by_cases hji : j = i
        · subst hji
          rw [valAt_put_same ho hok (by rw [hI.like.size, hn])]; exact hv
        · rw [valAt_put_other ho hok hji]
          refine hmono w w' _ _ hs (hI.val j hj ?_)
          have hij : i ≠ j := fun e => hji e.symm
          have hjl : j < listed.size := by rw [hI.size]; exact hj
          simp [hjl, hij] at hl ⊢
          exact hl⟩
    unfold wpOp
    rw [ho]
    simp only
    rcases hR a w hI.like hI.base hd with ⟨hw, hwp⟩ | ⟨hw, hv⟩
    · rw [if_pos hw]
      refine .inl (Oper.wp_mono ?_ hwp)
      rintro a' w' ⟨v, rfl, hs, hb, hv⟩
      exact ih _ _ _ hset (hIset v w' hs hb hv)
    · rw [if_neg (by rw [hw]; decide)]
      refine ih _ _ _ hset ⟨by simp [hI.size], hI.like.put ho undef, hI.base, fun j hj hl => ?_⟩
      by_cases hji : j = i
      · subst hji
        rw [valAt_put_same ho hok (by rw [hI.like.size, hn])]
        cases o.dst <;> exact hv
      · rw [valAt_put_other ho hok hji]
        refine hI.val j hj ?_
        have hij : i ≠ j := fun e => hji e.symm
        have hjl : j < listed.size := by rw [hI.size]; exact hj
        simp [hjl, hij] at hl ⊢
        exact hl
/-- **The rule.** -/
theorem wp_region_inv {id : Nat} {a : Act} {w : World} (hm : P.follows .mixedOrders = true) (hok : okB ops a.tmps.size = true)
    (Base : World → Prop) (Step : World → World → Prop) (V : Nat → Value → World → Prop)
    (hmono : ∀ w w' j v, Step w w' → V j v w → V j v w') (hB : Base w.drew)
    (hall : AllOK (OpOK P ops Q a Base Step V) 0 ops.toList)
    (hend : ∀ a' w', Like ops a a' → Base w' → (∀ j, j < ops.size → V j (valAt ops a' j) w') → Q .normal a' w') : (Code.region id ops true).wp P Q a w := by
  refine wp_region_any hm (wpAny_inv (okP hok) rfl hmono hall hend _ _ _ _ ?_ ⟨by simp, ⟨rfl, rfl, fun _ _ => rfl⟩, hB, fun j hj hl => ?_⟩)
  · unfold unl
    exact Nat.le_trans List.countP_le_length (by simp)
  · simp [hj] at hl
/-- What is listed. -/
def Lst (listed : Array Bool) : Nat → Bool := fun j => listed.getD j false
theorem lst_set (listed : Array Bool) (i : Nat) (hi : i < listed.size) : ∀ j, Lst (listed.setIfInBounds i true) j = if j = i then true else Lst listed j := fun j => by
  unfold Lst
  by_cases h : j = i
  · subst h; simp [hi]
  · have h2 : ¬ i = j := fun e => h e.symm
    simp [h, h2]
/-- **The rule, by any invariant** of what was done, the frame and the world. No operation is guarded. -/
theorem wpAny_J {n : Nat} (hok : OkP ops n) (hg : ∀ (i : Nat) (o : Oper), ops[i]? = some o → o.guard = none) (J : (Nat → Bool) → Act → World → Prop)
    (hop : ∀ L L' a w i o, ops[i]? = some o → L i = false → (∀ e ∈ o.after, Region.binds .any e = true → L e.on = true) → J L a w → (∀ j, L' j = if j = i then true else L j) → o.wp P a w (fun a' w' => J L' a' w') Q)
    (hend : ∀ L a' w', (∀ j, j < ops.size → L j = true) → J L a' w' → Q .normal a' w') :
    ∀ (fuel : Nat) (listed : Array Bool) (a : Act) (w : World), unl listed ≤ fuel → listed.size = ops.size → J (Lst listed) a w → wpAny P .any ops Q fuel listed a w := by
  have hfin : ∀ (listed : Array Bool) (a : Act) (w : World), Region.ready .any ops listed = [] → listed.size = ops.size → J (Lst listed) a w → Q .normal a w := fun listed a w hr hs hJ => hend _ a w (fun j hj => by
    have h := all_listed hok hs hr j hj
    have hj2 : j < listed.size := by omega
    unfold Lst
    simp [hj2] at h ⊢
    exact h) hJ
  intro fuel
  induction fuel with
  | zero =>
    intro listed a w hf hs hJ
    have hr : Region.ready .any ops listed = [] := ready_nil_of_unl (listed := listed) (by omega)
    exact ⟨hr, hfin listed a w hr hs hJ⟩
  | succ fuel ih =>
    intro listed a w hf hs hJ
    refine ⟨fun hr => hfin listed a w hr hs hJ, fun i hi => ?_⟩
    obtain ⟨hun, o, ho, hdep⟩ := mem_ready hi
    have hlt : i < ops.size := (Array.getElem?_eq_some_iff.1 ho).1
    have hset : unl (listed.setIfInBounds i true) ≤ fuel := by have := unl_set listed i hun; omega
    have hLi : Lst listed i = false := by
      have hj2 : i < listed.size := by omega
      unfold Lst
      simp [hj2] at hun ⊢
      exact hun
    unfold wpOp
    rw [ho]
    simp only
    rw [if_pos (by simp [Region.wanted, hg i o ho])]
    refine .inl (Oper.wp_mono ?_ (hop (Lst listed) (Lst (listed.setIfInBounds i true)) a w i o ho hLi hdep hJ (lst_set listed i (by omega))))
    intro a' w' hJ'
    exact ih _ _ _ hset (by simp [hs]) hJ'
theorem wp_region_J {id : Nat} {a : Act} {w : World} (hm : P.follows .mixedOrders = true) (hok : okB ops a.tmps.size = true) (hg : ∀ (i : Nat) (o : Oper), ops[i]? = some o → o.guard = none)
    (J : (Nat → Bool) → Act → World → Prop) (h0 : ∀ L, (∀ j, L j = false) → J L a w.drew)
    (hop : ∀ L L' a w i o, ops[i]? = some o → L i = false → (∀ e ∈ o.after, Region.binds .any e = true → L e.on = true) → J L a w → (∀ j, L' j = if j = i then true else L j) → o.wp P a w (fun a' w' => J L' a' w') Q)
    (hend : ∀ L a' w', (∀ j, j < ops.size → L j = true) → J L a' w' → Q .normal a' w') : (Code.region id ops true).wp P Q a w := by
  refine wp_region_any hm (wpAny_J (okP hok) hg J hop hend _ _ _ _ ?_ (by simp) (h0 _ fun j => ?_))
  · unfold unl
    exact Nat.le_trans List.countP_le_length (by simp)
  · unfold Lst
    by_cases h : j < ops.size
    · simp [h]
    · simp [h]
/-- A plain operation; a guarded one whose guard is met. -/
theorem opOK_plain {i : Nat} {o : Oper} (hg : o.guard = none)
    (h : ∀ a w, Like ops a0 a → Base w → Deps ops V a w o.after.toList → o.wp P a w (fun a' w' => ∃ v, a' = a.put o.dst v ∧ Step w w' ∧ Base w' ∧ V i (if o.dst.isSome then v else undef) w') Q) : OpOK P ops Q a0 Base Step V i o :=
  fun a w h1 h2 h3 => .inl ⟨by simp [Region.wanted, hg], h a w h1 h2 h3⟩
theorem yielded_val {a : Act} {j : Nat} {b : Bool} (h : valAt ops a j = .bool b) : yielded ops a.tmps j = some b := by
  unfold valAt at h
  unfold yielded
  cases ho : ops[j]? with
  | none => rw [ho] at h; cases h
  | some o =>
    rw [ho] at h
    simp only [dval] at h
    cases hd : o.dst with
    | none => rw [hd] at h; cases h
    | some d =>
      rw [hd] at h
      simp only [Act.eval] at h
      have hlt : d < a.tmps.size := by
        rcases Nat.lt_or_ge d a.tmps.size with h' | h'
        · exact h'
        · simp [h'] at h; cases h
      simp [hlt] at h
      simp [hd, hlt, h]
theorem opOK_guard {i : Nat} {o : Oper} (j : Nat) (b : Bool) (hg : o.guard = some (j, b)) (hv : ∀ a w, Like ops a0 a → Base w → Deps ops V a w o.after.toList → valAt ops a j = .bool b)
    (h : ∀ a w, Like ops a0 a → Base w → Deps ops V a w o.after.toList → o.wp P a w (fun a' w' => ∃ v, a' = a.put o.dst v ∧ Step w w' ∧ Base w' ∧ V i (if o.dst.isSome then v else undef) w') Q) : OpOK P ops Q a0 Base Step V i o :=
  fun a w h1 h2 h3 => .inl ⟨by simp [Region.wanted, hg, yielded_val (hv a w h1 h2 h3)], h a w h1 h2 h3⟩
/-- An operation whose run is known. -/
theorem wp_of_run {o : Oper} {a : Act} {w w' : World} {K : Act → World → Prop} {v : Value} (hr : (execOp a.eval o).run P w = .ok (.value v) w') (h : K (a.put o.dst v) w') : o.wp P a w K Q := by
  unfold Oper.wp; rw [hr]; exact h
theorem wp_of_skip {o : Oper} {a : Act} {w w' : World} {K : Act → World → Prop} (hr : (execOp a.eval o).run P w = .ok .skip w') (h : K (a.put o.dst undef) w') : o.wp P a w K Q := by
  unfold Oper.wp; rw [hr]; exact h
theorem wp_of_enter {o : Oper} {a : Act} {w w1 : World} {K : Act → World → Prop} {f : FuncId} {args : Array Value} (hr : (execOp a.eval o).run P w = .ok (.enter f args) w1) {R : Ending → World → Prop} (hc : Calls P f args w1 R)
    (h : ∀ e w', R e w' → ∃ v, e = .returned v ∧ K (a.put o.dst v) w') : o.wp P a w K Q := by
  unfold Oper.wp; rw [hr, Oper.upon_enter]
  refine hc.mono fun e w' he => ?_
  obtain ⟨v, rfl, hk⟩ := h e w' he
  exact hk
theorem run_move {o : Oper} {a : Act} {w : World} (x : Operand) (ho : o.op = .move x) (v : Value) (hx : a.eval x = v) : (execOp a.eval o).run P w = .ok (.value v) w := by
  unfold execOp; rw [ho]; simp only [hx]; rfl
theorem run_assign {o : Oper} {a : Act} {w : World} (x : Operand) (ho : o.op = .assign x) (v : Value) (hx : a.eval x = v) : (execOp a.eval o).run P w = .ok (.value v) w := by
  unfold execOp; rw [ho]; simp only [hx]; rfl
theorem run_pick {o : Oper} {a : Act} {w : World} (c x y : Operand) (ho : o.op = .pick c x y) (b : Bool) (hc : a.eval c = .bool b) (v : Value) (hv : (if b then a.eval x else a.eval y) = v) : (execOp a.eval o).run P w = .ok (.value v) w := by
  unfold execOp; rw [ho]; subst hv; cases b <;> simp [hc, asBool] <;> rfl
theorem run_of {o : Oper} {a : Act} {w w' : World} {s : Sem Value} {v : Value} (he : execOp a.eval o = (do pure (.value (← s)))) (hs : s.run P w = .ok v w') : (execOp a.eval o).run P w = .ok (.value v) w' := by
  rw [he, Sem.run_bind, hs]; rfl
end
end Inv
