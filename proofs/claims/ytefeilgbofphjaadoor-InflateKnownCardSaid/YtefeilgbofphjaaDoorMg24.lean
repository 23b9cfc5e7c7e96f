/-
  Merged, in the order in which they build: Wrn Wro Wrp All Tls Blks BlkW.
-/
import Derived.Laws.BytesArg
import Derived.Test.YtefeilgbofphjaaDoorMg15
import Derived.Test.YtefeilgbofphjaaDoorMg21
import Derived.Test.YtefeilgbofphjaaDoorMg22
import Derived.Test.YtefeilgbofphjaaDoorMg23
/-
  Written: what holds when a part is begun, and how it goes on.
-/
namespace Go.Proofs.YtefeilgbofphjaaDoor
open Go.RowKit Hf
def wlen (l : Nat) (p : Prt) : Nat := if p.kd % 3 = 0 then l + min p.bs.length 80 else plen l p.bs p.cs
def ol (ps : List Prt) : Nat → Nat
  | 0 => 0
  | i + 1 => wlen (ol ps i) (ps.getD i nop)
def kb (n : Nat) (ps : List Prt) : Nat → List Inf.Blk
  | 0 => []
  | i + 1 => kb n ps i ++ [⟨(ps.getD i nop).kd % 3, decide (i + 1 = n), ol ps i, ol ps (i + 1)⟩]
theorem olen_le : ∀ (cs : List (Nat × Nat)) (l : Nat), olen l cs ≤ l + 258 * cs.length
  | [], l => Nat.le_refl _
  | c :: cs, l => by
    have h := olen_le cs (olen1 l c)
    have h1 : olen1 l c ≤ l + 258 := by unfold olen1; split <;> omega
    show olen (olen1 l c) cs ≤ _
    rw [List.length_cons]; omega
theorem wlen_le (l : Nat) (p : Prt) : wlen l p ≤ l + 1628 := by
  unfold wlen
  split
  · omega
  · unfold plen
    have h := olen_le (p.cs.take 6) (l + min p.bs.length 80)
    have h2 : (p.cs.take 6).length ≤ 6 := by rw [List.length_take]; omega
    omega
theorem ol_le (ps : List Prt) : ∀ i, ol ps i ≤ 1628 * i
  | 0 => Nat.le_refl _
  | i + 1 => by have h := ol_le ps i; have h2 := wlen_le (ol ps i) (ps.getD i nop); rw [ol]; omega
/-- The pen, what went out, the blocks so far. -/
structure WrI (w1 : World) (gp n : Nat) (ps : List Prt) (i : Nat) (wr : World) (sv ov : Value) (L : List Bool) (out : List UInt8) : Prop where
  pen : PenAt wr w1.heap.size gp sv L
  own : wr.ownsRow w1.heap.size 5 1 ov out.length (bl out)
  apart : ∀ j, ov.ownBlock = some j → ¬ penX gp sv j
  only : OnlyS (fun _ => False) w1 wr
  len : out.length = ol ps i
  size : L.length ≤ 20000 * i
  str : i < n → StrW L out (kb n ps i)
  fin : i = n → 0 < n → StrE L out (kb n ps i)
/-- One part more. -/
theorem WrI.next {w1 wr w2 : World} {gp n : Nat} {ps : List Prt} {i : Nat} {sv ov sv2 ov2 : Value} {L M : List Bool} {out out2 : List UInt8} (h : WrI w1 gp n ps i wr sv ov L out) (hi : i < n) (hp : PenAt w2 w1.heap.size gp sv2 (L ++ M)) (ho : w2.ownsRow w1.heap.size 5 1 ov2 out2.length (bl out2)) (ha : ∀ j, ov2.ownBlock = some j → ¬ penX gp sv2 j) (hO : OnlyS (fun _ => False) w1 w2) (hl : out2.length = wlen out.length (ps.getD i nop)) (hM : M.length ≤ 20000)
    (hb : BlkW L.length M out out2 ⟨(ps.getD i nop).kd % 3, decide (i + 1 = n), out.length, out2.length⟩) : WrI w1 gp n ps (i + 1) w2 sv2 ov2 (L ++ M) out2 := by
  have hlen : out2.length = ol ps (i + 1) := by rw [ol, ← h.len]; exact hl
  have hk : kb n ps (i + 1) = kb n ps i ++ [⟨(ps.getD i nop).kd % 3, decide (i + 1 = n), out.length, out2.length⟩] := by rw [kb, ← hlen, ← h.len]
  refine ⟨hp, ho, ha, hO, hlen, by rw [List.length_append]; have := h.size; omega, fun hlt => ?_, fun he _ => ?_⟩
  · rw [hk]
    exact (h.str hi).more hb (decide_eq_false (by omega))
  · rw [hk]
    exact (h.str hi).last hb (decide_eq_true he)
theorem wri_zero (w1 : World) (gp n : Nat) (ps : List Prt) (hg : gp = w1.heap.size) : WrI w1 gp n ps 0 (w1.alloc (.cells #[.slice none 0 0, .int .i64 0] 46)) (.slice none 0 0) (.slice none 0 0) [] [] := by
  subst hg
  refine ⟨⟨heap_alloc_new w1 _, World.ownsRow_nil _ _ _ _, fun j hj => by simp [Value.ownBlock] at hj, Nat.le_refl _⟩, World.ownsRow_nil _ _ _ _, fun j hj => by simp [Value.ownBlock] at hj, OnlyS.alloc _ _, rfl, Nat.zero_le _, fun _ => strw_nil, fun h1 h2 => by omega⟩
def partsOf (ps : List Prt) : List Prt := (if ps = [] then [nop] else ps).take 5
def WrPost (ps : List Prt) (w : World) (e : Ending) (w' : World) : Prop :=
  ∃ bv ov L out, e = .returned (.tuple #[bv, ov]) ∧ OnlyS (fun _ => False) w w' ∧ w'.ownsRow w.heap.size 5 1 bv (pack L).length (bl (pack L)) ∧ w'.ownsRow w.heap.size 5 1 ov out.length (bl out) ∧ (∀ j, ov.ownBlock = some j → bv.ownBlock ≠ some j) ∧
    StrE L out (kb (partsOf ps).length (partsOf ps) (partsOf ps).length) ∧ out.length = ol (partsOf ps) (partsOf ps).length ∧ L.length ≤ 100000
theorem own_far {w1 wr wa wx : World} {gp n : Nat} {ps : List Prt} {i : Nat} {sv ov : Value} {L : List Bool} {out : List UInt8} (hI : WrI w1 gp n ps i wr sv ov L out) (hal : OnlyS (fun _ => False) wr wa) (hox : OnlyS (penX gp sv) wa wx) : wx.ownsRow w1.heap.size 5 1 ov out.length (bl out) :=
  own_stays hI.own (fun k hk => (hox.block k (Nat.lt_of_lt_of_le (own_lt hI.own k hk).2 hal.size) (hI.apart k hk)).trans (hal.block k (own_lt hI.own k hk).2 (fun h => h)))
/-- All that was written lies in new blocks. -/
theorem wri_only {w1 wr wa wx : World} {gp n : Nat} {ps : List Prt} {i : Nat} {sv ov : Value} {L : List Bool} {out : List UInt8} (hI : WrI w1 gp n ps i wr sv ov L out) (hal : OnlyS (fun _ => False) wr wa) (hox : OnlyS (penX gp sv) wa wx) : OnlyS (fun _ => False) w1 wx :=
  (hI.only.trans hal).trans' hox (fun i hi => .inr (hI.pen.x_lt i hi).1)
theorem stored_next {w1 wr wa wx w' : World} {gp n : Nat} {ps : List Prt} {i : Nat} {sv svx ov ov' : Value} {L M : List Bool} {out bs2 : List UInt8} (hI : WrI w1 gp n ps i wr sv ov L out) (hi : i < n) (hal : OnlyS (fun _ => False) wr wa) (hox : OnlyS (penX gp sv) wa wx) (hp : PenAt wx w1.heap.size gp svx (L ++ M)) (hg : Grew wa (penX gp sv) (penX gp svx))
    (hown : w'.ownsRow w1.heap.size 5 1 ov' (out.length + bs2.length) (bl out ++ bl bs2)) (hgr : wx.grownBy w' ov.ownBlock) (hat : ov'.ownBlock = ov.ownBlock ∨ ov'.ownBlock = some wx.heap.size) (hw : (out ++ bs2).length = wlen out.length (ps.getD i nop)) (hM : M.length ≤ 20000)
    (hb : BlkW L.length M out (out ++ bs2) ⟨(ps.getD i nop).kd % 3, decide (i + 1 = n), out.length, (out ++ bs2).length⟩) : WrI w1 gp n ps (i + 1) w' svx ov' (L ++ M) (out ++ bs2) := by
  have hO1 : OnlyS (fun i => ov.ownBlock = some i) wx w' := OnlyS.grown hgr (fun k hk => hk)
  have hlt : ∀ j, ov.ownBlock = some j → w1.heap.size ≤ j ∧ j < wr.heap.size := fun j hj => own_lt hI.own j hj
  have hnx : ∀ j, ov.ownBlock = some j → ¬ penX gp svx j := fun j hj h => by
    rcases hg j h with h1 | h1
    · exact hI.apart j hj h1
    · have := (hlt j hj).2; have := hal.size; omega
  refine hI.next hi (hp.stay hO1 hnx) (by rw [List.length_append, bl_append]; exact hown) (fun j hj => ?_) ((wri_only hI hal hox).trans' hO1 (fun j hj => .inr (hlt j hj).1)) hw hM hb
  rcases hat with h | h
  · exact hnx j (by rw [← h]; exact hj)
  · intro hx
    rw [h] at hj; cases hj
    have := (hp.x_lt _ hx).2
    omega
/-- The signs of a part first, then the pen. -/
theorem coded_next {w1 wr wa wx wy w' : World} {gp n : Nat} {ps : List Prt} {i : Nat} {sv svx svy ov ov' lv : Value} {L M1 M : List Bool} {out out2 : List UInt8} {ss : List Sg} (hI : WrI w1 gp n ps i wr sv ov L out) (hi : i < n) (hal : OnlyS (fun _ => False) wr wa) (hox : OnlyS (penX gp sv) wa wx) (hp : PenAt wx w1.heap.size gp svx (L ++ M1)) (hg : Grew wa (penX gp sv) (penX gp svx))
    (hS : SgAt wx wy w1.heap.size ov lv ov' ss out2) (hy : OnlyS (penX gp svx) wy w') (hpy : PenAt w' w1.heap.size gp svy (L ++ M)) (hgy : Grew wy (penX gp svx) (penX gp svy)) (hw : out2.length = wlen out.length (ps.getD i nop)) (hM : M.length ≤ 20000)
    (hb : BlkW L.length M out out2 ⟨(ps.getD i nop).kd % 3, decide (i + 1 = n), out.length, out2.length⟩) : WrI w1 gp n ps (i + 1) w' svy ov' (L ++ M) out2 := by
  have hlt : ∀ j, ov.ownBlock = some j → w1.heap.size ≤ j ∧ j < wr.heap.size := fun j hj => own_lt hI.own j hj
  have hnx : ∀ j, ov.ownBlock = some j → ¬ penX gp svx j := fun j hj h => by
    rcases hg j h with h1 | h1
    · exact hI.apart j hj h1
    · have := (hlt j hj).2; have := hal.size; omega
  have hnx2 : ∀ j, ov'.ownBlock = some j → ¬ penX gp svx j := fun j hj h => by
    rcases hS.grew j hj with h1 | h1
    · exact hnx j h1 h
    · have := (hp.x_lt _ h).2; omega
  have hge : ∀ j, ov'.ownBlock = some j → w1.heap.size ≤ j ∧ j < wy.heap.size := fun j hj => own_lt hS.own j hj
  refine hI.next hi hpy (own_stays hS.own (fun k hk => hy.block k (hge k hk).2 (hnx2 k hk))) (fun j hj h => ?_) (((wri_only hI hal hox).trans' hS.only (fun j hj => .inr (hlt j hj).1)).trans' hy (fun j hj => .inr (hp.x_lt j hj).1)) hw hM hb
  rcases hgy j h with h1 | h1
  · exact hnx2 j hj h1
  · have := (hge j hj).2; omega
/-- The bits up to the next byte. -/
def pad8 (p : Nat) : Nat := (8 - p % 8) % 8
theorem pad8_lt (p : Nat) : pad8 p < 8 := by unfold pad8; omega
theorem pad8_at (p : Nat) : (p + pad8 p) % 8 = 0 := by unfold pad8; omega
theorem pad8_not (p c : Nat) (h : c < pad8 p) : (p + c) % 8 ≠ 0 := by unfold pad8 at h; omega
theorem bits_take (bs : List UInt8) (q : Nat) (hq : q < bs.length) : Inf.bits (bs.take (q + 1)) = Inf.bits (bs.take q) ++ num (bs.getD q 0).toNat 8 := by
  rw [List.take_succ_eq_append_getElem hq]
  have e : bs.getD q 0 = bs[q] := by rw [List.getD_eq_getElem?_getD, List.getElem?_eq_getElem hq]; rfl
  rw [e, bits_append, bits_cons8]
  show Inf.bits _ ++ (_ ++ []) = _
  rw [List.append_nil]
end Go.Proofs.YtefeilgbofphjaaDoor
/-
  Written: what the body's call asks, from the signs and from the codes' rows.
-/
namespace Go.Proofs.YtefeilgbofphjaaDoor
open Go.RowKit Hf
theorem body_ready {w5 w6 w8 : World} {B gp : Nat} {sv5 lv ov ov' : Value} {L1 : List Bool} {ss : List Sg} {out2 : List UInt8} (hp : PenAt w5 B gp sv5 L1) (hS : SgAt w5 w6 B ov lv ov' ss out2) (hu : ∀ j, ov.ownBlock = some j → ¬ penX gp sv5 j) (ho : OnlyS (fun _ => False) w6 w8) : PenAt w8 B gp sv5 L1 ∧ RowS w8 lv ss (penX gp sv5) := by
  have h1 : PenAt w6 B gp sv5 L1 := hp.stay hS.only hu
  refine ⟨h1.stay ho (fun _ h => h.elim), ⟨(own_SlK hS.row).only ho (fun _ _ _ _ _ h => h), fun p n c e h0 => ?_⟩⟩
  obtain ⟨_, ⟨h3, h4⟩ | ⟨g, cap, cur, h3, h4, h5, _⟩⟩ := hS.row
  · rw [h3] at e; cases e
  · rw [h3] at e; cases e
    refine ⟨fun hx => ?_, ?_⟩
    · have := (hp.x_lt _ hx).2
      have h6 : w5.heap.size ≤ g := h4
      simp only at this
      omega
    · exact Nat.lt_of_lt_of_le (Array.getElem?_eq_some_iff.1 h5).1 ho.size
theorem two_off {w6 w7 w8 : World} {a b : Value} {la lb : List Int} {X : Nat → Prop} (hT : TwoAt w6 w7 a b la lb) (ho : OnlyS (fun _ => False) w7 w8) (hx : ∀ i, X i → i < w6.heap.size) : SlV w8 a (ni la) ∧ SlV w8 b (ni lb) ∧ Off w8 X a ∧ Off w8 X b := by
  have key : ∀ {v : Value} {l : List Int}, w7.ownsRow w6.heap.size 3 1 v l.length (ni l) → Off w8 X v := fun {v l} h p n c e h0 => by
    obtain ⟨_, ⟨h3, h4⟩ | ⟨g, cap, cur, h3, h4, h5, _⟩⟩ := h
    · rw [h3] at e; cases e
    · rw [h3] at e; cases e
      refine ⟨fun hxx => ?_, Nat.lt_of_lt_of_le (Array.getElem?_eq_some_iff.1 h5).1 ho.size⟩
      have := hx _ hxx
      simp only at this
      omega
  exact ⟨(own_toV hT.ra).only ho (fun _ _ _ _ _ h => h), (own_toV hT.rb).only ho (fun _ _ _ _ _ h => h), key hT.ra, key hT.rb⟩
theorem sg_m {zs ds : List Int} {ts : List Tok} {out : List UInt8} (h : oks ts out) (hh : ∀ t ∈ ts, t.has zs ds) (h256 : 0 < zs.getD 256 0) (hz : good zs) (hd : good ds) (htl : ts.length ≤ 86) : ∀ k, k ≤ (ssg ts).length → (wds zs ds (ssg ts) k).length ≤ 7958 := fun k hk => by
  have h1 := wds_length hz hd (ssg ts) (fun k hk => (sg_ok h hh h256 k hk).m) k hk
  have h2 := ssg_length ts
  omega
end Go.Proofs.YtefeilgbofphjaaDoor
/-
  Written: a counted code's rows, as they are made, counted, told.
-/
namespace Go.Proofs.YtefeilgbofphjaaDoor
open Go.RowKit Hf
theorem cell53_made {w7 W : World} (v1 v2 : Value) (x y : Array Value) (hW : W = ((((w7.alloc (.cells #[v1] 53)).alloc (.cells #[v2] 53)).alloc (.cells x 3)).alloc (.cells y 3)).drew) :
    W.heap[w7.heap.size]? = some (.cells #[v1] 53 (0, 0)) ∧ W.heap[w7.heap.size + 1]? = some (.cells #[v2] 53 (0, 0)) ∧ W.heap[w7.heap.size + 1 + 1]? = some (.cells x 3 (0, 0)) ∧ W.heap[w7.heap.size + 1 + 1 + 1]? = some (.cells y 3 (0, 0)) ∧ OnlyS (fun _ => False) w7 W := by
  obtain ⟨wa, hwa⟩ : ∃ wa, wa = w7.alloc (.cells #[v1] 53) := ⟨_, rfl⟩
  obtain ⟨wb, hwb⟩ : ∃ wb, wb = wa.alloc (.cells #[v2] 53) := ⟨_, rfl⟩
  obtain ⟨wc, hwc⟩ : ∃ wc, wc = wb.alloc (.cells x 3) := ⟨_, rfl⟩
  obtain ⟨wd, hwd⟩ : ∃ wd, wd = wc.alloc (.cells y 3) := ⟨_, rfl⟩
  have hWd : W = wd.drew := by rw [hW, hwd, hwc, hwb, hwa]
  have oa : OnlyS (fun _ => False) w7 wa := by rw [hwa]; exact OnlyS.alloc _ _
  have ob : OnlyS (fun _ => False) wa wb := by rw [hwb]; exact OnlyS.alloc _ _
  have oc : OnlyS (fun _ => False) wb wc := by rw [hwc]; exact OnlyS.alloc _ _
  have od : OnlyS (fun _ => False) wc wd := by rw [hwd]; exact OnlyS.alloc _ _
  have oe : OnlyS (fun _ => False) wd W := by rw [hWd]; exact OnlyS.drew _
  have sa : wa.heap.size = w7.heap.size + 1 := by rw [hwa]; simp
  have sb : wb.heap.size = w7.heap.size + 1 + 1 := by rw [hwb]; simp [sa]
  have sc : wc.heap.size = w7.heap.size + 1 + 1 + 1 := by rw [hwc]; simp [sb]
  have ra : wa.heap[w7.heap.size]? = some (.cells #[v1] 53 (0, 0)) := by rw [hwa]; exact heap_alloc_new _ _
  have rb : wb.heap[w7.heap.size + 1]? = some (.cells #[v2] 53 (0, 0)) := by rw [hwb, ← sa]; exact heap_alloc_new _ _
  have rc : wc.heap[w7.heap.size + 1 + 1]? = some (.cells x 3 (0, 0)) := by rw [hwc, ← sb]; exact heap_alloc_new _ _
  have rd : wd.heap[w7.heap.size + 1 + 1 + 1]? = some (.cells y 3 (0, 0)) := by rw [hwd, ← sc]; exact heap_alloc_new _ _
  have lt : ∀ {w w' : World} {g : Nat} {o : Obj}, OnlyS (fun _ => False) w w' → w.heap[g]? = some o → w'.heap[g]? = some o := fun ho h => (ho.block _ (Array.getElem?_eq_some_iff.1 h).1 (fun h => h)).trans h
  exact ⟨lt oe (lt od (lt oc (lt ob ra))), lt oe (lt od (lt oc rb)), lt oe (lt od rc), lt oe rd, (((oa.trans ob).trans oc).trans od).trans oe⟩
theorem row_keep {w w' : World} {g : Nat} {o : Obj} (ho : OnlyS (fun _ => False) w w') (h : w.heap[g]? = some o) : w'.heap[g]? = some o := (ho.block _ (Array.getElem?_eq_some_iff.1 h).1 (fun h => h)).trans h
theorem zeros_own {W : World} {B g n : Nat} {x : Array Value} (hx : x.size = n) (hxl : x.toList = ni (List.replicate n 0)) (hn : n ≤ 1000000) (hB : B ≤ g) (h : W.heap[g]? = some (.cells x 3 (0, 0))) : W.ownsRow B 3 1 (.slice (some ⟨g, 0, none⟩) n n) n (ni (List.replicate n 0)) := by
  refine ⟨by simp, .inr ⟨g, n, x, rfl, hB, h, Nat.le_refl _, by unfold maxLen; omega, by omega, ?_⟩⟩
  rw [← hxl, List.take_of_length_le (by simp [hx])]
def cX (s ka kb : Nat) : Nat → Prop := fun i => i = ka ∨ i = kb ∨ i = s ∨ i = s + 1
theorem cnt_madeA {w7 W : World} {c d : Array Value} (ss : List Sg) (hc : c.size = 286) (hcl : c.toList = ni (List.replicate 286 0)) (hd : d.size = 30) (hdl : d.toList = ni (List.replicate 30 0))
    (hW : W = ((((w7.alloc (.cells #[.slice (some ⟨w7.heap.size + 1 + 1, 0, none⟩) 286 286] 53)).alloc (.cells #[.slice (some ⟨w7.heap.size + 1 + 1 + 1, 0, none⟩) 30 30] 53)).alloc (.cells c 3)).alloc (.cells d 3)).drew) :
    CntI w7.heap.size (w7.heap.size + 1) w7.heap.size ss W (cX w7.heap.size (w7.heap.size + 1 + 1) (w7.heap.size + 1 + 1 + 1)) 0 ∧ OnlyS (fun _ => False) w7 W := by
  obtain ⟨h1, h2, h3, h4, h5⟩ := cell53_made _ _ _ _ hW
  refine ⟨⟨_, _, _, _, h1, h2, ?_, ?_, by omega, by omega, by omega, by omega, by omega, rfl⟩, h5⟩
  · rw [show spl ss false 0 = [] from rfl, cnt_nil]
    exact zeros_own hc hcl (by decide) (by omega) h3
  · rw [show spl ss true 0 = [] from rfl, cnt_nil]
    exact zeros_own hd hdl (by decide) (by omega) h4
theorem cnt_madeB {w7 W : World} {c d : Array Value} (ss : List Sg) (hc : c.size = 286) (hcl : c.toList = ni (List.replicate 286 0)) (hd : d.size = 30) (hdl : d.toList = ni (List.replicate 30 0))
    (hW : W = ((((w7.alloc (.cells #[.slice (some ⟨w7.heap.size + 1 + 1 + 1, 0, none⟩) 286 286] 53)).alloc (.cells #[.slice (some ⟨w7.heap.size + 1 + 1, 0, none⟩) 30 30] 53)).alloc (.cells d 3)).alloc (.cells c 3)).drew) :
    CntI w7.heap.size (w7.heap.size + 1) w7.heap.size ss W (cX w7.heap.size (w7.heap.size + 1 + 1 + 1) (w7.heap.size + 1 + 1)) 0 ∧ OnlyS (fun _ => False) w7 W := by
  obtain ⟨h1, h2, h3, h4, h5⟩ := cell53_made _ _ _ _ hW
  refine ⟨⟨_, _, _, _, h1, h2, ?_, ?_, by omega, by omega, by omega, by omega, by omega, rfl⟩, h5⟩
  · rw [show spl ss false 0 = [] from rfl, cnt_nil]
    exact zeros_own hc hcl (by decide) (by omega) h4
  · rw [show spl ss true 0 = [] from rfl, cnt_nil]
    exact zeros_own hd hdl (by decide) (by omega) h3
theorem cnt_lt {ga gb B : Nat} {ss : List Sg} {w : World} {X : Nat → Prop} {k : Nat} (h : CntI ga gb B ss w X k) : ∀ i, X i → i < w.heap.size := by
  obtain ⟨ka, kb, ca, cb, h1, h2, h3, h4, n1, n2, n3, n4, n5, rfl⟩ := h
  intro i hi
  rcases hi with rfl | rfl | rfl | rfl
  · exact (World.ownsRow.lt h3 _ rfl).2
  · exact (World.ownsRow.lt h4 _ rfl).2
  · exact (Array.getElem?_eq_some_iff.1 h1).1
  · exact (Array.getElem?_eq_some_iff.1 h2).1
theorem rowS_any {w5 w6 w8 : World} {B : Nat} {lv ov ov' : Value} {ss : List Sg} {out2 : List UInt8} {X : Nat → Prop} (hS : SgAt w5 w6 B ov lv ov' ss out2) (ho : OnlyS (fun _ => False) w6 w8) (hX : ∀ i, X i → w6.heap.size ≤ i) : RowS w8 lv ss X := by
  refine ⟨(own_SlK hS.row).only ho (fun _ _ _ _ _ h => h), fun p n c e h0 => ?_⟩
  have h := own_blk hS.row p n c e h0
  exact ⟨fun hx => by have := hX _ hx; omega, Nat.lt_of_lt_of_le h ho.size⟩
/-- Counting, at the two cells. -/
theorem cnt_calls {w5 w6 w7 w8 : World} {B : Nat} {lv ov ov' : Value} {ts : List Tok} {out out2 : List UInt8} {X : Nat → Prop} (hS : SgAt w5 w6 B ov lv ov' (ssg ts) out2) (hok : oks ts out) (hl : (ssg ts).length ≤ 173) (h67 : OnlyS (fun _ => False) w6 w7) (h78 : OnlyS (fun _ => False) w7 w8)
    (hI : CntI w7.heap.size (w7.heap.size + 1) w7.heap.size (ssg ts) w8 X 0) : Calls Tryd.prog 14 #[lv, .func (.func 15) #[] #[.pointer (some ⟨w7.heap.size + 1, 0, none⟩), .pointer (some ⟨w7.heap.size, 0, none⟩)]] w8 fun e w' => e = .returned (.tuple #[]) ∧ OnlyS (fun _ => False) w7 w' ∧ ∃ X', CntI w7.heap.size (w7.heap.size + 1) w7.heap.size (ssg ts) w' X' (ssg ts).length := by
  have hXge : ∀ i, X i → w7.heap.size ≤ i := fun i hi => by
    obtain ⟨ka, kb, ca, cb, h1, h2, h3, h4, n1, n2, n3, n4, n5, rfl⟩ := hI
    rcases hi with rfl | rfl | rfl | rfl
    · exact (World.ownsRow.lt h3 _ rfl).1
    · exact (World.ownsRow.lt h4 _ rfl).1
    · exact Nat.le_refl _
    · exact Nat.le_succ _
  have hs := ssg_small hok
  refine (count_walk w8 lv (ssg ts) 15 #[.pointer (some ⟨w7.heap.size + 1, 0, none⟩), .pointer (some ⟨w7.heap.size, 0, none⟩)] (CntI w7.heap.size (w7.heap.size + 1) w7.heap.size (ssg ts)) X (by intro args w; kernel_rfl) (hears15 _ _ _ _ hs.1 hs.2 (by omega)) (fun h => cnt_lt h) hI (rowS_any hS (h67.trans h78) (fun i hi => Nat.le_trans h67.size (hXge i hi))) (by omega)).mono ?_
  rintro e w' ⟨rfl, ho, X', h, _⟩
  exact ⟨rfl, h78.trans' ho (fun i hi => .inr (hXge i hi)), X', h⟩
/-- What the lengths' call answers, after whatever it leaves alone. -/
theorem plen_calls {w9 : World} {B n : Nat} {v : Value} {l : List Nat} (hv : w9.ownsRow B 3 1 v n (ni (cnt l n))) (hn : n ≤ 286) (hl : l.length ≤ 1000000) : ∀ W, OnlyS (fun _ => False) w9 W → Calls Tryd.prog 16 #[v, .int .i64 15] W fun e w' => ∃ u, e = .returned u ∧ OnlyS (fun _ => False) W w' ∧ w'.ownsRow W.heap.size 3 1 u n (ni (lensF (cnt l n) 15)) ∧ Lens (cnt l n) 15 (lensF (cnt l n) 15) := fun W ho => by
  have hok : okC (cnt l n) = true := cnt_ok _ _ (by omega) (by omega)
  have hsy : (syms (cnt l n)).length ≤ 2 ^ 15 := Nat.le_trans (syms_le _) (by rw [cnt_length]; omega)
  refine (plens_walk W v (cnt l n) 15 ((own_toV hv).only ho (fun _ _ _ _ _ h => h)) hok (by decide) (by decide) hsy).mono ?_
  rintro e w' ⟨u, rfl, h1, h2⟩
  rw [cnt_length] at h2
  exact ⟨u, rfl, OnlyS.of_below h1, h2, lens_are _ _ (by decide) (by decide) hsy⟩
theorem told_made {w7 w9 w10 w11 W : World} {v1 v2 u1 u2 : Value} {zs ds : List Int} {s n1 n2 : Nat} (hs : s = w7.heap.size) (h79 : OnlyS (fun _ => False) w7 w9) (h9 : OnlyS (fun _ => False) w9 w10) (h10 : OnlyS (fun _ => False) w10 w11) (r1 : w9.heap[s]? = some (.cells #[v1] 53 (0, 0))) (r2 : w9.heap[s + 1]? = some (.cells #[v2] 53 (0, 0)))
    (hu1 : w10.ownsRow w9.drew.heap.size 3 1 u1 n1 (ni zs)) (hu2 : w11.ownsRow w10.heap.size 3 1 u2 n2 (ni ds)) (hW : W = (w11.setCell ⟨s, 0, none⟩ u1).setCell ⟨s + 1, 0, none⟩ u2) :
    W.heap[s]? = some (.cells #[u1] 53 (0, 0)) ∧ W.heap[s + 1]? = some (.cells #[u2] 53 (0, 0)) ∧ OnlyS (fun _ => False) w7 W ∧ SlV W u1 (ni zs) ∧ SlV W u2 (ni ds) ∧ ∀ X : Nat → Prop, (∀ i, X i → i < w7.heap.size) → Off W X u1 ∧ Off W X u2 := by
  have q1 := row_keep h10 (row_keep h9 r1)
  have q2 := row_keep h10 (row_keep h9 r2)
  have hlt2 : s + 1 < w9.heap.size := (Array.getElem?_eq_some_iff.1 r2).1
  have hlt2' : s + 1 < w11.heap.size := (Array.getElem?_eq_some_iff.1 q2).1
  have hsz : w9.heap.size ≤ w10.heap.size := h9.size
  have oa : OnlyS (fun i => i = s ∨ i = s + 1) w11 (w11.setCell ⟨s, 0, none⟩ u1) := OnlyS.setCell _ _ _ _ (.inl rfl)
  have ob : OnlyS (fun i => i = s + 1) (w11.setCell ⟨s, 0, none⟩ u1) W := by rw [hW]; exact OnlyS.setCell _ _ _ _ rfl
  have oo : OnlyS (fun i => i = s ∨ i = s + 1) w11 W := oa.trans' ob (fun i hi => .inl (.inr hi))
  have t1 : (w11.setCell ⟨s, 0, none⟩ u1).heap[s]? = some (.cells #[u1] 53 (0, 0)) := (heap_setCell_same _ _ _ _ _ _ q1).trans rfl
  have t2 : (w11.setCell ⟨s, 0, none⟩ u1).heap[s + 1]? = some (.cells #[v2] 53 (0, 0)) := (OnlyS.setCell (S := fun i => i = s) w11 s 0 u1 rfl).block (s + 1) hlt2' (by omega) |>.trans q2
  have g1 : ∀ p n c, u1 = .slice (some p) n c → 0 < n → w9.heap.size ≤ p.block ∧ p.block < w10.heap.size := fun p n c e h0 => by
    obtain ⟨_, ⟨h3, h4⟩ | ⟨g, cap, cur, h3, h4, h5, _⟩⟩ := hu1
    · rw [h3] at e; cases e
    · rw [h3] at e; cases e
      exact ⟨by have h6 : w9.drew.heap.size = w9.heap.size := rfl; rw [h6] at h4; exact h4, (Array.getElem?_eq_some_iff.1 h5).1⟩
  have g2 : ∀ p n c, u2 = .slice (some p) n c → 0 < n → w9.heap.size ≤ p.block ∧ p.block < w11.heap.size := fun p n c e h0 => by
    obtain ⟨_, ⟨h3, h4⟩ | ⟨g, cap, cur, h3, h4, h5, _⟩⟩ := hu2
    · rw [h3] at e; cases e
    · rw [h3] at e; cases e
      exact ⟨Nat.le_trans hsz h4, (Array.getElem?_eq_some_iff.1 h5).1⟩
  refine ⟨(ob.block s (by have := oa.size; omega) (by show ¬ s = s + 1; omega)).trans t1, by rw [hW]; exact (heap_setCell_same _ _ _ _ _ _ t2).trans rfl, ((h79.trans h9).trans h10).trans' oo (fun i hi => .inr (by rcases hi with rfl | rfl <;> omega)), ?_, ?_, fun X hX => ⟨?_, ?_⟩⟩
  · exact ((own_toV hu1).only h10 (fun _ _ _ _ _ h => h)).only oo (fun p n c e h0 hx => by have := g1 p n c e h0; rcases hx with h | h <;> omega)
  · exact (own_toV hu2).only oo (fun p n c e h0 hx => by have := g2 p n c e h0; rcases hx with h | h <;> omega)
  · intro p n c e h0
    have := g1 p n c e h0
    have := h79.size
    have := h10.size
    have := oo.size
    exact ⟨fun hx => by have := hX _ hx; omega, by omega⟩
  · intro p n c e h0
    have := g2 p n c e h0
    have := h79.size
    have := oo.size
    exact ⟨fun hx => by have := hX _ hx; omega, by omega⟩
end Go.Proofs.YtefeilgbofphjaaDoor
/-
  All.
-/
namespace Go.Proofs.YtefeilgbofphjaaDoor
open Go.RowKit
theorem call20 : ∀ args w, (callFunc 20 args).run Tryd.prog w = .ok (.enter 20 args) w := fun _ _ => rfl
theorem tells20 (N : Nat) : Tells N 20 #[] (fun _ X _ => ∀ i, ¬ X i) where
  call := fun w X ks k _ h => by
    have HH := Lib.hid h
    clear h
    unfold kv
    simp only [Array.append_empty]
    go_enter Tryd.func20, Tryd.ntmps20
    go_wp2_with fail
    refine bodyPost_end (results_none rfl _ _ _) rfl ?_
    exact ⟨rfl, OnlyS.alloc _ _, X, HH.out, Grew.refl _ _⟩
  stay := fun h _ _ => h
  lt := fun h i hi => (h i hi).elim
theorem blocks_less (most : Nat) : ∀ (f : Nat) (ks ks' : List Inf.Blk) (out out' : List UInt8) (r r' : List Bool), Inf.blocks most f ks out r = .ok ((ks', out'), r') → r'.length ≤ r.length
  | 0, ks, ks', out, out', r, r', h => by rw [Inf.blocks] at h; cases h
  | f + 1, ks, ks', out, out', r, r', h => by
    rw [Inf.blocks] at h
    cases hb : Inf.block most out r with
    | error e => rw [hb] at h; cases h
    | ok p =>
      obtain ⟨⟨k, o2⟩, r2⟩ := p
      have h1 := block_less hb
      rw [hb] at h
      simp only at h
      split at h
      · cases h; omega
      · have := blocks_less most f _ _ _ _ _ _ h; omega
def AllPost (R0 : Inf.Res (List Inf.Blk × List UInt8)) (b : List UInt8) (w : World) (e : Ending) (w' : World) : Prop :=
  OnlyS (fun _ => False) w w' ∧ match R0 with
  | .ok ((_, out), r') => ∃ u, e = .returned (.tuple #[u, .int .i64 ((b.length : Int) - ((r'.length / 8 : Nat) : Int)), .int .i64 0]) ∧ w'.ownsRow w.heap.size 5 1 u out.length (bl out)
  | .error er => e = .returned (.tuple #[.slice none 0 0, .int .i64 0, .int .i64 er])
set_option maxRecDepth 100000 in
set_option maxHeartbeats 2000000 in
theorem all_walk (w : World) (hw0 : 0 < w.heap.size) (hord : OrdAt w) (v : Value) (b : List UInt8) (most : Nat) (hv : SlV w v (bl b)) (hlen : b.length ≤ 1099511627776) (hbl : ∀ p m cap, v = .slice (some p) m cap → 0 < m → p.block < w.heap.size) (hm : most ≤ 1073741824) (hne : Inf.all b most ≠ .error 0) :
    Calls Tryd.prog 7 #[v, .int .i64 (most : Int)] w (AllPost (Inf.all b most) b w) := by
  have HE := Lib.hid (expanded_walk w w.heap.size (Nat.le_refl _) hw0 hord v b most hv hlen hbl hm 20 #[] call20 _ (8 * b.length + 1) (by omega) (tells20 _) (fun _ => False) (fun _ h => h) (fun _ h => h.elim))
  obtain ⟨R0, hR0⟩ : ∃ R0, R0 = Inf.all b most := ⟨_, rfl⟩
  have hr8 : ∀ ks out r', R0 = .ok ((ks, out), r') → r'.length ≤ 8 * b.length := fun ks out r' h => by
    rw [hR0] at h
    have := blocks_less _ _ _ _ _ _ _ _ h
    rwa [bits_length] at this
  rw [← hR0] at HE hne ⊢
  clear hR0
  obtain ⟨pz, cz, rfl⟩ := hv.shape
  rw [bl_length] at *
  clear hw0 hord hv hbl
  cases R0 with
  | error er =>
    by_cases her : er = 0
    · subst her; exact (hne rfl).elim
    · clear hne hr8
      have hern : (er == 0) = false := beq_eq_false_iff_ne.2 her
      go_enter Tryd.func7, Tryd.ntmps7
      go_wp2_with fail
      refine HE.out.mono ?_
      rintro e w1 ⟨rfl, ho⟩
      have HO := Lib.hid ho
      clear ho
      go_wp2_with fail
      refine bodyPost_ret (results_tmp3 rfl _ _ _) rfl ?_
      exact ⟨HO.out, rfl⟩
  | ok p =>
    obtain ⟨⟨ks, out⟩, r'⟩ := p
    have hr9 := hr8 ks out r' rfl
    obtain ⟨m, hmd⟩ : ∃ m, m = r'.length / 8 := ⟨_, rfl⟩
    have hwr : IntKind.i64.wrap ((b.length : Int) - (m : Int)) = (b.length : Int) - (m : Int) := IntWalk.i64_in _ (by omega)
    have HMD := Lib.hid hmd
    clear hne hr8 hr9 hmd
    go_enter Tryd.func7, Tryd.ntmps7
    go_wp2_with fail
    refine HE.out.mono ?_
    rintro e w1 ⟨gt, gb, g, O, ov, pl, X, rfl, hE⟩
    have H := Lib.hid hE
    have c0 := hE.st.b.c0
    have c3 := hE.st.c3
    obtain ⟨po, co, hsho⟩ := (own_toV hE.st.own).shape
    rw [bl_length] at hsho
    subst hsho
    clear hE
    have HL := Lib.hid (fun W (hW : OnlyS (fun _ => False) w1 W) => left_walk W _ O g r' (H.out.st.b.hand.src.only hW (fun _ h => h.elim)))
    rw [← HMD.out] at HL
    go_wp2_with fail
    go_region_law (go_simp; go_at_call 21; refine (HL.out _ (OnlyS.drew _)).mono ?_; rintro e w2 ⟨rfl, ho2⟩; have hq2 : OnlyS (fun _ => False) w1 w2 := (OnlyS.drew w1).trans ho2; have c0' := hq2.cell c0 (fun h => h); have c3' := hq2.cell c3 (fun h => h); have HQ2 := Lib.hid hq2; clear ho2 hq2)
    all_goals simp only [Exit.then, Act.put, List.getElem_toArray, List.getElem_cons_succ, List.getElem_cons_zero, List.setIfInBounds_toArray, List.set_cons_zero, List.set_cons_succ]
    all_goals go_wp2_with fail
    all_goals refine bodyPost_ret (results_tmp3 rfl _ _ _) rfl ?_
    all_goals refine ⟨H.out.only.trans HQ2.out, ?_⟩
    all_goals show ∃ u, _ = Ending.returned (.tuple #[u, .int .i64 ((b.length : Int) - ((r'.length / 8 : Nat) : Int)), .int .i64 0]) ∧ _
    all_goals rw [← HMD.out]
    all_goals exact ⟨.slice po out.length co, rfl, own_stays H.out.st.own (fun k hk => HQ2.out.block k (own_lt H.out.st.own k hk).2 (fun h => h))⟩
end Go.Proofs.YtefeilgbofphjaaDoor
/-
  Tells: three small streams read back.
-/
namespace Go.Proofs.YtefeilgbofphjaaDoor
open Go.RowKit Hf
theorem run_toStr {w : World} {v : Value} {l : List UInt8} (h : SlV w v (bl l)) : (convert 23 9 v).run Tryd.prog w = .ok (.string ⟨l.toArray⟩) w := by
  rcases h with ⟨g, o, cap, rfl, h2, h3⟩ | ⟨p, rfl, h0⟩
  · have hl := run_loadCells_list (P := Tryd.prog) w ⟨g, o, none⟩ (bl l) h3.src
    have e : bl l = (l.map bi).map (Value.int .u8) := by simp [bl]
    rw [show (bl l).length = l.length by simp [bl], e] at hl
    rw [bl_length]
    rw [run_convert_bytes_string w 23 9 5 _ _ _ Tryd.underlying23 Tryd.underlying5 Tryd.underlying9, run_bytesToString w _ _ _ _ hl]
    congr 2
    have key : ∀ (l : List UInt8) (s : ByteArray), (l.map bi).foldl (fun r n => r.push (UInt8.ofNat n.toNat)) s = ⟨(s.data.toList ++ l).toArray⟩ := by
      intro l
      induction l with
      | nil => intro s; simp
      | cons x t ih =>
        intro s
        simp only [List.map_cons, List.foldl_cons]
        rw [ih]
        congr 1
        have : UInt8.ofNat (bi x).toNat = x := by simp [bi]
        rw [this]
        simp [ByteArray.push]
    rw [key]
    simp
  · obtain rfl : l = [] := by simpa [bl] using h0
    cases p with
    | none => kernel_rfl
    | some a => kernel_rfl
theorem ord_pos {w : World} (h : OrdAt w) : 0 < w.heap.size := by
  have h0 := h 0 (by decide)
  rcases Nat.eq_zero_or_pos w.heap.size with e | e
  · unfold World.cell? at h0
    simp [e] at h0
  · exact e
theorem lit_all {w : World} (hord : OrdAt w) (b : List UInt8) (cs : Array Value) (n most : Nat) (hn : n = b.length) (hcs : cs = (bl b).toArray) (hb : b.length ≤ 1099511627776) (hm : most ≤ 1073741824) :
    Calls Tryd.prog 7 #[.slice (some ⟨w.heap.size, 0, none⟩) n n, .int .i64 (most : Int)] (w.alloc (.cells cs 5)) (AllPost (Inf.all b most) b (w.alloc (.cells cs 5))) := by
  subst hcs hn
  have hs := slv_lit w (bl b) 5
  rw [bl_length] at hs
  have ho := hord.only (OnlyS.alloc (S := fun _ => False) w (.cells (bl b).toArray 5)) (fun h => h)
  refine all_walk _ (ord_pos ho) ho _ b most hs hb (fun p m cap e _ => ?_) hm (all_ne b most)
  cases e
  simp
def okIs (b : List UInt8) (most : Nat) (o : List UInt8) (k : Int) : Bool := match Inf.all b most with
  | .ok ((_, o'), r) => decide (o' = o) && decide ((b.length : Int) - ((r.length / 8 : Nat) : Int) = k)
  | .error _ => false
def erIs (b : List UInt8) (most : Nat) (er : Int) : Bool := match Inf.all b most with
  | .ok _ => false
  | .error e => decide (e = er)
theorem okIs_out {b : List UInt8} {most : Nat} {o : List UInt8} {k : Int} (h : okIs b most o k = true) : ∃ ks r, Inf.all b most = .ok ((ks, o), r) ∧ (b.length : Int) - ((r.length / 8 : Nat) : Int) = k := by
  unfold okIs at h
  split at h
  · rename_i ks o' r he
    rw [Bool.and_eq_true, decide_eq_true_eq, decide_eq_true_eq] at h
    exact ⟨ks, r, by rw [he, h.1], h.2⟩
  · cases h
theorem erIs_out {b : List UInt8} {most : Nat} {er : Int} (h : erIs b most er = true) : Inf.all b most = .error er := by
  unfold erIs at h
  split at h
  · cases h
  · rename_i e he
    rw [decide_eq_true_eq] at h
    rw [he, h]
def GotOk (w : World) (out : List UInt8) (k : Int) (e : Ending) (w' : World) : Prop := OnlyS (fun _ => False) w w' ∧ ∃ p c, e = .returned (.tuple #[.slice p out.length c, .int .i64 k, .int .i64 0]) ∧ SlV w' (.slice p out.length c) (bl out)
def GotEr (w : World) (er : Int) (e : Ending) (w' : World) : Prop := OnlyS (fun _ => False) w w' ∧ e = .returned (.tuple #[.slice none 0 0, .int .i64 0, .int .i64 er])
/-- Whatever it reads that is known to be read to its end. -/
theorem all_ok {w : World} (hord : OrdAt w) (v : Value) (b : List UInt8) (most : Nat) (hv : SlV w v (bl b)) (hb : b.length ≤ 1099511627776) (hbl : ∀ p m cap, v = .slice (some p) m cap → 0 < m → p.block < w.heap.size) (hm : most ≤ 1073741824) (ks : List Inf.Blk) (out : List UInt8) (r : List Bool) (k : Int) (h : Inf.all b most = .ok ((ks, out), r)) (hk : (b.length : Int) - ((r.length / 8 : Nat) : Int) = k) :
    Calls Tryd.prog 7 #[v, .int .i64 (most : Int)] w (GotOk w out k) := by
  refine (all_walk w (ord_pos hord) hord v b most hv hb hbl hm (all_ne b most)).mono ?_
  rintro e w' ⟨ho, h2⟩
  rw [h] at h2
  obtain ⟨u, h3, h4⟩ := h2
  obtain ⟨p, c, hs⟩ := (own_toV h4).shape
  rw [bl_length] at hs
  subst hs
  rw [hk] at h3
  exact ⟨ho, p, c, h3, own_toV h4⟩
theorem all_er {w : World} (hord : OrdAt w) (v : Value) (b : List UInt8) (most : Nat) (hv : SlV w v (bl b)) (hb : b.length ≤ 1099511627776) (hbl : ∀ p m cap, v = .slice (some p) m cap → 0 < m → p.block < w.heap.size) (hm : most ≤ 1073741824) (er : Int) (h : Inf.all b most = .error er) :
    Calls Tryd.prog 7 #[v, .int .i64 (most : Int)] w (GotEr w er) := by
  refine (all_walk w (ord_pos hord) hord v b most hv hb hbl hm (all_ne b most)).mono ?_
  rintro e w' ⟨ho, h2⟩
  rw [h] at h2
  exact ⟨ho, h2⟩
theorem lit_ok {w : World} (hord : OrdAt w) (b : List UInt8) (cs : Array Value) (n most : Nat) (out : List UInt8) (k : Int) (hn : n = b.length) (hcs : cs = (bl b).toArray) (hb : b.length ≤ 1099511627776) (hm : most ≤ 1073741824) (h : okIs b most out k = true) :
    Calls Tryd.prog 7 #[.slice (some ⟨w.heap.size, 0, none⟩) n n, .int .i64 (most : Int)] (w.alloc (.cells cs 5)) (GotOk w out k) := by
  subst hcs hn
  obtain ⟨ks, r, h1, h2⟩ := okIs_out h
  have hs := slv_lit w (bl b) 5
  rw [bl_length] at hs
  have ho := hord.only (OnlyS.alloc (S := fun _ => False) w (.cells (bl b).toArray 5)) (fun h => h)
  refine (all_ok ho _ b most hs hb (fun p m cap e _ => ?_) hm ks out r k h1 h2).mono (fun e w' h => ⟨(OnlyS.alloc _ _).trans h.1, h.2⟩)
  cases e
  simp
theorem lit_er {w : World} (hord : OrdAt w) (b : List UInt8) (cs : Array Value) (n most : Nat) (er : Int) (hn : n = b.length) (hcs : cs = (bl b).toArray) (hb : b.length ≤ 1099511627776) (hm : most ≤ 1073741824) (h : erIs b most er = true) :
    Calls Tryd.prog 7 #[.slice (some ⟨w.heap.size, 0, none⟩) n n, .int .i64 (most : Int)] (w.alloc (.cells cs 5)) (GotEr w er) := by
  subst hcs hn
  have hs := slv_lit w (bl b) 5
  rw [bl_length] at hs
  have ho := hord.only (OnlyS.alloc (S := fun _ => False) w (.cells (bl b).toArray 5)) (fun h => h)
  refine (all_er ho _ b most hs hb (fun p m cap e _ => ?_) hm er (erIs_out h)).mono (fun e w' h => ⟨(OnlyS.alloc _ _).trans h.1, h.2⟩)
  cases e
  simp
theorem t_1 : okIs [3, 0] 0 [] 2 = true := by kernel_rfl
theorem t_2 : okIs [1, 2, 0, 253, 255, 97, 98, 99] 2 [97, 98] 7 = true := by kernel_rfl
theorem t_3 : okIs [75, 4, 0] 9 [97] 3 = true := by kernel_rfl
set_option maxRecDepth 100000 in
set_option maxHeartbeats 2000000 in
theorem tells_walk (w : World) (hord : OrdAt w) : Calls Tryd.prog 9 #[] w fun e w' => e = .returned (.bool true) ∧ OnlyS (fun _ => False) w w' := by
  have H1 := Lib.hid (lit_ok hord [3, 0] #[.int .u8 3, .int .u8 0] 2 0 [] 2 rfl rfl (by decide) (by decide) t_1)
  have HORD := Lib.hid hord
  clear hord
  go_enter Tryd.func9, Tryd.ntmps9
  go_wp2_with fail
  refine H1.out.mono ?_
  rintro e w1 ⟨ho1, p1, c1, rfl, s1⟩
  have H2 := Lib.hid (lit_ok (HORD.out.only ho1 (fun h => h)) [1, 2, 0, 253, 255, 97, 98, 99] #[.int .u8 1, .int .u8 2, .int .u8 0, .int .u8 253, .int .u8 255, .int .u8 97, .int .u8 98, .int .u8 99] 8 2 [97, 98] 7 rfl rfl (by decide) (by decide) t_2)
  have HO1 := Lib.hid ho1
  clear H1 ho1 s1
  go_wp2_with fail
  refine H2.out.mono ?_
  rintro e w2 ⟨ho2, p2, c2, rfl, s2⟩
  have HO2 := Lib.hid (HO1.out.trans ho2)
  have HS2 := Lib.hid s2
  have H3 := Lib.hid (lit_ok (HORD.out.only HO2.out (fun h => h)) [75, 4, 0] #[.int .u8 75, .int .u8 4, .int .u8 0] 3 9 [97] 3 rfl rfl (by decide) (by decide) t_3)
  clear H2 HO1 ho2 s2
  go_wp2_with fail
  refine H3.out.mono ?_
  rintro e w3 ⟨ho3, p3, c3, rfl, s3⟩
  have HO3 := Lib.hid (HO2.out.trans ho3)
  have k2 : (convert 23 9 (.slice p2 2 c2)).run Tryd.prog w3 = .ok (.string ⟨#[97, 98]⟩) w3 := run_toStr (HS2.out.only ho3 (fun _ _ _ _ _ h => h))
  have k3 : (convert 23 9 (.slice p3 1 c3)).run Tryd.prog w3 = .ok (.string ⟨#[97]⟩) w3 := run_toStr s3
  clear H3 HO2 HS2 ho3 s3 HORD
  go_wp2_with fail
  go_ret
  exact ⟨rfl, HO3.out⟩
end Go.Proofs.YtefeilgbofphjaaDoor
/-
  Blocks: its closure.
-/
namespace Go.Proofs.YtefeilgbofphjaaDoor
open Go.RowKit
theorem info33 : (Tryd.prog.info? 33).map (fun i => (i.zero, i.size, i.bytes)) = some (some (.agg #[.int .i64 0, .bool false, .int .i64 0, .int .i64 0]), 4, 32) := by kernel_rfl
def kc (k : Inf.Blk) : List Value := [.int .i64 (k.kind : Int), .bool k.last, .int .i64 (k.from_ : Int), .int .i64 (k.to : Int)]
def kcs (ks : List Inf.Blk) : List Value := ks.flatMap kc
theorem kcs_add (ks : List Inf.Blk) (k : Inf.Blk) : kcs (ks ++ [k]) = kcs ks ++ kc k := by simp [kcs]
/-- The blocks that were told, in a captured slice. -/
def BlksI (gx B : Nat) (w : World) (X : Nat → Prop) (ks : List Inf.Blk) : Prop :=
  ∃ v, w.heap[gx]? = some (.cells #[v] 29 (0, 0)) ∧ w.ownsRow B 33 4 v ks.length (kcs ks) ∧ (∀ j, v.ownBlock = some j → j ≠ gx) ∧ (X = fun i => i = gx ∨ v.ownBlock = some i) ∧ B ≤ w.heap.size
theorem kc_one (k : Inf.Blk) : ∀ y ∈ kc k, y.oneCell' = true := by
  intro y hy
  simp [kc] at hy
  rcases hy with rfl | rfl | rfl | rfl <;> rfl
theorem SlK_blk (w : World) (k : Inf.Blk) : SlK 4 (w.alloc (.cells #[.int .i64 (k.kind : Int), .bool k.last, .int .i64 (k.from_ : Int), .int .i64 (k.to : Int)] 33)) (.slice (some ⟨w.heap.size, 0, none⟩) 1 1) 1 (kc k) := by
  refine ⟨rfl, .inl ⟨w.heap.size, 0, 1, rfl, Nat.le_refl _, fun i v hi => ?_⟩⟩
  rw [Nat.zero_add]
  exact (cell_of_row _ _ _ _ _ _ (heap_alloc_new w _)).trans (by simpa [kc] using hi)
theorem blks_told {w w1 : World} {gx B : Nat} {X : Nat → Prop} {ks : List Inf.Blk} {k : Inf.Blk} {v v' : Value} {wa : World} (hr : w.heap[gx]? = some (.cells #[v] 29 (0, 0))) (hne : ∀ j, v.ownBlock = some j → j ≠ gx) (hX : X = fun i => i = gx ∨ v.ownBlock = some i) (hB : B ≤ w.heap.size)
    (ha : OnlyS (fun _ => False) w wa) (h1 : w1.ownsRow B 33 4 v' (ks.length + 1) (kcs ks ++ kc k)) (hg : wa.grownBy w1 v.ownBlock) (hat : v'.ownBlock = v.ownBlock ∨ v'.ownBlock = some wa.heap.size) :
    OnlyS X w (w1.setCell ⟨gx, 0, none⟩ v') ∧ ∃ X', BlksI gx B (w1.setCell ⟨gx, 0, none⟩ v') X' (ks ++ [k]) ∧ Grew w X X' := by
  have hlt : gx < w.heap.size := by
    rcases Nat.lt_or_ge gx w.heap.size with h | h
    · exact h
    · rw [Array.getElem?_eq_none h] at hr; cases hr
  have ho1 : OnlyS (fun i => v.ownBlock = some i) wa w1 := OnlyS.grown hg (fun k hk => hk)
  have ho2 : OnlyS (· = gx) w1 (w1.setCell ⟨gx, 0, none⟩ v') := OnlyS.setCell _ _ _ _ rfl
  have hw1 : w1.heap[gx]? = some (.cells #[v] 29 (0, 0)) := (ho1.block gx (Nat.lt_of_lt_of_le hlt ha.size) (fun e => hne gx e rfl)).trans ((ha.block gx hlt (fun h => h)).trans hr)
  have hne' : ∀ j, v'.ownBlock = some j → j ≠ gx := fun j hj => by
    rcases hat with h | h
    · exact hne j (by rw [← h]; exact hj)
    · rw [h] at hj; cases hj; have := ha.size; omega
  refine ⟨?_, _, ⟨v', (heap_setCell_same _ _ _ _ _ _ hw1).trans rfl, ?_, hne', rfl, Nat.le_trans hB (Nat.le_trans ha.size (Nat.le_trans ho1.size ho2.size))⟩, ?_⟩
  · rw [hX]
    exact ((ha.mono fun _ _ h => h.elim).trans (ho1.mono fun _ _ h => .inr h)).trans (ho2.mono fun _ _ h => .inl h)
  · rw [List.length_append, List.length_singleton, kcs_add]
    exact own_staysK h1 (fun j hj => heap_setCell_other _ _ _ _ (hne' j hj))
  · intro i hi
    rw [hX]
    rcases hi with hi | hi
    · exact .inl (.inl hi)
    · rcases hat with h | h
      · exact .inl (.inr (by rw [← h]; exact hi))
      · rw [h] at hi; cases hi; exact .inr ha.size
set_option maxRecDepth 100000 in
set_option maxHeartbeats 1000000 in
theorem tells22 (gx B N : Nat) (hN : N ≤ 1073741824) : Tells N 22 #[.pointer (some ⟨gx, 0, none⟩)] (fun w X ks => BlksI gx B w X ks) where
  call := fun w X ks k hk h => by
    obtain ⟨v, hr, hown, hne, hX, hB⟩ := h
    obtain ⟨i0, hi, hz0, hz1, hz2⟩ := info_parts info33
    have HI0 := Lib.hid (And.intro hi (And.intro hz0 (And.intro hz1 hz2)))
    obtain ⟨pv, cv, hsh⟩ := own_shape hown
    subst hsh
    have hlt : gx < w.heap.size := by
      rcases Nat.lt_or_ge gx w.heap.size with h | h
      · exact h
      · rw [Array.getElem?_eq_none h] at hr; cases hr
    obtain ⟨n, hn⟩ : ∃ n, n = ks.length := ⟨_, rfl⟩
    rw [← hn] at hr hown hne hX hk
    have c1 : w.cell? ⟨gx, 0, none⟩ = some (.slice pv n cv) := cell_of_row _ _ 0 _ _ _ hr
    have f1 := frozen_of_row _ _ 0 _ _ hr
    have HR := Lib.hid hr
    have HO := Lib.hid hown
    have HNE := Lib.hid hne
    have HX := Lib.hid hX
    have HB := Lib.hid hB
    have HNL := Lib.hid hn
    clear hr hown hne hX hB hn hi hz0 hz1 hz2
    unfold kv
    simp only [List.append_toArray, List.cons_append, List.nil_append]
    go_enter Tryd.func22, Tryd.ntmps22
    have HSK : Hid (SlK 4 ((w.alloc (.cells #[.int .i64 (k.kind : Int), .bool k.last, .int .i64 (k.from_ : Int), .int .i64 (k.to : Int)] 33)).alloc (.cells #[.int .i64 (k.kind : Int), .bool k.last, .int .i64 (k.from_ : Int), .int .i64 (k.to : Int)] 33)) (.slice (some ⟨w.heap.size + 1, 0, none⟩) 1 1) 1 (kc k)) := Lib.hid (by
      have h := SlK_blk (w.alloc (.cells #[.int .i64 (k.kind : Int), .bool k.last, .int .i64 (k.from_ : Int), .int .i64 (k.to : Int)] 33)) k
      have e : (w.alloc (.cells #[.int .i64 (k.kind : Int), .bool k.last, .int .i64 (k.from_ : Int), .int .i64 (k.to : Int)] 33)).heap.size = w.heap.size + 1 := by simp
      rwa [e] at h)
    have HAA : Hid (OnlyS (fun _ => False) w ((w.alloc (.cells #[.int .i64 (k.kind : Int), .bool k.last, .int .i64 (k.from_ : Int), .int .i64 (k.to : Int)] 33)).alloc (.cells #[.int .i64 (k.kind : Int), .bool k.last, .int .i64 (k.from_ : Int), .int .i64 (k.to : Int)] 33))) := Lib.hid ((OnlyS.alloc _ _).trans (OnlyS.alloc _ _))
    have HO2 : Hid (((w.alloc (.cells #[.int .i64 (k.kind : Int), .bool k.last, .int .i64 (k.from_ : Int), .int .i64 (k.to : Int)] 33)).alloc (.cells #[.int .i64 (k.kind : Int), .bool k.last, .int .i64 (k.from_ : Int), .int .i64 (k.to : Int)] 33)).ownsRow B 33 4 (.slice pv n cv) n (kcs ks)) := Lib.hid (own_staysK HO.out (fun j hj => HAA.out.block j (World.ownsRow.lt HO.out j hj).2 (fun h => h)))
    have HSZ : Hid (B ≤ ((w.alloc (.cells #[.int .i64 (k.kind : Int), .bool k.last, .int .i64 (k.from_ : Int), .int .i64 (k.to : Int)] 33)).alloc (.cells #[.int .i64 (k.kind : Int), .bool k.last, .int .i64 (k.from_ : Int), .int .i64 (k.to : Int)] 33)).heap.size) := Lib.hid (Nat.le_trans HB.out HAA.out.size)
    go_wp2_with (refine wpList_appK 29 33 i0 (.agg #[.int .i64 0, .bool false, .int .i64 0, .int .i64 0]) 4 32 Tryd.underlying29 HI0.out.1 HI0.out.2.1 HI0.out.2.2.1 HI0.out.2.2.2 rfl (by decide) (by decide) rfl (.tmp 3) (.tmp 5) rfl B (.slice pv n cv) (.slice (some ⟨w.heap.size + 1, 0, none⟩) 1 1) n 1 (kcs ks) (kc k) rfl rfl (kc_one k) HO2.out HSK.out HSZ.out (by omega) ?_; intro v' w1 hown hgrow hat; have hw1c : OnlyS (fun i => (Value.slice pv n cv).ownBlock = some i) w w1 := (HAA.out.mono fun _ _ h => h.elim).trans (OnlyS.grown hgrow (fun k hk => hk)); have c1' := hw1c.cell c1 (fun e => HNE.out gx e rfl); have f1' : w1.frozen? ⟨gx, 0, none⟩ = false := frozen_of_row _ _ 0 _ _ ((hw1c.block gx hlt (fun e => HNE.out gx e rfl)).trans HR.out); obtain ⟨p9, c9, hv'⟩ := own_shape hown; have HP := Lib.hid (blks_told (k := k) HR.out HNE.out HX.out HB.out HAA.out (by rw [← HNL.out]; exact hown) hgrow hat); clear hown hgrow hat hw1c; subst hv')
    refine bodyPost_end (results_none rfl _ _ _) rfl ?_
    exact ⟨rfl, HP.out⟩
  stay := fun {w w' X S ks} h ho hS => by
    obtain ⟨v, hr, hown, hne, hX, hB⟩ := h
    have hlt : gx < w.heap.size := by
      rcases Nat.lt_or_ge gx w.heap.size with h | h
      · exact h
      · rw [Array.getElem?_eq_none h] at hr; cases hr
    subst hX
    exact ⟨v, (ho.block gx hlt (fun hs => hS gx hs (.inl rfl))).trans hr, own_staysK hown (fun j hj => ho.block j (World.ownsRow.lt hown j hj).2 (fun hs => hS j hs (.inr hj))), hne, rfl, Nat.le_trans hB ho.size⟩
  lt := fun {w X ks} h i hi => by
    obtain ⟨v, hr, hown, hne, hX, hB⟩ := h
    subst hX
    rcases hi with hi | hi
    · rw [hi]
      rcases Nat.lt_or_ge gx w.heap.size with h | h
      · exact h
      · rw [Array.getElem?_eq_none h] at hr; cases hr
    · exact (World.ownsRow.lt hown i hi).2
end Go.Proofs.YtefeilgbofphjaaDoor
/-
  Blocks.
-/
namespace Go.Proofs.YtefeilgbofphjaaDoor
open Go.RowKit
def BlksPost (R0 : Inf.Res (List Inf.Blk × List UInt8)) (w : World) (e : Ending) (w' : World) : Prop :=
  OnlyS (fun _ => False) w w' ∧ match R0 with
  | .ok ((ks, _), _) => ∃ u, e = .returned (.tuple #[u, .int .i64 0]) ∧ w'.ownsRow w.heap.size 33 4 u ks.length (kcs ks)
  | .error er => e = .returned (.tuple #[.slice none 0 0, .int .i64 er])
set_option maxRecDepth 100000 in
set_option maxHeartbeats 2000000 in
theorem blocks_walk (w : World) (hw0 : 0 < w.heap.size) (hord : OrdAt w) (v : Value) (b : List UInt8) (most : Nat) (hv : SlV w v (bl b)) (hlen : b.length ≤ 134217000) (hbl : ∀ p m cap, v = .slice (some p) m cap → 0 < m → p.block < w.heap.size) (hm : most ≤ 1073741824) :
    Calls Tryd.prog 8 #[v, .int .i64 (most : Int)] w (BlksPost (Inf.all b most) w) := by
  have hne := all_ne b most
  obtain ⟨w0, hw⟩ : ∃ w0, w0 = w.alloc (.cells #[.slice none 0 0] 29) := ⟨_, rfl⟩
  have ho0 : OnlyS (fun _ => False) w w0 := by rw [hw]; exact OnlyS.alloc _ _
  have hz0 : w0.heap.size = w.heap.size + 1 := by rw [hw]; simp
  have hr0 : w0.heap[w.heap.size]? = some (.cells #[.slice none 0 0] 29 (0, 0)) := by rw [hw]; exact heap_alloc_new w _
  have HE := Lib.hid (expanded_walk w0 w.heap.size (by omega) hw0 (hord.only ho0 (fun h => h)) v b most (slv_heap hv ho0) (by omega) hbl hm 22 #[.pointer (some ⟨w.heap.size, 0, none⟩)] (fun _ _ => rfl) (BlksI w.heap.size w.heap.size) (8 * b.length + 1) (by omega) (tells22 w.heap.size w.heap.size _ (by omega)) (fun i => i = w.heap.size) ⟨.slice none 0 0, hr0, World.ownsRow_nil _ _ _ _, (fun j hj => by simp [Value.ownBlock] at hj), (by funext i; simp [Value.ownBlock]), by omega⟩ (fun i hi => by have h : i = w.heap.size := hi; omega))
  obtain ⟨R0, hR0⟩ : ∃ R0, R0 = Inf.all b most := ⟨_, rfl⟩
  rw [← hR0] at HE hne ⊢
  have HW := Lib.hid hw
  have HO0 := Lib.hid ho0
  clear hR0 hw0 hord hlen hbl hm ho0 hz0 hr0 hw
  obtain ⟨pz, cz, rfl⟩ := hv.shape
  rw [bl_length] at *
  clear hv
  rw [HW.out] at HE HO0
  clear HW
  have hmf : ∀ (fn : Fn) (first cap : Array Value) (w : World), (Instr.makeFunc fn first cap).run Tryd.prog w = .ok (.func fn first cap) w := fun _ _ _ _ => rfl
  cases R0 with
  | error er =>
    have her : er ≠ 0 := fun h => hne (by rw [h])
    have hern : (er == 0) = false := beq_eq_false_iff_ne.2 her
    clear hne her
    go_enter Tryd.func8, Tryd.ntmps8
    go_wp2_with fail
    refine HE.out.mono ?_
    rintro e w1 ⟨rfl, ho⟩
    have HO := Lib.hid ho
    clear ho
    go_wp2_with fail
    refine bodyPost_ret (results_tmp2 rfl _ _ _) rfl ?_
    exact ⟨(HO0.out.trans' HO.out (fun i hi => .inr (by have h : i = w.heap.size := hi; omega))), rfl⟩
  | ok p =>
    obtain ⟨⟨ks, out⟩, r'⟩ := p
    clear hne
    go_enter Tryd.func8, Tryd.ntmps8
    go_wp2_with fail
    refine HE.out.mono ?_
    rintro e w1 ⟨gt, gb, g, O, ov, pl, X, rfl, hE⟩
    obtain ⟨u, hr, hown, -, -, -⟩ := hE.inv
    obtain ⟨pu, cu, hsh⟩ := own_shape hown
    subst hsh
    have c1 : w1.cell? ⟨w.heap.size, 0, none⟩ = some (.slice pu ks.length cu) := cell_of_row _ _ 0 _ _ _ hr
    have HOW := Lib.hid hown
    have HO := Lib.hid hE.only
    clear hr hown hE
    go_wp2_with fail
    refine bodyPost_ret (results_tmp2 rfl _ _ _) rfl ?_
    exact ⟨(HO0.out.trans' HO.out (fun i hi => .inr (by have h : i = w.heap.size := hi; omega))), _, rfl, HOW.out⟩
end Go.Proofs.YtefeilgbofphjaaDoor
