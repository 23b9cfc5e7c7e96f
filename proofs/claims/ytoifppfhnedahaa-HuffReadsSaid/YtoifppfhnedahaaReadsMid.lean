/-
  What HuffReads needs of its second half: the list that the law clears, and the round of its readings.
-/
import Derived.Test.YtoifppfhnedahaaReadsKit
namespace Go.Proofs.Ytoifppfhnedahaa
open Go.RowKit Hf

theorem SlV.at_lt {w : World} {v : Value} {vs : List Value} (h : SlV w v vs) : ∀ p n cap, v = .slice (Option.some p) n cap → 0 < n → p.block < w.heap.size := by
  intro p n cap e h0
  rcases h with ⟨g, o, cap', h1, h2, h3⟩ | ⟨p', h1, h2⟩
  · rw [h1] at e
    cases e
    exact h3.lt h0
  · rw [h1] at e
    cases e
    omega
/-- The list that the law clears, while it clears it: below T and not below B. -/
structure Ones (B T : Nat) (w8 wz : World) (p : Option Addr) (k cap : Nat) : Prop where
  own : ∃ l : List Value, wz.ownsRow B 3 1 (.slice p k cap) k l
  only : OnlyS (fun i => B ≤ i ∧ i < T) w8 wz
  lt : ∀ g, (Value.slice p k cap).ownBlock = some g → g < T
theorem Ones.start {B : Nat} {w1 w8 : World} {p : Option Addr} {k cap : Nat} {l : List Value} (h : w1.ownsRow B 3 1 (.slice p k cap) k l) (hb : Below w1.heap.size w1 w8) : Ones B w1.heap.size w8 w8 p k cap :=
  ⟨⟨l, own_stays h fun j hj => hb.block j (h.lt j hj).2⟩, OnlyS.refl _ _, fun g hg => (h.lt g hg).2⟩
theorem Ones.drewN {B T : Nat} {w8 wz : World} {p : Option Addr} {k cap : Nat} (h : Ones B T w8 wz p k cap) (n : Nat) : Ones B T w8 (wz.drewN n) p k cap := by
  obtain ⟨⟨l, h1⟩, h2, h3⟩ := h
  exact ⟨⟨l, own_stays h1 fun _ _ => rfl⟩, h2.trans (OnlyS.drewN _ _), h3⟩
theorem Ones.spot {B T : Nat} {w8 wz : World} {p : Option Addr} {k cap j : Nat} (h : Ones B T w8 wz p k cap) (hj : j < k) :
    ∃ g u, p = some ⟨g, 0, none⟩ ∧ k ≤ cap ∧ wz.cell? ⟨g, j, none⟩ = some u ∧ wz.frozen? ⟨g, j, none⟩ = false ∧ ∀ x, Ones B T w8 (wz.setCell ⟨g, j, none⟩ x) p k cap := by
  obtain ⟨⟨l, h1⟩, h2, h3⟩ := h
  obtain ⟨g, c, he, hg, _, hc, _, h5, h6, h7⟩ := own_spot h1 (by omega)
  have hl : l.length = k := by have := h1.1; simpa using this
  cases he
  refine ⟨g, l[j]'(by omega), rfl, hc, h5 j _ (List.getElem?_eq_getElem (by omega)), h6 j, fun x => ⟨⟨_, h7 j x hj⟩, h2.trans (OnlyS.setCell _ _ _ _ ⟨hg, h3 g rfl⟩), h3⟩⟩
/-- The second half, at the head of a round. -/
structure RR (B T : Nat) (w wr : World) (lo hi gn gf : Nat) (zs : List Int) (L : List Bool) (vb vo : Value) (j : Nat) : Prop where
  book : BookAt wr lo hi gn zs
  feed : FeedAt wr gf vb L j
  own : SlV wr vo (ni zs)
  below : Below B w wr
  flo : hi ≤ gf
  bl : ∀ p n cap, vb = .slice (some p) n cap → 0 < n → p.block < B
  ol : ∀ p n cap, vo = .slice (some p) n cap → 0 < n → p.block < gf
  base : B ≤ gf
theorem RR.start {B T Tb : Nat} {w w8 wz : World} {p p2 pb : Option Addr} {k cap cap2 cb lo hi gn : Nat} {zs : List Int} {L : List Bool} (h : Ones B T w8 wz p k cap) (hT : T ≤ lo) (hB8 : Below B w w8) (hB : B ≤ w8.heap.size) (hhi : hi ≤ w8.heap.size)
    (hbk : BookAt w8 lo hi gn zs) (hu : SlV w (.slice pb L.length cb) (nb L)) (hw : w.heap.size = B) (hTb : T ≤ Tb) (ho : w8.ownsRow Tb 3 1 (.slice p2 k cap2) k (ni zs)) (hL : L.length ≤ 1024) :
    RR B T w (wz.alloc (.cells #[.slice pb L.length cb, .int .i64 0] 50)) lo hi gn wz.heap.size zs L (.slice pb L.length cb) (.slice p2 k cap2) 0 := by
  have hs := h.only.size
  have hU : ∀ q n cap, Value.slice pb L.length cb = .slice (some q) n cap → 0 < n → q.block < B := fun q n cap e h0 => by have := hu.at_lt q n cap e h0; omega
  have hOa := own_toV ho
  have hOl : ∀ q n cap, Value.slice p2 k cap2 = .slice (some q) n cap → 0 < n → T ≤ q.block ∧ q.block < wz.heap.size := fun q n cap e h0 => by
    have := ho.lt q.block (by rw [e]; simp [Value.ownBlock])
    omega
  have hA : OnlyS (fun i => B ≤ i ∧ i < T) w8 (wz.alloc (.cells #[.slice pb L.length cb, .int .i64 0] 50)) := h.only.trans (OnlyS.alloc _ _)
  have hBw : Below B w (wz.alloc (.cells #[.slice pb L.length cb, .int .i64 0] 50)) := hB8.trans (hA.below hB fun i hi => hi.1)
  refine ⟨hbk.only hA fun i h1 _ h3 => by omega, ⟨heap_alloc_new _ _, hu.below hBw (by omega), Nat.zero_le _, by omega, fun q n cap e h0 => ?_⟩, hOa.only hA fun q n cap e h0 h3 => ?_, hBw, by omega, hU, fun q n cap e h0 => (hOl q n cap e h0).2, by omega⟩
  · have := hU q n cap e h0; omega
  · have := (hOl q n cap e h0).1; omega
theorem RR.step {B T : Nat} {w wr wn : World} {lo hi gn gf : Nat} {zs : List Int} {L : List Bool} {vb vo : Value} {j j' : Nat} (h : RR B T w wr lo hi gn gf zs L vb vo j) (hf : FeedAt wn gf vb L j') (ho : OnlyS (· = gf) wr wn) :
    RR B T w wn lo hi gn gf zs L vb vo j' :=
  ⟨h.book.only ho fun i h1 h2 e => by have := h.flo; omega, hf, h.own.only ho fun p n cap e h0 e2 => by have := h.ol p n cap e h0; omega, h.below.trans (ho.below (Nat.le_trans h.base (Nat.le_of_lt h.feed.lt)) fun k e => by rw [e]; exact h.base), h.flo, h.bl, h.ol, h.base⟩
theorem RR.keep {B T : Nat} {w wr wn : World} {lo hi gn gf : Nat} {zs : List Int} {L : List Bool} {vb vo : Value} {j : Nat} (h : RR B T w wr lo hi gn gf zs L vb vo j) (hb : Below wr.heap.size wr wn) :
    RR B T w wn lo hi gn gf zs L vb vo j :=
  h.step (h.feed.only (OnlyS.of_below (S := fun _ => False) hb) (fun h => h) (fun _ _ _ _ _ h => h)) (OnlyS.of_below hb)
end Go.Proofs.Ytoifppfhnedahaa
