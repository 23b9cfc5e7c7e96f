/-
  Merged, in the order in which they build: Exp ExpW Ne Rds BackKit Gets.
-/
import Derived.Deep.LoopGhost
import Derived.Test.YtefeilgbofphjaaDoorMg3
import Derived.Test.YtefeilgbofphjaaDoorMg4
import Derived.Test.YtefeilgbofphjaaDoorMg14
/-
  expanded: a whole stream, and what tells of its blocks.
-/
namespace Go.Proofs.YtefeilgbofphjaaDoor
open Go.RowKit
/-- What a teller of blocks does: what it holds, and its blocks of memory. -/
structure Tells (N : Nat) (fn : FuncId) (caps : Array Value) (I : World → (Nat → Prop) → List Inf.Blk → Prop) : Prop where
  call : ∀ w X ks k, ks.length < N → I w X ks → Calls Tryd.prog fn (#[kv k] ++ caps) w fun e w' => e = .returned (.tuple #[]) ∧ OnlyS X w w' ∧ ∃ X', I w' X' (ks ++ [k]) ∧ Grew w X X'
  stay : ∀ {w w' X S ks}, I w X ks → OnlyS S w w' → (∀ i, S i → ¬ X i) → I w' X ks
  lt : ∀ {w X ks}, I w X ks → ∀ i, X i → i < w.heap.size
/-- A stream under way, and what was told of it. -/
structure ExpAt (w wr : World) (I : World → (Nat → Prop) → List Inf.Blk → Prop) (X0 X : Nat → Prop) (B : Nat) (O : Nat → Prop) (gt gb g : Nat) (ov : Value) (most : Nat) (out : List UInt8) (pl : Value) (r : List Bool) (ks : List Inf.Blk) : Prop where
  st : StAt wr B O gt gb g ov most out pl r
  fix : FixAt wr (fun i => own3 O gt ov i ∨ X i ∨ i = w.heap.size ∨ i = w.heap.size + 1) pl
  c6 : wr.heap[w.heap.size]? = some (.cells #[.pointer (some ⟨gt, 0, none⟩)] 61 (0, 0))
  c7 : wr.heap[w.heap.size + 1]? = some (.cells #[.int .i64 0] 26 (0, 0))
  inv : I wr X ks
  apart : ∀ i, own3 O gt ov i → ¬ X i
  high : ∀ i, own3 O gt ov i → w.heap.size + 2 ≤ i
  gbh : w.heap.size + 2 ≤ gb
  gbx : ¬ X gb
  x6 : ∀ i, X i → i ≠ w.heap.size ∧ i ≠ w.heap.size + 1
  xb : ∀ i, X i → B ≤ i
  only : OnlyS X0 w wr
  grew : Grew w X0 X
  size : w.heap.size + 2 ≤ wr.heap.size
namespace ExpAt
variable {w wr w1 : World} {I : World → (Nat → Prop) → List Inf.Blk → Prop} {X0 X X1 : Nat → Prop} {B : Nat} {O : Nat → Prop} {gt gb g : Nat} {ov : Value} {most : Nat} {out : List UInt8} {pl : Value} {r : List Bool} {ks : List Inf.Blk} {N : Nat} {fn : FuncId} {caps : Array Value}
theorem same (ht : Tells N fn caps I) (h : ExpAt w wr I X0 X B O gt gb g ov most out pl r ks) (ho : OnlyS (fun _ => False) wr w1) : ExpAt w w1 I X0 X B O gt gb g ov most out pl r ks :=
  ⟨h.st.same ho, h.fix.next (ho.mono fun _ _ h => h.elim) (Grew.refl _ _), (ho.block _ (by have := h.size; omega) (fun h => h)).trans h.c6, (ho.block _ (by have := h.size; omega) (fun h => h)).trans h.c7, ht.stay h.inv ho (fun _ h => h.elim), h.apart, h.high, h.gbh, h.gbx, h.x6, h.xb, h.only.trans (ho.mono fun _ _ h => h.elim), h.grew, Nat.le_trans h.size ho.size⟩
/-- A block. -/
theorem blk (ht : Tells N fn caps I) (h : ExpAt w wr I X0 X B O gt gb g ov most out pl r ks) {O' : Nat → Prop} {ov' pl' : Value} {out' : List UInt8} {r' : List Bool} (ho : OnlyS (own3 O gt ov) wr w1) (hs : StAt w1 B O' gt gb g ov' most out' pl' r') (hg : Grew wr (own3 O gt ov) (own3 O' gt ov'))
    (hf : FixAt w1 (fun i => own3 O' gt ov' i ∨ X i ∨ i = w.heap.size ∨ i = w.heap.size + 1) pl') : ExpAt w w1 I X0 X B O' gt gb g ov' most out' pl' r' ks :=
  ⟨hs, hf, (ho.block _ (by have := h.size; omega) (fun hi => by have := h.high _ hi; omega)).trans h.c6, (ho.block _ (by have := h.size; omega) (fun hi => by have := h.high _ hi; omega)).trans h.c7, ht.stay h.inv ho h.apart,
   (fun i hi hx => by
     rcases hg i hi with h1 | h1
     · exact h.apart i h1 hx
     · have := ht.lt h.inv i hx; omega),
   (fun i hi => by
     rcases hg i hi with h1 | h1
     · exact h.high i h1
     · have := h.size; omega), h.gbh, h.gbx, h.x6, h.xb, h.only.trans' ho (fun i hi => .inr (by have := h.high i hi; omega)), h.grew, Nat.le_trans h.size ho.size⟩
/-- What was told of it. -/
theorem told (h : ExpAt w wr I X0 X B O gt gb g ov most out pl r ks) {ks' : List Inf.Blk} (ho : OnlyS X wr w1) (hi : I w1 X1 ks') (hg : Grew wr X X1) : ExpAt w w1 I X0 X1 B O gt gb g ov most out pl r ks' :=
  ⟨h.st.off ho (fun i hi => ⟨fun hx => h.apart i hx hi, h.xb i hi⟩) h.gbx,
   (h.fix.next (ho.mono fun _ _ h => .inr (.inl h)) (T' := fun i => own3 O gt ov i ∨ X1 i ∨ i = w.heap.size ∨ i = w.heap.size + 1) (fun i hi => by
     rcases hi with hi | hi | hi
     · exact .inl (.inl hi)
     · rcases hg i hi with h1 | h1
       · exact .inl (.inr (.inl h1))
       · exact .inr h1
     · exact .inl (.inr (.inr hi)))),
   (ho.block _ (by have := h.size; omega) (fun hi => (h.x6 _ hi).1 rfl)).trans h.c6, (ho.block _ (by have := h.size; omega) (fun hi => (h.x6 _ hi).2 rfl)).trans h.c7, hi,
   (fun i h3 hx => by
     rcases hg i hx with h1 | h1
     · exact h.apart i h3 h1
     · have := (h.st.lt3 i h3).2; omega),
   h.high, h.gbh, hg.not h.gbx h.st.b.hand.box.lt,
   (fun i hx => by
     rcases hg i hx with h1 | h1
     · exact h.x6 i h1
     · have := h.size; exact ⟨by omega, by omega⟩),
   (fun i hx => by
     rcases hg i hx with h1 | h1
     · exact h.xb i h1
     · have := h.size; have := h.st.b.hand.box.lt; have := h.st.b.ge; have := h.st.b.lt; omega),
   h.only.trans' ho (fun i hi => h.grew i hi), h.grew.trans hg h.only.size, Nat.le_trans h.size ho.size⟩
end ExpAt
end Go.Proofs.YtefeilgbofphjaaDoor
/-
  expanded: the walk.
-/
namespace Go.Proofs.YtefeilgbofphjaaDoor
open Go.RowKit
def ExpPost (R0 : Inf.Res (List Inf.Blk × List UInt8)) (I : World → (Nat → Prop) → List Inf.Blk → Prop) (X0 : Nat → Prop) (B most : Nat) (w : World) (e : Ending) (w' : World) : Prop :=
  match R0 with
  | .ok ((ks, out), r') => ∃ gt gb g O ov pl X, e = .returned (.tuple #[.pointer (some ⟨gt, 0, none⟩), .int .i64 0]) ∧ ExpAt w w' I X0 X B O gt gb g ov most out pl r' ks
  | .error er => e = .returned (.tuple #[.pointer none, .int .i64 er]) ∧ OnlyS X0 w w'
theorem ExpAt.back {w wr w1 : World} {I : World → (Nat → Prop) → List Inf.Blk → Prop} {X0 X : Nat → Prop} {B : Nat} {O : Nat → Prop} {gt gb g : Nat} {ov : Value} {most : Nat} {out : List UInt8} {pl : Value} {r : List Bool} {ks : List Inf.Blk} {N : Nat} {fn : FuncId} {caps : Array Value}
    (ht : Tells N fn caps I) (hB : B ≤ w.heap.size) (h : ExpAt w wr I X0 X B O gt gb g ov most out pl r ks) (ho : OnlyS (fun i => i = w.heap.size ∨ i = w.heap.size + 1) wr w1)
    (h6 : w1.heap[w.heap.size]? = some (.cells #[.pointer (some ⟨gt, 0, none⟩)] 61 (0, 0))) (h7 : w1.heap[w.heap.size + 1]? = some (.cells #[.int .i64 0] 26 (0, 0))) : ExpAt w w1 I X0 X B O gt gb g ov most out pl r ks :=
  ⟨h.st.off ho (fun i hi => ⟨fun h1 => by have := h.high i h1; rcases hi with hi | hi <;> omega, by rcases hi with hi | hi <;> omega⟩) (fun hi => by have := h.gbh; rcases hi with hi | hi <;> omega),
   h.fix.next (ho.mono fun _ _ h => .inr (.inr h)) (Grew.refl _ _), h6, h7, ht.stay h.inv ho (fun i hi hx => by have := h.x6 i hx; rcases hi with hi | hi; exact this.1 hi; exact this.2 hi),
   h.apart, h.high, h.gbh, h.gbx, h.x6, h.xb, h.only.trans' ho (fun i hi => .inr (by rcases hi with hi | hi <;> omega)), h.grew, Nat.le_trans h.size ho.size⟩
set_option maxRecDepth 100000 in
set_option maxHeartbeats 4000000 in
theorem expanded_walk (w : World) (B : Nat) (hB : B ≤ w.heap.size) (hB0 : 0 < B) (hord : OrdAt w) (v : Value) (b : List UInt8) (most : Nat) (hv : SlV w v (bl b)) (hlen : b.length ≤ 1099511627776) (hbl : ∀ p m cap, v = .slice (some p) m cap → 0 < m → p.block < B) (hm : most ≤ 1073741824)
    (fn : FuncId) (caps : Array Value) (hcf : ∀ args w, (callFunc fn args).run Tryd.prog w = .ok (.enter fn args) w) (I : World → (Nat → Prop) → List Inf.Blk → Prop) (N : Nat) (hN : 8 * b.length < N) (ht : Tells N fn caps I) (X0 : Nat → Prop) (hI : I w X0 []) (hX0 : ∀ i, X0 i → B ≤ i) :
    Calls Tryd.prog 19 #[v, .int .i64 (most : Int), .func (.func fn) #[] caps] w (ExpPost (Inf.all b most) I X0 B most w) := by
  obtain ⟨R0, hR0⟩ : ∃ R0, R0 = Inf.all b most := ⟨_, rfl⟩
  rw [← hR0]
  unfold Inf.all at hR0
  have HR0 := Lib.hid hR0
  have HB := Lib.hid (And.intro hB hB0)
  have HORD := Lib.hid hord
  have HT := Lib.hid ht
  have HN := Lib.hid hN
  have HI := Lib.hid hI
  have HX0 := Lib.hid hX0
  have HV := Lib.hid hv
  have HBG := Lib.hid (fun W (hs : SlV W v (bl b)) (hW : B ≤ W.heap.size) => begun_walk W B hW v b most hs hlen hbl hm)
  obtain ⟨pz, cz, rfl⟩ := hv.shape
  rw [bl_length] at *
  have hm0 : (0 : Int) ≤ (most : Int) := by omega
  have hdm : decide ((most : Int) < 0) = false := decide_eq_false (by omega)
  have hmf : ∀ (fn : Fn) (first cap : Array Value) (w : World), (Instr.makeFunc fn first cap).run Tryd.prog w = .ok (.func fn first cap) w := fun _ _ _ _ => rfl
  clear hR0 hB hB0 hord ht hN hI hX0 hv hlen hbl hm
  go_enter_defers Tryd.func19, Tryd.ntmps19
  go_wp2_with fail
  generalize hw0 : (w.alloc (.cells #[.pointer none] 61)).alloc (.cells #[.int .i64 0] 26) = w0 at *
  have hz0 : w0.heap.size = w.heap.size + 2 := by rw [← hw0]; simp
  have hr6 : w0.heap[w.heap.size]? = some (.cells #[.pointer none] 61 (0, 0)) := by
    rw [← hw0]; exact (((Below.refl _ (w.alloc (.cells #[.pointer none] 61))).alloc (Nat.le_refl _) (.cells #[.int .i64 0] 26)).block _ (by simp)).trans (heap_alloc_new w _)
  have hr7 : w0.heap[w.heap.size + 1]? = some (.cells #[.int .i64 0] 26 (0, 0)) := by
    have h := heap_alloc_new (w.alloc (.cells #[.pointer none] 61)) (.cells #[.int .i64 0] 26)
    have e : (w.alloc (.cells #[.pointer none] 61)).heap.size = w.heap.size + 1 := by simp
    rw [e] at h
    rw [← hw0]; exact h
  have hb0 : Below w.heap.size w w0 := by rw [← hw0]; exact ((Below.refl _ w).alloc (Nat.le_refl _) _).alloc (by simp) _
  have HBG' := Lib.hid (HBG.out w0 (HV.out.below hb0 (Nat.le_refl _)) (by have := HB.out; omega))
  have HR6 := Lib.hid hr6
  have HR7 := Lib.hid hr7
  have HZ0 := Lib.hid hz0
  have HB0 := Lib.hid hb0
  clear hw0 hz0 hr6 hr7 hb0 HBG HV
  refine HBG'.out.mono ?_
  rintro e w1 ⟨gt, gb, g, O, rfl, hbel, hst, hown, hgb⟩
  have h6 : w1.heap[w.heap.size]? = some (.cells #[.pointer none] 61 (0, 0)) := (hbel.block _ (by have := HZ0.out; omega)).trans HR6.out
  have h7 : w1.heap[w.heap.size + 1]? = some (.cells #[.int .i64 0] 26 (0, 0)) := (hbel.block _ (by have := HZ0.out; omega)).trans HR7.out
  have c6 := cell_of_row _ _ 0 _ _ _ h6
  have f6 := frozen_of_row _ _ 0 _ _ h6
  have ho6 : OnlyS (fun i => i = w.heap.size) w1 (w1.setCell ⟨w.heap.size, 0, none⟩ (.pointer (some ⟨gt, 0, none⟩))) := OnlyS.setCell _ _ _ _ rfl
  have hE : ExpAt w (w1.setCell ⟨w.heap.size, 0, none⟩ (.pointer (some ⟨gt, 0, none⟩))) I X0 X0 B O gt gb g (.slice none 0 0) most [] (.pointer none) (Inf.bits b) [] := by
    have hz := HZ0.out
    have h01 : OnlyS (fun _ => False) w w1 := (OnlyS.of_below HB0.out).trans (OnlyS.of_below (hbel.mono (Nat.le_refl _)))
    have hx := HT.out.lt HI.out
    have h02 : OnlyS (fun _ => False) w (w1.setCell ⟨w.heap.size, 0, none⟩ (.pointer (some ⟨gt, 0, none⟩))) := ((h01.mono fun _ _ h => h.elim).trans ho6).mono (fun i hi h => by have h' : i = w.heap.size := h; omega)
    exact ⟨hst.off ho6 (fun i hi => by rw [hi]; exact ⟨fun h => by have := hown _ h; omega, HB.out.1⟩) (by omega), .inl rfl,
      (heap_setCell_same _ _ _ _ _ _ h6).trans rfl, (heap_setCell_other _ _ _ _ (show w.heap.size + 1 ≠ w.heap.size by omega)).trans h7, HT.out.stay HI.out h02 (fun _ h => h.elim),
      (fun i h1 h2 => by have := hown i h1; have := hx i h2; omega), (fun i h1 => by have := hown i h1; omega), by omega, (fun h => by have := hx _ h; omega), (fun i h => by have := hx i h; omega), HX0.out, h02.mono (fun _ _ h => h.elim), Grew.refl _ _,
      by have := hbel.size; have := ho6.size; omega⟩
  have HE := Lib.hid hE
  clear hbel hst hown hgb h6 h7 ho6 hE HR6 HR7 HB0 HBG'
  go_wp2_with fail
  generalize hw2 : w1.setCell ⟨w.heap.size, 0, none⟩ (.pointer (some ⟨gt, 0, none⟩)) = w2 at *
  clear hw2 c6 f6
  go_loopg [8] (8 * b.length + 2) (fun gk v8 wr => ∃ O ov pl out rc X ks, ExpAt w wr I X0 X B O gt gb g ov most out pl rc ks ∧ ks.length + rc.length ≤ 8 * b.length ∧ ((v8 = .bool false ∧ rc.length + 1 < gk ∧ R0 = Inf.blocks most (gk - 1) ks out rc) ∨ (v8 = .bool true ∧ 1 ≤ gk ∧ R0 = .ok ((ks, out), rc))))
  case atStart =>
    exact ⟨O, _, _, _, _, _, _, HE.out, by rw [bits_length]; simp, .inl ⟨rfl, by rw [bits_length]; omega, HR0.out⟩⟩
  case round =>
    obtain ⟨O1, ov1, pl1, outc, rc, X1, ks, h1, hkl, hcase⟩ := hrel
    have H1 := Lib.hid h1
    have HKL := Lib.hid hkl
    clear hkl
    have c6 := cell_of_row _ _ 0 _ _ _ h1.c6
    have f6 := frozen_of_row _ _ 0 _ _ h1.c6
    have hc6 : wr.cell? ⟨w.heap.size, 0, none⟩ = some (.pointer (some ⟨gt, 0, none⟩)) := c6
    clear HE h1 c6
    rcases hcase with ⟨rfl, hlen, he⟩ | ⟨rfl, hgk, he⟩
    · obtain ⟨f, hf⟩ : ∃ f, gk = f + 2 := ⟨gk - 2, by omega⟩
      subst hf
      rw [show f + 2 - 1 = f + 1 by omega, Inf.blocks] at he
      have HBW := Lib.hid (block_walk wr B O1 (fun i => X1 i ∨ i = w.heap.size ∨ i = w.heap.size + 1) gt gb g ov1 most outc pl1 rc H1.out.st (fun i hi => by
        have := H1.out.size
        rcases hi with hi | hi | hi
        · exact HT.out.lt H1.out.inv i hi
        · omega
        · omega) H1.out.fix (by have := HB.out; have := H1.out.size; omega) HB.out.2 (HORD.out.only H1.out.only (fun h => by have := HX0.out 0 h; have := HB.out.2; omega)))
      cases hbk : Inf.block most outc rc with
      | error er =>
        rw [hbk] at HBW he
        have HE := Lib.hid he
        clear he hbk hlen
        go_wp2_with fail
        refine HBW.out.mono ?_
        rintro e w3 ⟨ho3, rfl⟩
        have h6 : w3.heap[w.heap.size]? = some (.cells #[.pointer (some ⟨gt, 0, none⟩)] 61 (0, 0)) := (ho3.block _ (by have := H1.out.size; omega) (fun hi => by have := H1.out.high _ hi; omega)).trans H1.out.c6
        have h7 : w3.heap[w.heap.size + 1]? = some (.cells #[.int .i64 0] 26 (0, 0)) := (ho3.block _ (by have := H1.out.size; omega) (fun hi => by have := H1.out.high _ hi; omega)).trans H1.out.c7
        have hoE : OnlyS X0 w w3 := H1.out.only.trans' ho3 (fun i hi => .inr (by have := H1.out.high i hi; omega))
        have H6 := Lib.hid (And.intro h6 h7)
        have HOE := Lib.hid hoE
        clear ho3 h6 h7 hoE hc6 f6 HBW
        go_wp2_with fail
        refine leaves_cons (f := 29) (args := #[.pointer (some ⟨w.heap.size, 0, none⟩), .pointer (some ⟨w.heap.size + 1, 0, none⟩)]) (by simp) (by simp [go_sem]) ?_
        refine (caught_pan w.heap.size (w.heap.size + 1) _ _ er [] w3 H6.out.1 H6.out.2 (by omega)).mono ?_
        rintro e u' w4 ⟨rfl, rfl, h6, h7, ho4⟩
        have c6 : w4.cell? ⟨w.heap.size, 0, none⟩ = some (.pointer none) := cell_of_row _ _ 0 _ _ _ h6
        have c7 : w4.cell? ⟨w.heap.size + 1, 0, none⟩ = some (.int .i64 er) := cell_of_row _ _ 0 _ _ _ h7
        have hfin : ExpPost R0 I X0 B most w (.returned (.tuple #[.pointer none, .int .i64 er])) w4 := by
          rw [HE.out]
          exact ⟨rfl, HOE.out.trans' ho4 (fun i hi => .inr (by rcases hi with hi | hi <;> omega))⟩
        have HFIN := Lib.hid hfin
        clear h6 h7 ho4 hfin
        simp [Leaves, settle, results, Tryd.results19, go_sem, c6, c7]
        exact HFIN.out
      | ok p =>
        obtain ⟨⟨k, out2⟩, r2⟩ := p
        have hless := block_less hbk
        rw [hbk] at HBW he
        simp only at he
        have HE := Lib.hid he
        clear he hbk
        go_wp2_with fail
        refine HBW.out.mono ?_
        rintro e w3 ⟨ho3, rfl, O3, ov3, pl3, hs3, hg3, hf3⟩
        have H3 := Lib.hid (H1.out.blk HT.out ho3 hs3 hg3 hf3)
        clear ho3 hs3 hg3 hf3 HBW hc6 f6
        unfold kv
        go_wp2_with fail
        have hrow := heap_alloc_new w3 (.cells #[.int .i64 (k.kind : Int), .bool k.last, .int .i64 (k.from_ : Int), .int .i64 (k.to : Int)] 33)
        have hsz : w3.heap.size < (w3.alloc (.cells #[.int .i64 (k.kind : Int), .bool k.last, .int .i64 (k.from_ : Int), .int .i64 (k.to : Int)] 33)).heap.size := by simp
        have H5 := Lib.hid (H3.out.same HT.out (OnlyS.alloc w3 (.cells #[.int .i64 (k.kind : Int), .bool k.last, .int .i64 (k.from_ : Int), .int .i64 (k.to : Int)] 33)))
        have HX := Lib.hid (fun h => by have := HT.out.lt H3.out.inv w3.heap.size h; omega : ¬ X1 w3.heap.size)
        have hkN : ks.length < N := by have := HKL.out; have := HN.out; omega
        refine (HT.out.call _ X1 ks k hkN H5.out.inv).mono ?_
        generalize (w3.alloc (.cells #[.int .i64 (k.kind : Int), .bool k.last, .int .i64 (k.from_ : Int), .int .i64 (k.to : Int)] 33)) = w5 at *
        rintro e w6 ⟨rfl, ho6, X2, hi2, hg2⟩
        have H6 := Lib.hid (H5.out.told ho6 hi2 hg2)
        have hr9 := (ho6.block _ hsz HX.out).trans hrow
        have c9 : w6.cell? ⟨w3.heap.size, 1, none⟩ = some (.bool k.last) := cell_of_row _ _ 1 _ _ _ hr9
        clear hkN ho6 hi2 hg2 hr9 hrow hsz H5 HX H3
        go_wp2_with fail
        go_roundg (f + 1)
        rotate_left
        · omega
        · refine ⟨O3, ov3, pl3, out2, r2, X2, ks ++ [k], H6.out, by have := HKL.out; simp; omega, ?_⟩
          have he := HE.out
          cases hl : k.last with
          | true =>
            rw [hl] at he
            exact .inr ⟨rfl, by omega, he⟩
          | false =>
            rw [hl] at he
            exact .inl ⟨rfl, by omega, he⟩
    · have HE := Lib.hid he
      have c7 := cell_of_row _ _ 0 _ _ _ H1.out.c7
      have f7 := frozen_of_row _ _ 0 _ _ H1.out.c7
      clear he
      go_wp2_with fail
      have ho2 : OnlyS (fun i => i = w.heap.size ∨ i = w.heap.size + 1) wr ((wr.setCell ⟨w.heap.size, 0, none⟩ (.pointer (some ⟨gt, 0, none⟩))).setCell ⟨w.heap.size + 1, 0, none⟩ (.int .i64 0)) := (OnlyS.setCell _ _ _ _ (.inl rfl)).trans (OnlyS.setCell _ _ _ _ (.inr rfl))
      have h6 : ((wr.setCell ⟨w.heap.size, 0, none⟩ (.pointer (some ⟨gt, 0, none⟩))).setCell ⟨w.heap.size + 1, 0, none⟩ (.int .i64 0)).heap[w.heap.size]? = some (.cells #[.pointer (some ⟨gt, 0, none⟩)] 61 (0, 0)) := (heap_setCell_other _ _ _ _ (show w.heap.size ≠ w.heap.size + 1 by omega)).trans ((heap_setCell_same _ _ _ _ _ _ H1.out.c6).trans rfl)
      have h7 : ((wr.setCell ⟨w.heap.size, 0, none⟩ (.pointer (some ⟨gt, 0, none⟩))).setCell ⟨w.heap.size + 1, 0, none⟩ (.int .i64 0)).heap[w.heap.size + 1]? = some (.cells #[.int .i64 0] 26 (0, 0)) := (heap_setCell_same _ _ _ _ _ _ ((heap_setCell_other _ _ _ _ (show w.heap.size + 1 ≠ w.heap.size by omega)).trans H1.out.c7)).trans rfl
      generalize ((wr.setCell ⟨w.heap.size, 0, none⟩ (.pointer (some ⟨gt, 0, none⟩))).setCell ⟨w.heap.size + 1, 0, none⟩ (.int .i64 0)) = wf at *
      have c6' : wf.cell? ⟨w.heap.size, 0, none⟩ = some (.pointer (some ⟨gt, 0, none⟩)) := cell_of_row _ _ 0 _ _ _ h6
      have c7' : wf.cell? ⟨w.heap.size + 1, 0, none⟩ = some (.int .i64 0) := cell_of_row _ _ 0 _ _ _ h7
      have hfin : ExpPost R0 I X0 B most w (.returned (.tuple #[.pointer (some ⟨gt, 0, none⟩), .int .i64 0])) wf := by
        rw [HE.out]
        exact ⟨gt, gb, g, O1, ov1, pl1, X1, rfl, H1.out.back HT.out HB.out.1 ho2 h6 h7⟩
      have HFIN := Lib.hid hfin
      clear ho2 h6 h7 hfin c7 f7 hc6 f6
      refine leaves_cons (f := 29) (args := #[.pointer (some ⟨w.heap.size, 0, none⟩), .pointer (some ⟨w.heap.size + 1, 0, none⟩)]) (by simp) (by simp [go_sem]) ?_
      refine (caught_idle ⟨w.heap.size, 0, none⟩ ⟨w.heap.size + 1, 0, none⟩ _).mono ?_
      rintro e u' w4 ⟨rfl, rfl, rfl⟩
      simp [Leaves, settle, results, Tryd.results19, go_sem, c6', c7']
      exact HFIN.out
end Go.Proofs.YtefeilgbofphjaaDoor
/-
  No error is 0: the fuel is enough.
-/
namespace Go.Proofs.YtefeilgbofphjaaDoor
theorem numb_ne (n : Nat) (r : List Bool) : Inf.numb n r ≠ .error 0 := by
  unfold Inf.numb
  split
  · exact fun h => by cases h
  · exact fun h => by cases h
theorem symb_ne (zs : List Int) (r : List Bool) : Inf.symb zs r ≠ .error 0 := by
  unfold Inf.symb
  split
  · exact fun h => by cases h
  · rename_i h0
    exact fun h => h0 (Except.error.inj h)
theorem scal_ne (g s : Nat) (r : List Bool) : Inf.scal g s r ≠ .error 0 := by
  unfold Inf.scal
  split
  · exact fun h => by cases h
  · have := numb_ne (s / g - 1) r
    cases hn : Inf.numb (s / g - 1) r with
    | error e => rw [hn] at this; exact fun h => this (by rw [Except.error.inj h])
    | ok p => exact fun h => by cases h
theorem long_ne (s : Nat) (r : List Bool) : Inf.long s r ≠ .error 0 := by
  unfold Inf.long
  split
  · exact fun h => by cases h
  split
  · exact fun h => by cases h
  · have := scal_ne 4 (s - 257) r
    cases hn : Inf.scal 4 (s - 257) r with
    | error e => rw [hn] at this; exact fun h => this (by rw [Except.error.inj h])
    | ok p => exact fun h => by cases h
theorem far_ne (ds : List Int) (r : List Bool) : Inf.far ds r ≠ .error 0 := by
  unfold Inf.far
  have h1 := symb_ne ds r
  cases hs : Inf.symb ds r with
  | error e => rw [hs] at h1; exact fun h => h1 (by rw [Except.error.inj h])
  | ok p =>
    obtain ⟨s, r1⟩ := p
    simp only
    split
    · exact fun h => by cases h
    · have h2 := scal_ne 2 s r1
      cases hx : Inf.scal 2 s r1 with
      | error e => rw [hx] at h2; exact fun h => h2 (by rw [Except.error.inj h])
      | ok p => exact fun h => by cases h
theorem back_ne (ds : List Int) (most n : Nat) (out : List UInt8) (r : List Bool) : Inf.back ds most n out r ≠ .error 0 := by
  unfold Inf.back
  have h1 := far_ne ds r
  cases hs : Inf.far ds r with
  | error e => rw [hs] at h1; exact fun h => h1 (by rw [Except.error.inj h])
  | ok p =>
    obtain ⟨d, r1⟩ := p
    simp only
    split
    · exact fun h => by cases h
    split
    · exact fun h => by cases h
    · exact fun h => by cases h
theorem body_ne (zs ds : List Int) (most : Nat) : ∀ (f : Nat) (out : List UInt8) (r : List Bool), r.length < f → Inf.body zs ds most f out r ≠ .error 0
  | 0, out, r, hf => by omega
  | f + 1, out, r, hf => by
    rw [Inf.body]
    have h1 := symb_ne zs r
    cases hs : Inf.symb zs r with
    | error e => rw [hs] at h1; exact fun h => h1 (by rw [Except.error.inj h])
    | ok p =>
      obtain ⟨s, r1⟩ := p
      have e1 := symb_less hs
      simp only
      split
      · split
        · exact fun h => by cases h
        · exact body_ne zs ds most f _ _ (by omega)
      · split
        · exact fun h => by cases h
        · have h2 := long_ne s r1
          cases hl : Inf.long s r1 with
          | error e => rw [hl] at h2; exact fun h => h2 (by rw [Except.error.inj h])
          | ok p =>
            obtain ⟨n, r2⟩ := p
            have e2 := (long_less hl).1
            simp only
            have h3 := back_ne ds most n out r2
            cases hb : Inf.back ds most n out r2 with
            | error e => rw [hb] at h3; exact fun h => h3 (by rw [Except.error.inj h])
            | ok p =>
              obtain ⟨o2, r3⟩ := p
              have e3 := back_less hb
              exact body_ne zs ds most f _ _ (by omega)
theorem stored_ne (most : Nat) (out : List UInt8) (r : List Bool) : Inf.stored most out r ≠ .error 0 := by
  unfold Inf.stored
  have h1 := numb_ne 16 (r.drop (r.length % 8))
  cases hn : Inf.numb 16 (r.drop (r.length % 8)) with
  | error e => rw [hn] at h1; exact fun h => h1 (by rw [Except.error.inj h])
  | ok p =>
    obtain ⟨n, r1⟩ := p
    simp only
    have h2 := numb_ne 16 r1
    cases hm : Inf.numb 16 r1 with
    | error e => rw [hm] at h2; exact fun h => h2 (by rw [Except.error.inj h])
    | ok p =>
      obtain ⟨m, r2⟩ := p
      simp only
      split
      · exact fun h => by cases h
      · unfold Inf.take
        split
        · exact fun h => by cases h
        split
        · exact fun h => by cases h
        · exact fun h => by cases h
theorem book_ne (zs : List Int) : Inf.book zs ≠ .error 0 := by
  unfold Inf.book
  split
  · exact fun h => by cases h
  · rename_i h0
    exact fun h => h0 (Except.error.inj h)
theorem teller_ne : ∀ (n : Nat) (lens : List Int) (k : Nat) (r : List Bool), Inf.teller n lens k r ≠ .error 0
  | 0, lens, k, r => by rw [Inf.teller]; exact fun h => by cases h
  | n + 1, lens, k, r => by
    rw [Inf.teller]
    have h1 := numb_ne 3 r
    cases hn : Inf.numb 3 r with
    | error e => rw [hn] at h1; exact fun h => h1 (by rw [Except.error.inj h])
    | ok p => exact teller_ne n _ _ _
theorem run_ne (zs ahead : List Int) (r : List Bool) : Inf.run zs ahead r ≠ .error 0 ∧ ∀ z t r', Inf.run zs ahead r = .ok ((z, t), r') → 1 ≤ t := by
  unfold Inf.run
  have h1 := symb_ne zs r
  cases hs : Inf.symb zs r with
  | error e => rw [hs] at h1; exact ⟨fun h => h1 (by rw [Except.error.inj h]), fun z t r' h => by cases h⟩
  | ok p =>
    obtain ⟨s, r1⟩ := p
    simp only
    split
    · have h2 := numb_ne 2 r1
      cases hn : Inf.numb 2 r1 with
      | error e => rw [hn] at h2; exact ⟨fun h => h2 (by rw [Except.error.inj h]), fun z t r' h => by cases h⟩
      | ok p =>
        obtain ⟨x, r2⟩ := p
        simp only
        split
        · exact ⟨fun h => (by cases h), fun z t r' h => (by cases h)⟩
        · exact ⟨fun h => (by cases h), fun z t r' h => by have := (Prod.mk.inj (Prod.mk.inj (Except.ok.inj h)).1).2; omega⟩
    · split
      · have h2 := numb_ne 3 r1
        cases hn : Inf.numb 3 r1 with
        | error e => rw [hn] at h2; exact ⟨fun h => h2 (by rw [Except.error.inj h]), fun z t r' h => by cases h⟩
        | ok p => exact ⟨fun h => (by cases h), fun z t r' h => by have := (Prod.mk.inj (Prod.mk.inj (Except.ok.inj h)).1).2; omega⟩
      · split
        · have h2 := numb_ne 7 r1
          cases hn : Inf.numb 7 r1 with
          | error e => rw [hn] at h2; exact ⟨fun h => h2 (by rw [Except.error.inj h]), fun z t r' h => by cases h⟩
          | ok p => exact ⟨fun h => (by cases h), fun z t r' h => by have := (Prod.mk.inj (Prod.mk.inj (Except.ok.inj h)).1).2; omega⟩
        · exact ⟨fun h => (by cases h), fun z t r' h => by have := (Prod.mk.inj (Prod.mk.inj (Except.ok.inj h)).1).2; omega⟩
theorem lens_ne (zs : List Int) (many : Nat) : ∀ (f : Nat) (ahead : List Int) (r : List Bool), 1 ≤ f → many < f + ahead.length → Inf.lens zs many f ahead r ≠ .error 0
  | 0, ahead, r, h1, h2 => by omega
  | f + 1, ahead, r, h1, h2 => by
    rw [Inf.lens]
    split
    · rename_i hlt
      have h3 := run_ne zs ahead r
      cases hr : Inf.run zs ahead r with
      | error e => rw [hr] at h3; exact fun h => h3.1 (by rw [Except.error.inj h])
      | ok p =>
        obtain ⟨⟨z, t⟩, r2⟩ := p
        have ht := h3.2 z t r2 hr
        exact lens_ne zs many f _ _ (by omega) (by rw [List.length_append, List.length_replicate]; omega)
    · split
      · exact fun h => by cases h
      · exact fun h => by cases h
theorem heads_ne (r : List Bool) : Inf.heads r ≠ .error 0 := by
  rw [heads_eq]
  have h1 := numb_ne 5 r
  cases hn : Inf.numb 5 r with
  | error e => rw [hn] at h1; exact fun h => h1 (by rw [Except.error.inj h])
  | ok p =>
    obtain ⟨l, r1⟩ := p
    simp only
    have h2 := numb_ne 5 r1
    cases hn2 : Inf.numb 5 r1 with
    | error e => rw [hn2] at h2; exact fun h => h2 (by rw [Except.error.inj h])
    | ok p =>
      obtain ⟨d, r2⟩ := p
      simp only
      have h3 := numb_ne 4 r2
      cases hn3 : Inf.numb 4 r2 with
      | error e => rw [hn3] at h3; exact fun h => h3 (by rw [Except.error.inj h])
      | ok p =>
        obtain ⟨c, r3⟩ := p
        simp only [headB]
        split
        · exact fun h => by cases h
        · unfold telB tellR
          have h4 := teller_ne (4 + c) (List.replicate 19 0) 0 r3
          cases ht : Inf.teller (4 + c) (List.replicate 19 0) 0 r3 with
          | error e => rw [ht] at h4; exact fun h => h4 (by rw [Except.error.inj h])
          | ok p =>
            obtain ⟨zs, r4⟩ := p
            simp only [telFin]
            have h5 := book_ne zs
            cases hb : Inf.book zs with
            | error e => rw [hb] at h5; exact fun h => h5 (by rw [Except.error.inj h])
            | ok _ =>
              simp only [lenB]
              have h6 := lens_ne zs (257 + l + (1 + d)) (257 + l + (1 + d) + 1) [] r4 (by omega) (by simp)
              cases hl : Inf.lens zs (257 + l + (1 + d)) (257 + l + (1 + d) + 1) [] r4 with
              | error e => rw [hl] at h6; exact fun h => h6 (by rw [Except.error.inj h])
              | ok p =>
                obtain ⟨all, r5⟩ := p
                simp only [finB]
                split
                · exact fun h => by cases h
                · have h7 := book_ne (all.take (257 + l))
                  cases hb1 : Inf.book (all.take (257 + l)) with
                  | error e => rw [hb1] at h7; exact fun h => h7 (by rw [Except.error.inj h])
                  | ok _ =>
                    simp only
                    have h8 := book_ne (all.drop (257 + l))
                    cases hb2 : Inf.book (all.drop (257 + l)) with
                    | error e => rw [hb2] at h8; exact fun h => h8 (by rw [Except.error.inj h])
                    | ok _ => exact fun h => by cases h
theorem kindB_ne (most : Nat) (out : List UInt8) (k : Nat) (r : List Bool) : kindB most out k r ≠ .error 0 := by
  unfold kindB
  split
  · exact stored_ne most out r
  split
  · exact body_ne _ _ _ _ _ _ (by omega)
  split
  · have h1 := heads_ne r
    cases hh : Inf.heads r with
    | error e => rw [hh] at h1; exact fun h => h1 (by rw [Except.error.inj h])
    | ok p => exact body_ne _ _ _ _ _ _ (by omega)
  · exact fun h => by cases h
theorem block_ne (most : Nat) (out : List UInt8) (r : List Bool) : Inf.block most out r ≠ .error 0 := by
  rw [block_eq]
  have h1 := numb_ne 1 r
  cases hn : Inf.numb 1 r with
  | error e => rw [hn] at h1; exact fun h => h1 (by rw [Except.error.inj h])
  | ok p =>
    obtain ⟨l, r1⟩ := p
    simp only
    have h2 := numb_ne 2 r1
    cases hn2 : Inf.numb 2 r1 with
    | error e => rw [hn2] at h2; exact fun h => h2 (by rw [Except.error.inj h])
    | ok p =>
      obtain ⟨k, r2⟩ := p
      simp only
      have h3 := kindB_ne most out k r2
      cases hk : kindB most out k r2 with
      | error e => rw [hk] at h3; exact fun h => h3 (by rw [Except.error.inj h])
      | ok p => exact fun h => by cases h
theorem blocks_ne (most : Nat) : ∀ (f : Nat) (ks : List Inf.Blk) (out : List UInt8) (r : List Bool), r.length < f → Inf.blocks most f ks out r ≠ .error 0
  | 0, ks, out, r, hf => by omega
  | f + 1, ks, out, r, hf => by
    rw [Inf.blocks]
    have h1 := block_ne most out r
    cases hb : Inf.block most out r with
    | error e => rw [hb] at h1; exact fun h => h1 (by rw [Except.error.inj h])
    | ok p =>
      obtain ⟨⟨k, o2⟩, r2⟩ := p
      have := block_less hb
      simp only
      split
      · exact fun h => by cases h
      · exact blocks_ne most f _ _ _ (by omega)
theorem all_ne (b : List UInt8) (most : Nat) : Inf.all b most ≠ .error 0 :=
  blocks_ne most _ _ _ _ (by rw [bits_length]; omega)
end Go.Proofs.YtefeilgbofphjaaDoor
/-
  What a book reads is what the document's Next reads.
-/
namespace Hf

theorem ct_deep (zs : List Int) (n : Nat) (h : deep zs < n) : ct zs n = 0 := by
  unfold ct
  split
  · rfl
  · rw [List.count_eq_zero]
    intro hm
    have := (foldl_max zs 1).2 _ hm
    unfold deep at h; omega
theorem K_above (zs : List Int) (d : Nat) : K zs (deep zs + d) = 2 ^ d * K zs (deep zs) := by
  induction d with
  | zero => simp
  | succ d ih =>
    have e : K zs (deep zs + d + 1) = 2 * K zs (deep zs + d) + ct zs (deep zs + d + 1) := rfl
    rw [show deep zs + (d + 1) = deep zs + d + 1 by omega, e, ih, ct_deep zs _ (by omega), Nat.pow_succ, Nat.add_zero, ← Nat.mul_assoc, Nat.mul_comm 2]
theorem K_deep (zs : List Int) (h : kr zs = 32768) (hd : deep zs ≤ 15) : K zs (deep zs) = 2 ^ deep zs := by
  have h1 := K_above zs (15 - deep zs)
  rw [show deep zs + (15 - deep zs) = 15 by omega, show K zs 15 = 32768 from h] at h1
  have h2 : (32768 : Nat) = 2 ^ (15 - deep zs) * 2 ^ deep zs := by rw [← Nat.pow_add, show 15 - deep zs + deep zs = 15 by omega]
  have hp : 0 < 2 ^ (15 - deep zs) := Nat.pow_pos (by decide)
  exact Nat.eq_of_mul_eq_mul_left hp (h1.symm.trans h2)
theorem rd_same (zs : List Int) (h : kr zs = 32768) (hd : deep zs ≤ 15) : ∀ f n c (bs : List Bool), n + f = deep zs → c < 2 ^ n → K zs n ≤ c → rd zs f n c bs = rd zs (15 - n) n c bs := by
  intro f
  induction f with
  | zero =>
    intro n c bs hn hc hk
    exfalso
    obtain rfl : n = deep zs := by omega
    rw [K_deep zs h hd] at hk
    omega
  | succ f ih =>
    intro n c bs hn hc hk
    have e : 15 - n = (15 - (n + 1)) + 1 := by omega
    rw [e]
    match bs with
    | [] => rfl
    | b :: t =>
      rw [rd, rd]
      cases hs : sym zs (n + 1) (2 * c + b.toNat) with
      | some s => rfl
      | none =>
        have hF : F zs (n + 1) ≤ 2 * c + b.toNat := by rw [F_succ]; omega
        have hb : b.toNat < 2 := by cases b <;> decide
        exact ih (n + 1) (2 * c + b.toNat) t (by omega) (by rw [Nat.pow_succ]; omega) ((sym_none zs (n + 1) _ (by omega) hF).1 hs)
theorem rd_full (zs : List Int) (h : kr zs = 32768) (hd : deep zs ≤ 15) (bs : List Bool) : rd zs (deep zs) 0 0 bs = rd zs 15 0 0 bs :=
  rd_same zs h hd (deep zs) 0 0 bs (by omega) (by decide) (by rw [K_zero]; omega)
/-- What may come of reading. -/
theorem rd_ends (zs : List Int) : ∀ f n c (bs : List Bool), ((rd zs f n c bs).2.1 = 0 ∧ n < (rd zs f n c bs).2.2) ∨ ((rd zs f n c bs).2.1 = 4 ∧ (rd zs f n c bs).1 = 0) ∨ ((rd zs f n c bs).2.1 = 20 ∧ (rd zs f n c bs).1 = 0) := by
  intro f
  induction f with
  | zero => intro n c bs; cases bs <;> exact .inr (.inr ⟨rfl, rfl⟩)
  | succ f ih =>
    intro n c bs
    match bs with
    | [] => exact .inr (.inl ⟨rfl, rfl⟩)
    | b :: t =>
      rw [rd]
      cases hs : sym zs (n + 1) (2 * c + b.toNat) with
      | some s => exact .inl ⟨rfl, by simp⟩
      | none =>
        rcases ih (n + 1) (2 * c + b.toNat) t with h | h
        · exact .inl ⟨h.1, by simp only at h ⊢; omega⟩
        · exact .inr h
theorem rd_took (zs : List Int) : ∀ f n c (bs : List Bool), (rd zs f n c bs).2.2 ≤ n + bs.length := by
  intro f
  induction f with
  | zero => intro n c bs; cases bs <;> (simp [rd])
  | succ f ih =>
    intro n c bs
    match bs with
    | [] => simp [rd]
    | b :: t =>
      rw [rd]
      cases hs : sym zs (n + 1) (2 * c + b.toNat) with
      | some s => simp only [List.length_cons]; omega
      | none =>
        have := ih (n + 1) (2 * c + b.toNat) t
        simp only [List.length_cons]; omega
end Hf
/-
  HuffBack, as plain mathematics: codes turned twice, what is read of a code's bits, no code the beginning of another.
-/
namespace Go.Proofs.YtefeilgbofphjaaDoor
open Go.RowKit Hf

/-- The bits of a turned number. -/
theorem trn_bit (c n k : Nat) (hk : k < n) : trn c n / 2 ^ k % 2 = c / 2 ^ (n - 1 - k) % 2 := by
  induction n generalizing k with
  | zero => omega
  | succ n ih =>
    rw [trn]
    cases k with
    | zero =>
      rw [show n + 1 - 1 - 0 = n by omega]; simp
    | succ k =>
      have := ih k (by omega)
      rw [Nat.pow_succ, Nat.mul_comm (2 ^ k), ← Nat.div_div_eq_div_mul, show (2 * trn c n + c / 2 ^ n % 2) / 2 = trn c n by omega, this, show n + 1 - 1 - (k + 1) = n - 1 - k by omega]
theorem bits_same : ∀ (n x y : Nat), x < 2 ^ n → y < 2 ^ n → (∀ k, k < n → x / 2 ^ k % 2 = y / 2 ^ k % 2) → x = y
  | 0, x, y, hx, hy, _ => by simp at hx hy; omega
  | n + 1, x, y, hx, hy, h => by
    have h0 := h 0 (by omega)
    have := bits_same n (x / 2) (y / 2) (by rw [Nat.pow_succ] at hx; omega) (by rw [Nat.pow_succ] at hy; omega) (fun k hk => by
      have := h (k + 1) (by omega)
      rw [Nat.pow_succ, Nat.mul_comm (2 ^ k), ← Nat.div_div_eq_div_mul, ← Nat.div_div_eq_div_mul] at this
      exact this)
    simp at h0
    omega
/-- Turned twice it is as it was. -/
theorem trn_twice (c n : Nat) (h : c < 2 ^ n) : trn (trn c n) n = c := by
  refine bits_same n _ _ (trn_lt _ _) h fun k hk => ?_
  rw [trn_bit _ _ _ hk, trn_bit _ _ _ (by omega), show n - 1 - (n - 1 - k) = k by omega]
/-- The bits of a number, its first one ahead. -/
def bitsN (c n : Nat) : List Bool := (List.range n).map fun k => decide (trn c n / 2 ^ k % 2 = 1)
theorem bitsN_length (c n : Nat) : (bitsN c n).length = n := by simp [bitsN]
theorem bitsN_15 (c n : Nat) (hn : n ≤ 15) : bitsN c n = (bits15 (c * 2 ^ (15 - n))).take n := by
  apply List.ext_getElem
  · rw [bitsN_length, List.length_take, bits15_length]; omega
  · intro k h1 h2
    rw [bitsN_length] at h1
    rw [List.getElem_take]
    simp only [bitsN, bits15, List.getElem_map, List.getElem_range]
    rw [trn_bit c n k h1]
    have e : c * 2 ^ (15 - n) / 2 ^ (14 - k) = c / 2 ^ (n - 1 - k) := by
      rw [show 14 - k = (15 - n) + (n - 1 - k) by omega, Nat.pow_add, ← Nat.div_div_eq_div_mul, Nat.mul_div_cancel _ (Nat.pow_pos (by decide))]
    rw [e]
/-- What is read depends on what is taken. -/
theorem rd_local (zs : List Int) : ∀ f n c (bs bs' : List Bool) (m s : Nat), rd zs f n c bs = (s, 0, n + m) → bs'.take m = bs.take m → rd zs f n c bs' = (s, 0, n + m) := by
  intro f
  induction f with
  | zero => intro n c bs bs' m s h _; rw [rd] at h; simp at h
  | succ f ih =>
    intro n c bs bs' m s h ht
    cases bs with
    | nil => rw [rd] at h; simp at h
    | cons b t =>
      rcases rd_ends zs (f + 1) n c (b :: t) with h1 | h1 | h1
      · rw [h] at h1
        simp only at h1
        obtain ⟨m, rfl⟩ : ∃ q, m = q + 1 := ⟨m - 1, by omega⟩
        cases bs' with
        | nil => simp at ht
        | cons b' t' =>
          rw [List.take_succ_cons, List.take_succ_cons] at ht
          injection ht with hb ht
          subst hb
          rw [rd] at h ⊢
          cases hs : sym zs (n + 1) (2 * c + b'.toNat) with
          | some x => rw [hs] at h; simpa using h
          | none =>
            rw [hs] at h
            simp only at h ⊢
            rw [show n + (m + 1) = n + 1 + m by omega] at h ⊢
            exact ih _ _ _ _ _ _ h ht
      · rw [h] at h1; simp at h1
      · rw [h] at h1; simp at h1
theorem hit_code {zs : List Int} (_hg : good zs) (s : Nat) (hs : 0 < zs.getD s 0) : hit zs (code zs s * 2 ^ (15 - (zs.getD s 0).toNat)) s :=
  ⟨hs, Nat.mul_div_cancel _ (Nat.pow_pos (by decide))⟩
theorem hit_kr {zs : List Int} (hg : good zs) (x s : Nat) (h : hit zs x s) : x < kr zs := by
  obtain ⟨_, n, hn, _, h3⟩ := (hit_sym hg x s).1 h
  exact sym_kr zs n x hn (by rw [h3]; rfl)
theorem code_lt {zs : List Int} (hg : good zs) (hk : kr zs ≤ 32768) (s : Nat) (hs : 0 < zs.getD s 0) : code zs s < 2 ^ (zs.getD s 0).toNat := by
  have h1 := hit_kr hg _ s (hit_code hg s hs)
  have hz := getD_good hg s
  have h2 : code zs s * 2 ^ (15 - (zs.getD s 0).toNat) < 2 ^ (zs.getD s 0).toNat * 2 ^ (15 - (zs.getD s 0).toNat) := by
    rw [← Nat.pow_add, show (zs.getD s 0).toNat + (15 - (zs.getD s 0).toNat) = 15 by omega]
    have : (2 : Nat) ^ 15 = 32768 := by decide
    omega
  exact Nat.lt_of_mul_lt_mul_right h2
/-- A code is read as its symbol, whatever stands behind. -/
theorem rd_code {zs : List Int} (hg : good zs) (hk : kr zs ≤ 32768) (s : Nat) (hs : 0 < zs.getD s 0) (rest : List Bool) : rd zs (deep zs) 0 0 (bitsN (code zs s) (zs.getD s 0).toNat ++ rest) = (s, 0, (zs.getD s 0).toNat) := by
  have hh := hit_code hg s hs
  have h1 := hit_kr hg _ s hh
  have hz := getD_good hg s
  rcases read_hit hg _ s hh with h | h
  · have := rd_local zs (deep zs) 0 0 _ (bitsN (code zs s) (zs.getD s 0).toNat ++ rest) (zs.getD s 0).toNat s (by rw [Nat.zero_add]; exact h) (by
      rw [bitsN_15 _ _ (by omega), List.take_append_of_le_length (by rw [List.length_take, bits15_length]; omega), List.take_take, Nat.min_self])
    rwa [Nat.zero_add] at this
  · omega
/-- No code is the beginning of another one. -/
theorem code_apart {zs : List Int} (hg : good zs) (i k : Nat) (hi : 0 < zs.getD i 0) (hk : 0 < zs.getD k 0) (hne : i ≠ k) : code zs i / 2 ^ (zs.getD i 0 - min (zs.getD i 0) (zs.getD k 0)).toNat ≠ code zs k / 2 ^ (zs.getD k 0 - min (zs.getD i 0) (zs.getD k 0)).toNat := by
  have key : ∀ i k, 0 < zs.getD i 0 → 0 < zs.getD k 0 → i ≠ k → zs.getD i 0 ≤ zs.getD k 0 → code zs i ≠ code zs k / 2 ^ (zs.getD k 0 - zs.getD i 0).toNat := by
    intro i k hi hk hne hle e
    have h1 := hit_code hg k hk
    have z1 := getD_good hg i
    have z2 := getD_good hg k
    have h2 : hit zs (code zs k * 2 ^ (15 - (zs.getD k 0).toNat)) i := by
      refine ⟨hi, ?_⟩
      rw [e, show 15 - (zs.getD i 0).toNat = (15 - (zs.getD k 0).toNat) + (zs.getD k 0 - zs.getD i 0).toNat by omega, Nat.pow_add, ← Nat.div_div_eq_div_mul, Nat.mul_div_cancel _ (Nat.pow_pos (by decide))]
    exact hne (hit_one hg _ i k h2 h1)
  rcases Int.le_total (zs.getD i 0) (zs.getD k 0) with h | h
  · rw [show min (zs.getD i 0) (zs.getD k 0) = zs.getD i 0 by omega]
    have := key i k hi hk hne h
    simpa using this
  · rw [show min (zs.getD i 0) (zs.getD k 0) = zs.getD k 0 by omega]
    have := key k i hk hi (Ne.symm hne) h
    intro e
    exact this (by simpa using e.symm)
/-- All codes of a row of symbols, one behind the other. -/
def bitsAll (zs : List Int) (ss : List Nat) : List Bool := ss.flatMap fun s => bitsN (code zs s) (zs.getD s 0).toNat
theorem bitsAll_snoc (zs : List Int) (ss : List Nat) (s : Nat) : bitsAll zs (ss ++ [s]) = bitsAll zs ss ++ bitsN (code zs s) (zs.getD s 0).toNat := by simp [bitsAll]
theorem bitsAll_cons (zs : List Int) (ss : List Nat) (s : Nat) : bitsAll zs (s :: ss) = bitsN (code zs s) (zs.getD s 0).toNat ++ bitsAll zs ss := rfl
theorem bitsAll_length {zs : List Int} (hg : good zs) (ss : List Nat) : (bitsAll zs ss).length ≤ 15 * ss.length := by
  induction ss with
  | nil => simp [bitsAll]
  | cons s t ih =>
    rw [bitsAll_cons, List.length_append, bitsN_length, List.length_cons]
    have := getD_good hg s
    omega
theorem rd_nobits (zs : List Int) (h : 1 ≤ deep zs) : rd zs (deep zs) 0 0 [] = (0, 4, 0) := by
  obtain ⟨d, hd⟩ : ∃ d, deep zs = d + 1 := ⟨deep zs - 1, by omega⟩
  rw [hd, rd]
end Go.Proofs.YtefeilgbofphjaaDoor
/-
  Writing: bits of numbers and of codes, and how what is written is read back.
-/
namespace Go.Proofs.YtefeilgbofphjaaDoor
open Hf

/-- A number's lowest bits, the lowest first. -/
def num (n k : Nat) : List Bool := (List.range k).map n.testBit
@[simp] theorem num_length (n k : Nat) : (num n k).length = k := by simp [num]
theorem num_zero (n : Nat) : num n 0 = [] := rfl
theorem num_succ (n k : Nat) : num n (k + 1) = num n k ++ [n.testBit k] := by simp [num, List.range_succ]
theorem val_num (n : Nat) : ∀ k, Inf.val (num n k) = n % 2 ^ k
  | 0 => by simp [num, Inf.val, Nat.mod_one]
  | k + 1 => by
    rw [num_succ, Inf.val_snoc, val_num n k, num_length, Nat.mod_pow_succ, Nat.testBit_eq_decide_div_mod_eq]
    have : n / 2 ^ k % 2 < 2 := Nat.mod_lt _ (by decide)
    rcases (by omega : n / 2 ^ k % 2 = 0 ∨ n / 2 ^ k % 2 = 1) with h | h <;> simp [h]
/-- f reads L as x, whatever stands behind; of less it says that bits are wanting. -/
structure Gets {α : Type} (f : List Bool → Inf.Res α) (L : List Bool) (x : α) : Prop where
  go : ∀ r, f (L ++ r) = .ok (x, r)
  few : ∀ P t, L = P ++ t → t ≠ [] → f P = .error 4
/-- The same, where p bits are ahead, and whole bytes in all. -/
structure GetsA {α : Type} (p : Nat) (f : List Bool → Inf.Res α) (L : List Bool) (x : α) : Prop where
  go : ∀ r, (p + L.length + r.length) % 8 = 0 → f (L ++ r) = .ok (x, r)
  few : ∀ P t, L = P ++ t → t ≠ [] → (p + P.length) % 8 = 0 → f P = .error 4
/-- Its cap is too small for L. -/
def Caps {α : Type} (p : Nat) (f : List Bool → Inf.Res α) (L : List Bool) : Prop := ∀ r, (p + L.length + r.length) % 8 = 0 → f (L ++ r) = .error 22
theorem Gets.at {α : Type} {f : List Bool → Inf.Res α} {L : List Bool} {x : α} (h : Gets f L x) (p : Nat) : GetsA p f L x := ⟨fun r _ => h.go r, fun P t e ht _ => h.few P t e ht⟩
theorem Gets.bnd {α β : Type} {f : List Bool → Inf.Res α} {g : List Bool → Inf.Res β} {h : List Bool → Inf.Res β} {L M : List Bool} {x : α} {y : β} (hf : Gets f L x) (hg : Gets g M y)
    (hh1 : ∀ r r', f r = .ok (x, r') → h r = g r') (hh2 : ∀ r e, f r = .error e → h r = .error e) : Gets h (L ++ M) y where
  go r := by rw [List.append_assoc, hh1 _ _ (hf.go _)]; exact hg.go r
  few P t e ht := by
    rcases List.append_eq_append_iff.1 e with ⟨a, h1, h2⟩ | ⟨a, h1, h2⟩
    · subst h1
      rw [hh1 _ _ (hf.go _)]
      exact hg.few a t h2 ht
    · rcases List.eq_nil_or_concat a with ha | ha
      · subst ha
        rw [List.append_nil] at h1
        rw [List.nil_append] at h2
        have := hf.go []
        rw [List.append_nil, h1] at this
        rw [hh1 _ _ this]
        exact hg.few [] M rfl (by rw [← h2]; exact ht)
      · exact hh2 _ _ (hf.few P a h1 (by obtain ⟨b, c, rfl⟩ := ha; simp))
theorem GetsA.bnd {α β : Type} {p : Nat} {f : List Bool → Inf.Res α} {g : List Bool → Inf.Res β} {h : List Bool → Inf.Res β} {L M : List Bool} {x : α} {y : β} (hf : GetsA p f L x) (hg : GetsA (p + L.length) g M y)
    (hh1 : ∀ r r', f r = .ok (x, r') → h r = g r') (hh2 : ∀ r e, f r = .error e → h r = .error e) : GetsA p h (L ++ M) y where
  go r hr := by
    rw [List.length_append] at hr
    rw [List.append_assoc, hh1 _ _ (hf.go _ (by rw [List.length_append]; omega))]; exact hg.go r (by omega)
  few P t e ht hr := by
    rcases List.append_eq_append_iff.1 e with ⟨a, h1, h2⟩ | ⟨a, h1, h2⟩
    · subst h1
      rw [List.length_append] at hr
      rw [hh1 _ _ (hf.go _ (by omega))]
      exact hg.few a t h2 ht (by omega)
    · rcases List.eq_nil_or_concat a with ha | ha
      · subst ha
        rw [List.append_nil] at h1
        rw [List.nil_append] at h2
        have := hf.go [] (by rw [h1]; exact hr)
        rw [List.append_nil, h1] at this
        rw [hh1 _ _ this]
        exact hg.few [] M rfl (by rw [← h2]; exact ht) (by rw [h1]; exact hr)
      · exact hh2 _ _ (hf.few P a h1 (by obtain ⟨b, c, rfl⟩ := ha; simp) hr)
theorem Caps.fst {α β : Type} {p : Nat} {f : List Bool → Inf.Res α} {h : List Bool → Inf.Res β} {L : List Bool} (hf : Caps p f L) (M : List Bool) (hh2 : ∀ r e, f r = .error e → h r = .error e) : Caps p h (L ++ M) := by
  intro r hr
  rw [List.append_assoc]
  exact hh2 _ _ (hf _ (by rw [List.length_append] at hr ⊢; omega))
theorem GetsA.caps {α β : Type} {p : Nat} {f : List Bool → Inf.Res α} {g : List Bool → Inf.Res β} {h : List Bool → Inf.Res β} {L M : List Bool} {x : α} (hf : GetsA p f L x) (hg : Caps (p + L.length) g M)
    (hh1 : ∀ r r', f r = .ok (x, r') → h r = g r') : Caps p h (L ++ M) := by
  intro r hr
  rw [List.length_append] at hr
  rw [List.append_assoc, hh1 _ _ (hf.go _ (by rw [List.length_append]; omega))]; exact hg r (by omega)
theorem gets_numb (n k : Nat) (h : n < 2 ^ k) : Gets (Inf.numb k) (num n k) n where
  go r := by
    unfold Inf.numb
    rw [if_pos (by simp), List.take_append_of_le_length (by simp), List.drop_append_of_le_length (by simp), List.take_of_length_le (by simp), List.drop_of_length_le (by simp), val_num, Nat.mod_eq_of_lt h, List.nil_append]
  few P t e ht := by
    unfold Inf.numb
    have hl := congrArg List.length e
    rw [num_length, List.length_append] at hl
    have : 0 < t.length := List.length_pos_iff.2 ht
    rw [if_neg (by omega)]
/-- Nothing is read. -/
theorem gets_ok {α : Type} (x : α) : Gets (fun r => .ok (x, r)) [] x := ⟨fun _ => rfl, fun _ _ e ht => absurd (List.append_eq_nil_iff.1 e.symm).2 ht⟩
/-- What is too much stays so. -/
theorem rd_20 (zs : List Int) : ∀ f n c (bs t : List Bool), (rd zs f n c bs).2.1 = 20 → (rd zs f n c (bs ++ t)).2.1 = 20 := by
  intro f
  induction f with
  | zero => intro n c bs t _; rfl
  | succ f ih =>
    intro n c bs t h
    match bs with
    | [] => rw [rd] at h; cases h
    | b :: bs =>
      rw [List.cons_append]
      rw [rd] at h ⊢
      cases hs : sym zs (n + 1) (2 * c + b.toNat) with
      | some s => rw [hs] at h; cases h
      | none => rw [hs] at h; exact ih _ _ _ _ h
/-- A symbol's code. -/
def cod (zs : List Int) (s : Nat) : List Bool := bitsN (code zs s) (zs.getD s 0).toNat
theorem cod_length (zs : List Int) (s : Nat) : (cod zs s).length = (zs.getD s 0).toNat := bitsN_length _ _
theorem gets_symb {zs : List Int} (hg : good zs) (hk : kr zs ≤ 32768) (s : Nat) (hs : 0 < zs.getD s 0) : Gets (Inf.symb zs) (cod zs s) s where
  go r := by
    have h := rd_code hg hk s hs r
    unfold Inf.symb
    unfold cod
    rw [h]
    rw [if_pos rfl, List.drop_append_of_le_length (by rw [bitsN_length]; exact Nat.le_refl _), List.drop_of_length_le (by rw [bitsN_length]; exact Nat.le_refl _), List.nil_append]
  few P t e ht := by
    have h := rd_code hg hk s hs []
    rw [List.append_nil] at h
    have e2 : bitsN (code zs s) (zs.getD s 0).toNat = P ++ t := e
    rw [e2] at h
    have hl := congrArg List.length e2
    rw [bitsN_length, List.length_append] at hl
    have htl : 0 < t.length := List.length_pos_iff.2 ht
    unfold Inf.symb
    rcases rd_ends zs (deep zs) 0 0 P with h1 | h1 | h1
    · exfalso
      have htook := rd_took zs (deep zs) 0 0 P
      obtain ⟨q, hx⟩ : ∃ q, rd zs (deep zs) 0 0 P = q := ⟨_, rfl⟩
      obtain ⟨a, b, c⟩ := q
      rw [hx] at h1 htook
      simp only at h1 htook
      obtain ⟨rfl, h1⟩ := h1
      have := rd_local zs (deep zs) 0 0 P (P ++ t) c a (by rw [Nat.zero_add]; exact hx) (by rw [List.take_append_of_le_length (by omega)])
      rw [h, Nat.zero_add] at this
      have := congrArg (fun q => q.2.2) this
      simp only at this
      omega
    · rw [h1.1]; rfl
    · exfalso
      have := rd_20 zs (deep zs) 0 0 P t h1.1
      rw [h] at this
      cases this
end Go.Proofs.YtefeilgbofphjaaDoor
