/-
  Clean: the walk.
-/
import Derived.Test.YtgdnemjlmhmhhaaDoorHx
namespace Go.Proofs.YtgdnemjlmhmhhaaDoor
open Go.RowKit
attribute [local go_sem] Oper.semAt_some

theorem split_row (n : Nat) (hn : 3 ≤ n) (S : Nat → Prop) (g : Nat) (raw : List UInt8) (hr : raw.length ≤ 100000) (hS : ¬ S g ∧ ¬ S (g + 1) ∧ ¬ S (g + 1 + 1)) (w : World) (hbs : Boxed w g 9 (.string (sb raw))) (hbp : Boxed w (g + 1) 9 (.string ⟨#[47]⟩)) (hbv : Boxed w (g + 1 + 1) 3 (.int .i64 0)) (W : World) (hW : Below w.heap.size w W) :
    SeqRowX Fence.wide n Tryd.prog 79 #[.pointer (some ⟨g + 1, 0, none⟩), .pointer (some ⟨g, 0, none⟩), .pointer (some ⟨g + 1 + 1, 0, none⟩)] (encS (Pt.parts raw)) g (OnlyS S) (Pt.parts raw).length W := fun l J Jx hJs hY h0 =>
  split1_in n hn S l g (g + 1) (g + 1 + 1) raw hr hS.1 hS.2.1 hS.2.2 (by omega) (by omega) J Jx hJs hY W ((hW.block _ hbs.lt).trans hbs) ((hW.block _ hbp.lt).trans hbp) ((hW.block _ hbv.lt).trans hbv) h0
theorem only_putObj {S : Nat → Prop} (W : World) (l : Nat) (o : Obj) (h : S l) : OnlyS S W (W.putObj l o) :=
  ⟨rfl, rfl, rfl, by simp, fun k _ hk => World.putObj_heap_other (fun e => hk (by rw [e]; exact h))⟩
theorem one_new (w : World) (b : ByteArray) : ∀ j u, [Value.string b][j]? = some u → (w.alloc (.cells #[.string b] 9)).cell? ((⟨w.heap.size, 0, none⟩ : Addr).add j) = some u := by
  intro j u hj
  match j, hj with
  | 0, hj => rw [← hj]; exact cell_of_row _ _ _ _ _ _ (heap_alloc_new w _)
  | j + 1, hj => simp at hj
theorem below_put {G : Nat} (W : World) (D : Nat) (o : Obj) (h : G ≤ D) : Below G W (W.putObj D o) :=
  ⟨rfl, rfl, rfl, by simp, fun k hk => World.putObj_heap_other (by omega)⟩
theorem has_succ (L : List (List UInt8)) (k : Nat) (hk : k < L.length) (y : List UInt8) : (L.take (k + 1)).contains y = ((L.take k).contains y || y == L.getD k []) := by
  rw [List.take_succ_eq_append_getElem hk, List.contains_append]
  have e : L.getD k [] = L[k] := by simp [hk]
  rw [e]
  congr 1
  simp only [List.contains_cons, List.contains_nil, Bool.or_false]
theorem stC_mem (l : List (List UInt8)) : ∀ x ∈ (stC l).1, x.length ≤ 255 := by
  refine snocRec (P := fun l => ∀ x ∈ (stC l).1, x.length ≤ 255) (fun _ hx => by cases hx) (fun l x ih => ?_) l
  rw [stC_snoc]
  split
  · exact ih
  · split
    · exact ih
    · rename_i h
      rw [not_or] at h
      intro y hy
      rcases List.mem_append.1 hy with hy | hy
      · exact ih y hy
      · obtain rfl : y = x := by simpa using hy
        omega
theorem glue_le (m : Nat) : ∀ l : List (List UInt8), (∀ x ∈ l, x.length ≤ m) → (Pt.glue l).length ≤ l.length * (m + 1)
  | [], _ => Nat.zero_le _
  | [a], h => by
    have := h a (by simp)
    show a.length ≤ 1 * (m + 1)
    omega
  | a :: b :: r, h => by
    have h1 := h a (by simp)
    have h2 := glue_le m (b :: r) (fun x hx => h x (by simp [hx]))
    show (a ++ 47 :: Pt.glue (b :: r)).length ≤ _
    rw [List.length_append, List.length_cons, List.length_cons, Nat.succ_mul]
    omega
theorem full_mem (l : List (List UInt8)) : ∀ x ∈ Pt.full l, x ∈ l := fun _ hx => (List.mem_filter.1 hx).1
theorem full_kept (l : List (List UInt8)) : Pt.full (Pt.kept l) = Pt.kept l := by
  unfold Pt.full Pt.kept
  rw [List.filter_filter]
  congr 1
  funext a
  cases h : (a != []) <;> simp
theorem join_kept (l : List (List UInt8)) : Pt.join (Pt.kept l) = Pt.glue (Pt.kept l) := by unfold Pt.join; rw [full_kept]
theorem clean_ends {raw : List UInt8} (h0 : raw.contains 0 = false) (hp : [47].isPrefixOf raw = false) (hd : (Pt.parts raw).contains [46, 46] = false) :
    Pt.cleanE raw = (if ((stC (Pt.parts raw)).2 || decide (4096 < (Pt.join (stC (Pt.parts raw)).1).length)) = true then 3 else 0) ∧ Pt.cleanP raw = (if ((stC (Pt.parts raw)).2 || decide (4096 < (Pt.join (stC (Pt.parts raw)).1).length)) = true then [] else Pt.join (stC (Pt.parts raw)).1) := by
  obtain ⟨i1, i2, i3⟩ := stC_says (Pt.parts raw)
  have hle := stC_le (Pt.parts raw)
  have key : Pt.cleanE raw = (if ((stC (Pt.parts raw)).2 || decide (4096 < (Pt.join (stC (Pt.parts raw)).1).length)) = true then 3 else 0) := by
    unfold Pt.cleanE
    rw [h0, hp, hd, if_neg (by decide)]
    cases hs : (stC (Pt.parts raw)).2
    · obtain ⟨e1, e2⟩ := i1 hs
      rw [e1] at hle
      rw [e1, e2, join_kept, decide_eq_false (show ¬ 255 < (Pt.kept (Pt.parts raw)).length by omega)]
      rfl
    · rw [Bool.true_or, if_pos rfl]
      rcases i2 hs with e | e
      · rw [e, Bool.true_or, Bool.true_or, if_pos rfl]
      · rw [decide_eq_true e, Bool.or_true, Bool.true_or, if_pos rfl]
  refine ⟨key, ?_⟩
  unfold Pt.cleanP
  rw [key]
  cases hb : ((stC (Pt.parts raw)).2 || decide (4096 < (Pt.join (stC (Pt.parts raw)).1).length))
  · rw [if_pos (show (if (false = true) then (3 : Int) else 0) = 0 from rfl), if_neg (by decide)]
    rw [Bool.or_eq_false_iff] at hb
    obtain ⟨e1, e2⟩ := i1 hb.1
    rw [e1, join_kept]
  · rw [if_neg (show ¬ (if (true = true) then (3 : Int) else 0) = 0 by decide), if_pos rfl]
theorem clean_dots {raw : List UInt8} (h : (Pt.parts raw).contains [46, 46] = true) : Pt.cleanE raw = 30 ∧ Pt.cleanP raw = [] := by
  have : Pt.cleanE raw = 30 := by unfold Pt.cleanE; rw [h, Bool.or_true, if_pos rfl]
  exact ⟨this, by unfold Pt.cleanP; rw [this]; rfl⟩
set_option maxRecDepth 100000 in
set_option maxHeartbeats 4000000 in
theorem clean_in (raw : List UInt8) (hr : raw.length ≤ 50000) (h0 : raw.contains 0 = false) (hp : [47].isPrefixOf raw = false) (w : World) : CallsIn Fence.wide 8 Tryd.prog 8 #[.string (sb raw)] w fun e W =>
    e = .returned (.tuple #[.string (sb (Pt.cleanP raw)), .int .i64 (Pt.cleanE raw)]) ∧ Below w.heap.size w W := by
  have h1 : 1 ≤ 8 := by decide
  have HC : Hid (∀ w, _) := Lib.hid (fun w => co_walk (sb raw) 0 w)
  rw [sb_data, ib_has, h0] at HC
  have HP : Hid (∀ w, _) := Lib.hid (fun w => hp_walk (sb raw) ⟨#[47]⟩ w)
  rw [sb_data, show (⟨#[47]⟩ : ByteArray).data.toList = [47] from rfl, hp] at HP
  have HS : Hid (∀ w, _) := Lib.hid (fun w => sseq_walk (sb raw) w)
  refine callsIn_of_wp_marks Tryd.func8 rfl trivial ?_ rfl
  simp only [Tryd.ntmps8, List.size_toArray, List.length_cons, List.length_nil, Nat.reduceAdd, Nat.reduceSub, Array.replicate_succ, Array.replicate_zero, List.push_toArray, List.append_toArray, List.nil_append, List.cons_append]
  gi_wp2_with (first
    | (refine ⟨trivial, ?_⟩; gi_at_call 38; refine (callsIn_wide.2 (HC.out _)).mono ?_; rintro e w' ⟨rfl, hw⟩; rw [hw]; clear hw)
    | (refine ⟨trivial, ?_⟩; gi_at_call 35; refine (callsIn_wide.2 (HP.out _)).mono ?_; rintro e w' ⟨rfl, hw⟩; rw [hw]; clear hw)
    | (refine ⟨trivial, ?_⟩; gi_at_call 39; refine (callsIn_wide.2 (HS.out _)).mono ?_; rintro e w' ⟨rfl, hw⟩; rw [hw]; clear hw))
  obtain ⟨L, hL⟩ : ∃ L, Pt.parts raw = L := ⟨_, rfl⟩
  obtain ⟨w1, hw1⟩ : ∃ w1, seqW ((((w.alloc (.cells #[.string ⟨#[]⟩] 9)).alloc (.cells #[.int .i64 0] 22)).alloc (.cells #[.slice none 0 0] 31)).alloc (.cells #[.bool false] 4)) (sb raw) = w1 := ⟨_, rfl⟩
  have hsz : w1.heap.size = w.heap.size + 1 + 1 + 1 + 1 + 1 + 1 + 1 := by rw [← hw1]; simp [seqW]
  have hB1 : Below w.heap.size w w1 := by
    rw [← hw1]; unfold seqW
    exact (((((((Below.refl _ _).alloc (Nat.le_refl _) _).alloc (by simp) _).alloc (by simp; omega) _).alloc (by simp; omega) _).alloc (by simp; omega) _).alloc (by simp; omega) _).alloc (by simp; omega) _
  have bx : ∀ (W : World) (t : TypeId) (v : Value) (k : Nat), W.heap.size = k → Boxed (W.alloc (.cells #[v] t)) k t v := fun W t v k h => by subst h; exact Boxed.new W t v
  have hb0 : Boxed w1 w.heap.size 9 (.string ⟨#[]⟩) := by rw [← hw1]; exact ((((((bx _ _ _ _ rfl).alloc _).alloc _).alloc _).alloc _).alloc _).alloc _
  have hb1 : Boxed w1 (w.heap.size + 1) 22 (.int .i64 0) := by rw [← hw1]; exact (((((bx _ _ _ _ (by simp)).alloc _).alloc _).alloc _).alloc _).alloc _
  have hb2 : Boxed w1 (w.heap.size + 1 + 1) 31 (.slice none 0 0) := by rw [← hw1]; exact ((((bx _ _ _ _ (by simp)).alloc _).alloc _).alloc _).alloc _
  have hb3 : Boxed w1 (w.heap.size + 1 + 1 + 1) 4 (.bool false) := by rw [← hw1]; exact (((bx _ _ _ _ (by simp)).alloc _).alloc _).alloc _
  have hb4 : Boxed w1 (w.heap.size + 1 + 1 + 1 + 1) 9 (.string (sb raw)) := by rw [← hw1]; exact ((bx _ _ _ _ (by simp)).alloc _).alloc _
  have hb5 : Boxed w1 (w.heap.size + 1 + 1 + 1 + 1 + 1) 9 (.string ⟨#[47]⟩) := by rw [← hw1]; exact (bx _ _ _ _ (by simp)).alloc _
  have hb6 : Boxed w1 (w.heap.size + 1 + 1 + 1 + 1 + 1 + 1) 3 (.int .i64 0) := by rw [← hw1]; exact bx _ _ _ _ (by simp)
  rw [hw1]
  clear hw1 bx
  obtain ⟨G, hG⟩ : ∃ G, w.heap.size = G := ⟨_, rfl⟩
  rw [hG] at hsz hB1 hb0 hb1 hb2 hb3 hb4 hb5 hb6 ⊢
  obtain ⟨S, hS⟩ : ∃ S : Nat → Prop, S = fun i => i < G + 1 + 1 + 1 + 1 ∨ w1.heap.size ≤ i := ⟨_, rfl⟩
  refine wpIn_rangeRowX (F := Fence.wide) rfl h1 (gf := 79) (lb := #[.pointer (some ⟨G + 1 + 1 + 1 + 1 + 1, 0, none⟩), .pointer (some ⟨G + 1 + 1 + 1 + 1, 0, none⟩), .pointer (some ⟨G + 1 + 1 + 1 + 1 + 1 + 1, 0, none⟩)]) rfl trivial (enters_of Tryd.func79 (by kernel_rfl) rfl)
    (Kp := OnlyS S) (N := L.length) (encs := encS L) (Bs := G + 1 + 1 + 1 + 1) (fun W hW => by rw [← hL]; exact split_row 7 (by decide) S (G + 1 + 1 + 1 + 1) raw (by omega) (by rw [hS]; omega) w1 hb4 hb5 hb6 W hW) (by omega)
    (fun h k => h.trans k) (fun W l o' h => only_putObj W l o' (by rw [hS]; exact .inr h)) (fun _ => rfl)
    (fun k W => ClRel w G w1.heap.size (stC (L.take k)).1 (stC (L.take k)).2 W ∧ (L.take k).contains [46, 46] = false)
    (fun k W => ClOut w G W ∧ L.getD k [] = [46, 46])
    (clRel_own (by omega) (by omega) _ _ _) (clOut_own (by omega) (by omega) _)
    (fun k W v h => ⟨h.1.other _ v (by omega) (by omega), h.2⟩)
    ⟨⟨hb0, hb1, ⟨_, hb2, World.ownsRow_nil _ _ _ _⟩, hb3, hB1, Nat.le_refl _⟩, rfl⟩
    (fun k => { tmps := #[.string (sb raw), undef, .pointer (some ⟨G, 0, none⟩), .pointer (some ⟨G + 1, 0, none⟩), .pointer (some ⟨G + 1 + 1, 0, none⟩), .pointer (some ⟨G + 1 + 1 + 1, 0, none⟩), .string (sb (L.getD k [])), undef, .string (sb raw), .bool false, .bool false, .string (sb raw), .bool false, .bool false, .string (sb raw), seqF (G + 1 + 1 + 1 + 1), .string (sb (L.getD k [])), undef, undef, undef, undef, undef, undef, undef, undef, undef, undef, undef, undef, undef, undef, undef, undef, undef, undef, undef, undef, undef, undef, undef, undef, undef, undef, undef, undef, undef, undef, undef, undef], defers := [] }) ?assign ?body ?done ?stop
  case assign =>
    intro l k W K hk hK
    unfold encS
    revert hK
    generalize sb (L.getD k []) = u
    intro hK
    gi_wp2
    exact hK
  case body =>
    rintro l k W ⟨hR, hno⟩ hk
    dsimp only
    have hS2 : ∀ i, i < G + 1 + 1 + 1 + 1 → S i := fun i hi => by rw [hS]; exact .inl hi
    have hS3 : ∀ i, w1.heap.size ≤ i → S i := fun i hi => by rw [hS]; exact .inr hi
    have h46 : ((sb (L.getD k [])).toList == [46, 46]) = (L.getD k [] == [46, 46]) := by rw [sb_list]
    have h4 : ((sb (L.getD k [])).toList == [46]) = (L.getD k [] == [46]) := by rw [sb_list]
    have hem : ((sb (L.getD k [])).toList == []) = (L.getD k [] == []) := by rw [sb_list]
    have hsx := sb_size (L.getD k [])
    have HST := Lib.hid (stC_succ L k hk)
    have HHS := Lib.hid (has_succ L k hk [46, 46])
    have hlen := stC_le (L.take k)
    obtain ⟨x, hx⟩ : ∃ x, L.getD k [] = x := ⟨_, rfl⟩
    have HX := Lib.hid hx
    rw [hx] at h46 h4 hem hsx HST HHS ⊢
    obtain ⟨st, hst⟩ : ∃ st, stC (L.take k) = st := ⟨_, rfl⟩
    rw [hst] at hR HST hlen
    obtain ⟨ps, lg⟩ := st
    simp only at hR HST hlen
    have HR := Lib.hid hR
    have HNO := Lib.hid hno
    have hB2 : w1.heap.size = G + 1 + 1 + 1 + 1 + 1 + 1 + 1 := hsz
    have HSZ := Lib.hid hsz
    have HS2 := Lib.hid hS2
    have HS3 := Lib.hid hS3
    have HG := Lib.hid hG
    clear hno hx hst hS hB1 hb0 hb1 hb2 hb3 hb4 hb5 hb6 HC HP HS hL hS2 hS3 hsz hG h0 hp
    by_cases c1 : x = [46, 46]
    · rw [show (x == [46, 46]) = true by rw [c1]; rfl] at h46
      have hc1 := hR.r1.cell
      have hf1 := hR.r1.frozen
      have h2 := hR.r2.other (B' := G) (by omega) (.string ⟨#[]⟩)
      have hc2 := h2.cell
      have hf2 := h2.frozen
      have HQ : Hid (rowPostX w1.heap.size (OnlyS S) (fun k W => ClRel w G w1.heap.size (stC (L.take k)).1 (stC (L.take k)).2 W ∧ (L.take k).contains [46, 46] = false) (fun k W => ClOut w G W ∧ L.getD k [] = [46, 46]) k W .ret { tmps := #[], defers := [] } ((W.setCell ⟨G, 0, none⟩ (.string ⟨#[]⟩)).setCell ⟨G + 1, 0, none⟩ (.int .i64 30))) := Lib.hid
        ⟨((KeepsOthers.setCell _ _ _).trans (KeepsOthers.setCell _ _ _)).from _, ⟨(hR.r1.set _).other (by omega) _, h2.set _, (hR.below.setCell (p := ⟨G, 0, none⟩) (Nat.le_refl _) _).setCell (p := ⟨G + 1, 0, none⟩) (by show G ≤ G + 1; omega) _⟩, by rw [HX.out]; exact c1⟩
      clear h2 hR c1 h4 hem hsx
      generalize sb x = b at *
      gi_wp2
      exact HQ.out
    · rw [show (x == [46, 46]) = false by simpa using c1] at h46
      have hno2 : (L.take (k + 1)).contains [46, 46] = false := by
        rw [HHS.out, HNO.out, Bool.false_or, beq_eq_false_iff_ne]
        exact fun e => c1 e.symm
      have HN2 := Lib.hid hno2
      clear hno2
      by_cases c2 : x = []
      · rw [show (x == []) = true by rw [c2]; rfl] at hem
        have HQ : Hid (stC (L.take (k + 1)) = (ps, lg)) := Lib.hid (by rw [HST.out, if_pos (.inl c2)])
        clear c1 c2 h4 hsx hR
        generalize sb x = b at *
        gi_wp2
        exact ⟨KeepsFrom.refl _ _, OnlyS.refl _ _, by rw [HQ.out]; exact HR.out, HN2.out⟩
      · rw [show (x == []) = false by simpa using c2] at hem
        by_cases c3 : x = [46]
        · rw [show (x == [46]) = true by rw [c3]; rfl] at h4
          have HQ : Hid (stC (L.take (k + 1)) = (ps, lg)) := Lib.hid (by rw [HST.out, if_pos (.inr c3)])
          clear c1 c2 c3 hsx hR
          generalize sb x = b at *
          gi_wp2
          exact ⟨KeepsFrom.refl _ _, OnlyS.refl _ _, by rw [HQ.out]; exact HR.out, HN2.out⟩
        · rw [show (x == [46]) = false by simpa using c3] at h4
          have HST2 := HST.out
          rw [if_neg (by rw [not_or]; exact ⟨c2, c3⟩)] at HST2
          have HST2 := Lib.hid HST2
          obtain ⟨hl1, hl2, hl3⟩ := hR.lengthen (by omega)
          have hcl := hl1.cell
          have hfl := hl1.frozen
          have HL : Hid (OnlyS S W (W.setCell ⟨G + 1 + 1 + 1, 0, none⟩ (.bool true))) := Lib.hid (OnlyS.setCell _ _ _ _ (HS2.out _ (by omega)))
          have HL2 := Lib.hid (And.intro hl2 hl3)
          obtain ⟨v, hv, hrow⟩ := hR.row
          obtain ⟨pv, cv, rfl⟩ := own_shape hrow
          have hcv := hv.cell
          clear HST hl1 hl2 hl3 c1 c2 c3
          by_cases c4 : 255 < x.length
          · have hd : decide (255 < ((sb x).size : Int)) = true := decide_eq_true (by omega)
            have HQ : Hid (stC (L.take (k + 1)) = (ps, true)) := Lib.hid (by rw [HST2.out, if_pos (.inl c4)])
            clear hsx hR c4
            generalize sb x = b at *
            gi_wp2
            exact ⟨HL2.out.2, HL.out, by rw [HQ.out]; exact HL2.out.1, HN2.out⟩
          · have hd : decide (255 < ((sb x).size : Int)) = false := decide_eq_false (by omega)
            obtain ⟨np, hnp⟩ : ∃ np, ps.length = np := ⟨_, rfl⟩
            rw [hnp] at hcv hlen
            by_cases c5 : np = 255
            · have hd5 : ((np : Int) == 255) = true := by rw [c5]; rfl
              have HQ : Hid (stC (L.take (k + 1)) = (ps, true)) := Lib.hid (by rw [HST2.out, if_pos (.inr (by rw [hnp]; exact c5))])
              clear hsx hR c4 c5 hv hrow hnp
              generalize sb x = b at *
              gi_wp2
              exact ⟨HL2.out.2, HL.out, by rw [HQ.out]; exact HL2.out.1, HN2.out⟩
            · have hd5 : ((np : Int) == 255) = false := beq_eq_false_iff_ne.2 (by omega)
              have HQ : Hid (stC (L.take (k + 1)) = (ps ++ [x], lg)) := Lib.hid (by rw [HST2.out, if_neg (by rw [not_or, hnp]; exact ⟨c4, c5⟩)])
              obtain ⟨i0, hi, hz0, hz1, hz2⟩ := info_parts info9
              have HI0 := Lib.hid (And.intro hi (And.intro hz0 (And.intro hz1 hz2)))
              have HV := Lib.hid (And.intro hv hrow)
              have hszW : w1.heap.size ≤ W.heap.size := hR.size
              have hnp255 : np ≤ 254 := by omega
              have HNP := Lib.hid hnp
              have HAP : Hid (∀ (tmp : Obj) (v' : Value) (w9 : World), w9.ownsRow w1.heap.size 9 1 v' (np + 1) (sl ps ++ [.string (sb x)]) → (W.alloc tmp).grownBy w9 (Value.slice pv np cv).ownBlock → _) := Lib.hid (fun tmp v' w9 h1 h2 => hR.app (by have := HG.out; omega) (by omega) hv hrow x (tmp := tmp) (v' := v') (w9 := w9) (by rw [hnp]; exact h1) (by rw [hnp]; exact h2))
              rw [hnp] at HV
              clear hsx hR c4 c5 hv hrow hnp hi hz0 hz1 hz2
              generalize sb x = b at *
              gi_wp2_with (gi_at_builtin; refine wpListIn_append_own _ rfl _ _ 31 rfl w1.heap.size 9 i0 (.string ByteArray.empty) 1 16 Tryd.underlying31 HI0.out.1 HI0.out.2.1 HI0.out.2.2.1 HI0.out.2.2.2 rfl (by decide) (.slice pv np cv) np (sl ps) rfl (HV.out.2.alloc _) ⟨W.heap.size, 0, none⟩ 1 1 [.string b] rfl rfl (one_new W b) (by simp [Value.oneCell']) (by unfold maxLen; omega) (by omega) (by simp; omega) ?_; intro v' w9 hown hgrow _; obtain ⟨g9, cap9, rfl⟩ := ownsRow_succ hown; obtain ⟨ha1, ha2, ha3, ha4⟩ := HAP.out _ _ _ hown hgrow; have hc9 := ha1.cell; have hf9 := ha1.frozen; have HA := Lib.hid (And.intro ha2 (And.intro ha3 ha4)); clear ha1 ha2 ha3 ha4 hown hgrow)
              exact ⟨HA.out.2.1, HA.out.2.2.mono (fun i _ hi => by rcases hi with h | h; (rw [h]; exact HS2.out _ (by omega)); (exact HS3.out _ h)), by rw [HQ.out]; exact HA.out.1, HN2.out⟩
  case done =>
    rintro D W hD ⟨hR, hno⟩ hK
    rw [List.take_of_length_le (Nat.le_refl _)] at hR hno
    rw [← hL] at hno
    obtain ⟨e1, e2⟩ := clean_ends h0 hp hno
    rw [hL] at e1 e2
    have hle := stC_le L
    have hmem := stC_mem L
    obtain ⟨st, hst⟩ : ∃ st, stC L = st := ⟨_, rfl⟩
    rw [hst] at hR e1 e2 hle hmem
    obtain ⟨ps, lg⟩ := st
    simp only at hR e1 e2 hle hmem
    have hGL : (Pt.join ps).length ≤ 140737488355328 := by
      have h1 := glue_le 255 (Pt.full ps) (fun x hx => hmem x (full_mem ps x hx))
      have h2 : (Pt.full ps).length ≤ ps.length := List.length_filter_le _ _
      unfold Pt.join
      have : (Pt.full ps).length * (255 + 1) ≤ 255 * 256 := Nat.mul_le_mul (by omega) (Nat.le_refl _)
      omega
    obtain ⟨v, hv, hrow⟩ := hR.row
    have hcv := hv.cell
    have hcl := hR.long.cell
    have HJ := Lib.hid (join_walk ps (by omega) hGL v W (own_toV hrow))
    unfold JoinPost at HJ
    have hJs : ((sb (Pt.join ps)).size : Int) = ((Pt.join ps).length : Int) := by rw [sb_size]
    have HR := Lib.hid hR
    have HK := Lib.hid hK
    have HE := Lib.hid (And.intro e1 e2)
    have hGW : G + 1 + 1 + 1 < W.heap.size := by have := hR.size; omega
    have hDW : D < W.heap.size := (Array.getElem?_eq_some_iff.1 hK).1
    have hDG : G + 1 + 1 + 1 < D := by omega
    obtain ⟨J, hJ⟩ : ∃ J, Pt.join ps = J := ⟨_, rfl⟩
    rw [hJ] at HJ hJs HE
    clear HC HP HS hS hb0 hb1 hb2 hb3 hb4 hb5 hb6 hL e1 e2 hle hmem hst hv hrow hR hJ hno hGL hB1
    have bxs : ∀ {W' : World} {B : Nat} {t : TypeId} {u : Value}, Boxed W B t u → Below W.heap.size W W' → Boxed W' B t u := fun h hb => (hb.block _ h.lt).trans h
    have HBX : Hid (∀ (W2 : World), Below W.heap.size W W2 → Boxed W2 G 9 (.string ⟨#[]⟩) ∧ Boxed W2 (G + 1) 22 (.int .i64 0) ∧ Boxed W2 (G + 1 + 1 + 1) 4 (.bool lg) ∧ W2.heap[D]? = some (.deferred (some [])) ∧ Below G w W2) := Lib.hid (fun W2 hb =>
      ⟨bxs HR.out.r1 hb, bxs HR.out.r2 hb, bxs HR.out.long hb, (hb.block _ hDW).trans HK.out, HR.out.below.trans (hb.mono (by omega))⟩)
    have fin : ∀ (W2 : World) (bs : ByteArray) (x : Int), Boxed W2 G 9 (.string ⟨#[]⟩) → Boxed W2 (G + 1) 22 (.int .i64 0) → W2.heap[D]? = some (.deferred (some [])) → Below G w W2 →
        ∃ W3, W3 = (W2.setCell ⟨G, 0, none⟩ (.string bs)).setCell ⟨G + 1, 0, none⟩ (.int .i64 x) ∧ W3.heap[D]? = some (.deferred (some [])) ∧ (W3.putObj D (.deferred none)).cell? ⟨G, 0, none⟩ = some (.string bs) ∧ (W3.putObj D (.deferred none)).cell? ⟨G + 1, 0, none⟩ = some (.int .i64 x) ∧ Below G w (W3.putObj D (.deferred none)) := fun W2 bs x h1 h2 h3 h4 => by
      have k1 : Boxed ((W2.setCell ⟨G, 0, none⟩ (.string bs)).setCell ⟨G + 1, 0, none⟩ (.int .i64 x)) G 9 (.string bs) := (h1.set _).other (by omega) _
      have k2 : Boxed ((W2.setCell ⟨G, 0, none⟩ (.string bs)).setCell ⟨G + 1, 0, none⟩ (.int .i64 x)) (G + 1) 22 (.int .i64 x) := (h2.other (by omega) _).set _
      have k3 : ((W2.setCell ⟨G, 0, none⟩ (.string bs)).setCell ⟨G + 1, 0, none⟩ (.int .i64 x)).heap[D]? = some (.deferred (some [])) := ((heap_setCell_other _ _ _ _ (by show D ≠ G + 1; omega)).trans (heap_setCell_other _ _ _ _ (by show D ≠ G; omega))).trans h3
      exact ⟨_, rfl, k3, cell_kept k1.cell (grownBy_putObj' _ D (.deferred none)) (fun r e => by cases e; exact ⟨_, k3, rfl⟩), cell_kept k2.cell (grownBy_putObj' _ D (.deferred none)) (fun r e => by cases e; exact ⟨_, k3, rfl⟩),
        ((h4.setCell (p := ⟨G, 0, none⟩) (Nat.le_refl _) _).setCell (p := ⟨G + 1, 0, none⟩) (by show G ≤ G + 1; omega) _).trans (below_put _ D _ (by omega))⟩
    have FIN := Lib.hid fin
    clear fin bxs
    have hd : decide (4096 < ((sb J).size : Int)) = decide (4096 < J.length) := by rw [hJs]; exact decide_eq_decide.2 (by omega)
    have HGW := Lib.hid hG
    clear hJs hK
    cases lg
    · by_cases hj : 4096 < J.length
      · rw [decide_eq_true hj] at hd HE
        rw [if_pos (by rfl), if_pos (by rfl)] at HE
        have HF : Hid (∀ (W2 : World), _) := Lib.hid (fun W2 => FIN.out W2 ⟨#[]⟩ 3)
        clear FIN
        generalize sb J = bj at *
        gi_wp2_with (refine ⟨trivial, ?_⟩; gi_at_call 19; refine (callsIn_wide.2 HJ.out).mono ?_; rintro e w2 ⟨rfl, hb⟩; obtain ⟨q0, q1, q3, qD, qB⟩ := HBX.out _ hb; have hcl2 := q3.cell; have hc0 := q0.cell; have hf0 := q0.frozen; have hq1 := q1.other (B' := G) (by omega) (.string ⟨#[]⟩); have hc1 := hq1.cell; have hf1 := hq1.frozen; obtain ⟨W3, hW3, hK3, hc3, hc4, hB3⟩ := HF.out _ q0 q1 qD qB; have H3 := Lib.hid (And.intro hW3 (And.intro hK3 (And.intro hc3 (And.intro hc4 hB3)))); clear hW3 hK3 hc3 hc4 hB3 q0 q1 q3 qD qB hq1 hb)
        obtain ⟨hW3, hK3, hc3, hc4, hB3⟩ := H3.out
        rw [← hW3]
        refine ⟨by simp, .inl ⟨_, _, rfl, run_takeDeferred hK3, ?_⟩⟩
        refine ⟨.tuple #[.string ⟨#[]⟩, .int .i64 3], ?_, by rw [HE.out.1, HE.out.2]; rfl, by rw [HGW.out]; exact hB3⟩
        simp [results, Tryd.f8, go_sem, hc3, hc4]
      · rw [decide_eq_false hj] at hd HE
        rw [if_neg (by decide), if_neg (by decide)] at HE
        obtain ⟨bj0, hbj0⟩ : ∃ b, sb J = b := ⟨_, rfl⟩
        rw [hbj0] at HJ hd
        have HBJ := Lib.hid hbj0
        clear hbj0
        have HF : Hid (∀ (W2 : World), _) := Lib.hid (fun W2 => FIN.out W2 bj0 0)
        clear FIN
        gi_wp2_with (refine ⟨trivial, ?_⟩; gi_at_call 19; refine (callsIn_wide.2 HJ.out).mono ?_; rintro e w2 ⟨rfl, hb⟩; obtain ⟨q0, q1, q3, qD, qB⟩ := HBX.out _ hb; have hcl2 := q3.cell; have hc0 := q0.cell; have hf0 := q0.frozen; have hq1 := q1.other (B' := G) (by omega) (.string bj0); have hc1 := hq1.cell; have hf1 := hq1.frozen; obtain ⟨W3, hW3, hK3, hc3, hc4, hB3⟩ := HF.out _ q0 q1 qD qB; have H3 := Lib.hid (And.intro hW3 (And.intro hK3 (And.intro hc3 (And.intro hc4 hB3)))); clear hW3 hK3 hc3 hc4 hB3 q0 q1 q3 qD qB hq1 hb)
        obtain ⟨hW3, hK3, hc3, hc4, hB3⟩ := H3.out
        rw [← hW3]
        refine ⟨by simp, .inl ⟨_, _, rfl, run_takeDeferred hK3, ?_⟩⟩
        refine ⟨.tuple #[.string bj0, .int .i64 0], ?_, by rw [HE.out.1, HE.out.2, HBJ.out], by rw [HGW.out]; exact hB3⟩
        simp [results, Tryd.f8, go_sem, hc3, hc4]
    · rw [Bool.true_or, if_pos rfl, if_pos rfl] at HE
      have HF : Hid (∀ (W2 : World), _) := Lib.hid (fun W2 => FIN.out W2 ⟨#[]⟩ 3)
      clear FIN
      generalize sb J = bj at *
      gi_wp2_with (refine ⟨trivial, ?_⟩; gi_at_call 19; refine (callsIn_wide.2 HJ.out).mono ?_; rintro e w2 ⟨rfl, hb⟩; obtain ⟨q0, q1, q3, qD, qB⟩ := HBX.out _ hb; have hcl2 := q3.cell; have hc0 := q0.cell; have hf0 := q0.frozen; have hq1 := q1.other (B' := G) (by omega) (.string ⟨#[]⟩); have hc1 := hq1.cell; have hf1 := hq1.frozen; obtain ⟨W3, hW3, hK3, hc3, hc4, hB3⟩ := HF.out _ q0 q1 qD qB; have H3 := Lib.hid (And.intro hW3 (And.intro hK3 (And.intro hc3 (And.intro hc4 hB3)))); clear hW3 hK3 hc3 hc4 hB3 q0 q1 q3 qD qB hq1 hb)
      obtain ⟨hW3, hK3, hc3, hc4, hB3⟩ := H3.out
      rw [← hW3]
      refine ⟨by simp, .inl ⟨_, _, rfl, run_takeDeferred hK3, ?_⟩⟩
      refine ⟨.tuple #[.string ⟨#[]⟩, .int .i64 3], ?_, by rw [HE.out.1, HE.out.2]; rfl, by rw [HGW.out]; exact hB3⟩
      simp [results, Tryd.f8, go_sem, hc3, hc4]
  case stop =>
    rintro D k W hD hk ⟨hR, hx⟩ hK
    have hin : (Pt.parts raw).contains [46, 46] = true := by
      rw [hL, List.contains_iff_mem, ← hx]
      have e : L.getD k [] = L[k] := by simp [hk]
      rw [e]; exact List.getElem_mem hk
    obtain ⟨e1, e2⟩ := clean_dots hin
    have HE := Lib.hid (And.intro e1 e2)
    clear HC HP HS hS hb0 hb1 hb2 hb3 hb4 hb5 hb6 hL e1 e2 hin hx
    gi_wp2
    refine ⟨by simp, .inl ⟨_, _, rfl, run_takeDeferred hK, ?_⟩⟩
    have hc5 := cell_kept hR.r1.cell (grownBy_putObj' _ D (.deferred none)) (fun r e => by cases e; exact ⟨_, hK, rfl⟩)
    have hc6 := cell_kept hR.r2.cell (grownBy_putObj' _ D (.deferred none)) (fun r e => by cases e; exact ⟨_, hK, rfl⟩)
    refine ⟨.tuple #[.string ⟨#[]⟩, .int .i64 30], ?_, by rw [HE.out.1, HE.out.2]; rfl, by rw [hG]; exact hR.below.trans (below_put W D _ (by omega))⟩
    simp [results, Tryd.f8, go_sem, hc5, hc6]
end Go.Proofs.YtgdnemjlmhmhhaaDoor
