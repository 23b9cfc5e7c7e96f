/-
  Merged, in the order in which they build: Cdw Hwr Hwi Wrw Wma.
-/
import Derived.StillTailTactics
import Derived.Test.YtphdcgioeokfbaaDoorMg41
import Derived.Test.YtphdcgioeokfbaaDoorMg43
/-
  A code's write.
-/
namespace Go.Proofs.YtphdcgioeokfbaaDoor
open Go.RowKit Hf
set_option maxRecDepth 100000 in
set_option maxHeartbeats 1000000 in
theorem codewrite_walk (w : World) (B g : Nat) (sv : Value) (L : List Bool) (lv cv : Value) (zs : List Int) (s : Nat) (h : WrAt w B g sv L) (hl : SlV w lv (ni zs)) (hc : SlV w cv (nu (codes zs))) (hs : s < zs.length) (hz : 0 ≤ zs.getD s 0 ∧ zs.getD s 0 ≤ 15)
    (hf : code zs s < 2 ^ (zs.getD s 0).toNat) (hlen : L.length + 15 ≤ 1099511627776) (hB : B ≤ w.heap.size) (hn : zs.length ≤ 1024) :
    Calls Tryd.prog 62 #[.agg #[lv, cv], .pointer (some ⟨g, 0, none⟩), .int .i64 (s : Int)] w (WrtPost (.tuple #[]) B g (L ++ cod zs s) (wrX g sv) w) := by
  obtain ⟨K, hK⟩ : ∃ K, K = (zs.getD s 0).toNat := ⟨_, rfl⟩
  have hKi : zs.getD s 0 = (K : Int) := by omega
  have hK15 : K ≤ 15 := by omega
  obtain ⟨cd, hcd⟩ : ∃ cd, cd = code zs s := ⟨_, rfl⟩
  have hcod : cod zs s = bitsN cd K := by unfold cod; rw [← hcd, ← hK]
  rw [hcod]
  rw [← hK, ← hcd] at hf
  obtain ⟨n, hnn⟩ : ∃ n, n = zs.length := ⟨_, rfl⟩
  obtain ⟨p0, c0, rfl⟩ := hl.shape
  obtain ⟨p1, c1, rfl⟩ := hc.shape
  have hnl : (nu (codes zs)).length = n := by simp [nu, codes_length, hnn]
  rw [hnl] at hc ⊢
  rw [ni_length, ← hnn] at hl ⊢
  rw [← hnn] at hs hn
  have hl1 := hl.le
  have hc1 := hc.le
  obtain ⟨g0, o0, rfl, hrow0⟩ := hl.some (by omega)
  obtain ⟨g1, o1, rfl, hrow1⟩ := hc.some (by omega)
  have e0 := hrow0.ni s (by omega)
  rw [hKi] at e0
  have e1 : w.cell? ⟨g1, o1 + s, none⟩ = some (.int .u32 (cd : Int)) := hrow1 s _ (by
    rw [nu, List.getElem?_map, List.getElem?_eq_getElem (by rw [codes_length]; omega)]
    have := codes_getD zs s (by omega)
    rw [List.getD_eq_getElem?_getD, List.getElem?_eq_getElem (by rw [codes_length]; omega)] at this
    simp at this
    simp [this, hcd])
  obtain ⟨w1, hw1⟩ : ∃ w1, w1 = w.alloc (.cells #[.slice (some ⟨g0, o0, none⟩) n c0, .slice (some ⟨g1, o1, none⟩) n c1] 117 (0, 0)) := ⟨_, rfl⟩
  have ho1 : OnlyS (fun _ => False) w w1 := by rw [hw1]; exact OnlyS.alloc _ _
  have hr1 : w1.heap[w.heap.size]? = some (.cells #[.slice (some ⟨g0, o0, none⟩) n c0, .slice (some ⟨g1, o1, none⟩) n c1] 117 (0, 0)) := by rw [hw1]; exact heap_alloc_new _ _
  have k0 : w1.cell? ⟨w.heap.size, 0, none⟩ = some (.slice (some ⟨g0, o0, none⟩) n c0) := cell_of_row _ _ _ _ _ _ hr1
  have k1 : w1.cell? ⟨w.heap.size, 1, none⟩ = some (.slice (some ⟨g1, o1, none⟩) n c1) := cell_of_row _ _ _ _ _ _ hr1
  have d0 := ho1.cell e0 (fun h => h)
  have d1 := ho1.cell e1 (fun h => h)
  have hst := h.stay ho1 (fun _ h => h.elim)
  have HC := Lib.hid (wcode_walk w1.drew B g sv L cd K (hst.stay (OnlyS.drew (S := fun _ => False) w1) (fun _ h => h.elim)) (by omega) (Nat.le_trans hB ho1.size) (by omega) hf)
  have hsi : (s : Int) < (n : Int) := by omega
  have hs0 : (0 : Int) ≤ (s : Int) := by omega
  have hc32 : IntKind.u64.wrap (cd : Int) = (cd : Int) := by
    have : 2 ^ K ≤ 2 ^ 15 := Nat.pow_le_pow_right (by decide) hK15
    exact IntWalk.u64_in _ (by omega)
  have HW1 := Lib.hid hw1
  have HO1 := Lib.hid ho1
  clear hw1 ho1 hr1 hst h hl hc hz hf hlen hB hn hcod hcd hnn hnl hrow0 hrow1 e0 e1 hK hKi
  go_enter Tryd.func62, Tryd.ntmps62
  go_upto_region 1 with fail
  rw [← HW1.out]
  go_still_tail 12, (by kernel_rfl)
  change wpList _ _ _ _ _ w1.drew
  go_wp2_with fail
  refine HC.out.mono ?_
  rintro e w2 ⟨rfl, ho2, sv2, hw2, hg2⟩
  have HO2 := Lib.hid ho2
  have HG2 := Lib.hid hg2
  have HWR := Lib.hid hw2
  clear ho2 hw2 hg2
  go_wp2_with fail
  go_end0
  exact ⟨rfl, ((HO1.out.trans (OnlyS.drew _)).mono (fun _ _ h => h.elim)).trans HO2.out, sv2, HWR.out, HG2.out.of_le HO1.out.size⟩
end Go.Proofs.YtphdcgioeokfbaaDoor
/-
  The writer that hears: sign, distance, more.
-/
namespace Go.Proofs.YtphdcgioeokfbaaDoor
open Go.RowKit Hf
def HwAt (w : World) (gx g : Nat) (ls cs ld cd : Value) : Prop := w.heap[gx]? = some (.cells #[.pointer (some ⟨g, 0, none⟩), ls, cs, ld, cd] 120 (0, 0))
/-- What a code owes at a sign. -/
structure CdOk (w : World) (lv cv : Value) (zs : List Int) (s : Nat) : Prop where
  l : SlV w lv (ni zs)
  c : SlV w cv (nu (codes zs))
  lt : s < zs.length
  z : 0 ≤ zs.getD s 0 ∧ zs.getD s 0 ≤ 15
  f : code zs s < 2 ^ (zs.getD s 0).toNat
  n : zs.length ≤ 1024
theorem CdOk.only {w w' : World} {lv cv : Value} {zs : List Int} {s : Nat} (h : CdOk w lv cv zs s) (ho : OnlyS (fun _ => False) w w') : CdOk w' lv cv zs s :=
  ⟨h.l.only ho (fun _ _ _ _ _ h => h), h.c.only ho (fun _ _ _ _ _ h => h), h.lt, h.z, h.f, h.n⟩
set_option maxRecDepth 100000 in
set_option maxHeartbeats 1000000 in
theorem wsign_walk (w : World) (B g gx : Nat) (sv : Value) (L : List Bool) (ls cs ld cd : Value) (zs : List Int) (s : Nat) (hx : HwAt w gx g ls cs ld cd) (h : WrAt w B g sv L) (hk : CdOk w ls cs zs s) (hlen : L.length + 15 ≤ 1099511627776) (hB : B ≤ w.heap.size) :
    Calls Tryd.prog 115 #[.pointer (some ⟨gx, 0, none⟩), .int .i64 (s : Int)] w (WrtPost (.tuple #[]) B g (L ++ cod zs s) (wrX g sv) w) := by
  have hd : OnlyS (fun _ => False) w w.drew := OnlyS.drew _
  have hk2 := hk.only hd
  have HC := Lib.hid (codewrite_walk w.drew B g sv L ls cs zs s (h.stay hd (fun _ h => h.elim)) hk2.l hk2.c hk2.lt hk2.z hk2.f hlen hB hk2.n)
  obtain ⟨x0, x1, x2, _⟩ := row5 hx
  obtain ⟨p1, q1, rfl⟩ := hk.l.shape
  obtain ⟨p2, q2, rfl⟩ := hk.c.shape
  obtain ⟨n1, hn1⟩ : ∃ n, n = (ni zs).length := ⟨_, rfl⟩
  obtain ⟨n2, hn2⟩ : ∃ n, n = (nu (codes zs)).length := ⟨_, rfl⟩
  rw [← hn1] at HC x1
  rw [← hn2] at HC x2
  clear hd hk2 hx h hk hlen hB hn1 hn2
  go_enter Tryd.func115, Tryd.ntmps115
  go_upto_region 0 with fail
  go_still_tail 9, (by kernel_rfl)
  change wpList _ _ _ _ _ w.drew
  go_wp2_with fail
  with_reducible refine HC.out.mono ?_
  rintro e w2 ⟨rfl, ho2, sv2, hw2, hg2⟩
  have HO2 := Lib.hid ho2
  have HG2 := Lib.hid hg2
  have HWR := Lib.hid hw2
  clear ho2 hw2 hg2
  go_wp2_with fail
  go_end0
  exact ⟨rfl, ⟨HO2.out.os, HO2.out.tape, HO2.out.output, HO2.out.size, HO2.out.block⟩, sv2, HWR.out, HG2.out⟩
set_option maxRecDepth 100000 in
set_option maxHeartbeats 1000000 in
theorem wdist_walk (w : World) (B g gx : Nat) (sv : Value) (L : List Bool) (ls cs ld cd : Value) (zs : List Int) (s : Nat) (hx : HwAt w gx g ls cs ld cd) (h : WrAt w B g sv L) (hk : CdOk w ld cd zs s) (hlen : L.length + 15 ≤ 1099511627776) (hB : B ≤ w.heap.size) :
    Calls Tryd.prog 113 #[.pointer (some ⟨gx, 0, none⟩), .int .i64 (s : Int)] w (WrtPost (.tuple #[]) B g (L ++ cod zs s) (wrX g sv) w) := by
  have hd : OnlyS (fun _ => False) w w.drew := OnlyS.drew _
  have hk2 := hk.only hd
  have HC := Lib.hid (codewrite_walk w.drew B g sv L ld cd zs s (h.stay hd (fun _ h => h.elim)) hk2.l hk2.c hk2.lt hk2.z hk2.f hlen hB hk2.n)
  obtain ⟨x0, _, _, x3, x4, _⟩ := row5 hx
  obtain ⟨p1, q1, rfl⟩ := hk.l.shape
  obtain ⟨p2, q2, rfl⟩ := hk.c.shape
  obtain ⟨n1, hn1⟩ : ∃ n, n = (ni zs).length := ⟨_, rfl⟩
  obtain ⟨n2, hn2⟩ : ∃ n, n = (nu (codes zs)).length := ⟨_, rfl⟩
  rw [← hn1] at HC x3
  rw [← hn2] at HC x4
  clear hd hk2 hx h hk hlen hB hn1 hn2
  go_enter Tryd.func113, Tryd.ntmps113
  go_upto_region 0 with fail
  go_still_tail 9, (by kernel_rfl)
  change wpList _ _ _ _ _ w.drew
  go_wp2_with fail
  with_reducible refine HC.out.mono ?_
  rintro e w2 ⟨rfl, ho2, sv2, hw2, hg2⟩
  have HO2 := Lib.hid ho2
  have HG2 := Lib.hid hg2
  have HWR := Lib.hid hw2
  clear ho2 hw2 hg2
  go_wp2_with fail
  go_end0
  exact ⟨rfl, ⟨HO2.out.os, HO2.out.tape, HO2.out.output, HO2.out.size, HO2.out.block⟩, sv2, HWR.out, HG2.out⟩
set_option maxRecDepth 100000 in
set_option maxHeartbeats 1000000 in
theorem wmore_walk (w : World) (B g gx : Nat) (sv : Value) (L : List Bool) (ls cs ld cd : Value) (n K : Nat) (hx : HwAt w gx g ls cs ld cd) (h : WrAt w B g sv L) (hlen : L.length + K ≤ 1099511627776) (hB : B ≤ w.heap.size) (hK : K ≤ 57) (hf : n < 2 ^ K) :
    Calls Tryd.prog 114 #[.pointer (some ⟨gx, 0, none⟩), .int .i64 (n : Int), .int .i64 (K : Int)] w (WrtPost (.tuple #[]) B g (L ++ num n K) (wrX g sv) w) := by
  have HC := Lib.hid (wput_walk w B g sv L n K h hlen hB hK hf)
  obtain ⟨x0, _⟩ := row5 hx
  have hw : IntKind.u64.wrap (n : Int) = (n : Int) := by
    have : 2 ^ K ≤ 2 ^ 57 := Nat.pow_le_pow_right (by decide) hK
    exact IntWalk.u64_in _ (by omega)
  clear hx h hlen hB hK hf
  go_enter Tryd.func114, Tryd.ntmps114
  go_wp2_with fail
  with_reducible refine HC.out.mono ?_
  rintro e w2 ⟨rfl, ho2, sv2, hw2, hg2⟩
  have HO2 := Lib.hid ho2
  have HG2 := Lib.hid hg2
  have HWR := Lib.hid hw2
  clear ho2 hw2 hg2
  go_wp2_with fail
  go_end0
  exact ⟨rfl, ⟨HO2.out.os, HO2.out.tape, HO2.out.output, HO2.out.size, HO2.out.block⟩, sv2, HWR.out, HG2.out⟩
end Go.Proofs.YtphdcgioeokfbaaDoor
/-
  The writer, as one that hears what is told.
-/
namespace Go.Proofs.YtphdcgioeokfbaaDoor
open Go.RowKit Hf
def evB (za zd : List Int) : Ev → List Bool
  | .sign n => cod za n
  | .dist n => cod zd n
  | .more x m => num x m
def evBits (za zd : List Int) (d : List Ev) : List Bool := d.flatMap (evB za zd)
theorem evBits_snoc (za zd : List Int) (d : List Ev) (e : Ev) : evBits za zd (d ++ [e]) = evBits za zd d ++ evB za zd e := by simp [evBits]
/-- A sign that a code has. -/
structure CdFit (zs : List Int) (s : Nat) : Prop where
  lt : s < zs.length
  z : 0 ≤ zs.getD s 0 ∧ zs.getD s 0 ≤ 15
  f : code zs s < 2 ^ (zs.getD s 0).toNat
def okW (za zd : List Int) : Ev → Prop
  | .sign n => CdFit za n
  | .dist n => CdFit zd n
  | .more x m => m ≤ 57 ∧ x < 2 ^ m
theorem evB_le (za zd : List Int) (e : Ev) (h : okW za zd e) : (evB za zd e).length ≤ 57 := by
  cases e with
  | sign n => have h : CdFit za n := h; have := h.z; simp only [evB, cod_length]; omega
  | dist n => have h : CdFit zd n := h; have := h.z; simp only [evB, cod_length]; omega
  | more x m => have h : m ≤ 57 ∧ x < 2 ^ m := h; simp only [evB, num_length]; exact h.1
/-- What holds before anything is told. -/
structure WtSt (w0 : World) (g gx : Nat) (sv0 ls cs ld cd lv : Value) (l : List Df.Z) (za zd : List Int) : Prop where
  hx : HwAt w0 gx g ls cs ld cd
  fls : SlV w0 ls (ni za)
  fcs : SlV w0 cs (nu (codes za))
  fld : SlV w0 ld (ni zd)
  fcd : SlV w0 cd (nu (codes zd))
  st : SlZ w0 lv l
  lo : TabAt 0 Df.longs w0 ∧ TabAt 1 Df.fars w0
  ax : ¬ wrX g sv0 gx
  al : ∀ p n c, ls = .slice (some p) n c → 0 < n → ¬ wrX g sv0 p.block
  ac : ∀ p n c, cs = .slice (some p) n c → 0 < n → ¬ wrX g sv0 p.block
  bl : ∀ p n c, ld = .slice (some p) n c → 0 < n → ¬ wrX g sv0 p.block
  bc : ∀ p n c, cd = .slice (some p) n c → 0 < n → ¬ wrX g sv0 p.block
  asz : ∀ p n c, lv = .slice (some p) n c → 0 < n → ¬ wrX g sv0 p.block
  g0 : ¬ wrX g sv0 0 ∧ ¬ wrX g sv0 1
  na : za.length ≤ 1024
  nd : zd.length ≤ 1024
structure WtI (w0 : World) (B g : Nat) (sv0 : Value) (L0 : List Bool) (za zd : List Int) (d : List Ev) (O : Nat → Prop) (w : World) : Prop where
  ex : ∃ sv, O = wrX g sv ∧ WrAt w B g sv (L0 ++ evBits za zd d)
  gr : Grew w0 (wrX g sv0) O
  on : OnlyS (wrX g sv0) w0 w
  le : (evBits za zd d).length ≤ 57 * d.length
theorem WtI.next {w0 w w' : World} {B g : Nat} {sv0 : Value} {L0 : List Bool} {za zd : List Int} {d : List Ev} {O : Nat → Prop} {e : Ev} (h : WtI w0 B g sv0 L0 za zd d O w) (ho : OnlyS O w w') {sv : Value} (hw : WrAt w' B g sv ((L0 ++ evBits za zd d) ++ evB za zd e)) (hg : Grew w O (wrX g sv)) (he : okW za zd e) :
    WtI w0 B g sv0 L0 za zd (d ++ [e]) (wrX g sv) w' :=
  ⟨⟨sv, rfl, by rw [evBits_snoc, ← List.append_assoc]; exact hw⟩, fun i hi => by
    rcases hg i hi with h1 | h1
    · exact h.gr i h1
    · exact .inr (Nat.le_trans h.on.size h1), h.on.trans' ho (fun i hi => h.gr i hi), by
    have := h.le
    have := evB_le za zd e he
    rw [evBits_snoc, List.length_append, List.length_append, List.length_singleton]; omega⟩
theorem HwAt.only {w w' : World} {gx g : Nat} {ls cs ld cd : Value} {S : Nat → Prop} (h : HwAt w gx g ls cs ld cd) (ho : OnlyS S w w') (hn : ¬ S gx) : HwAt w' gx g ls cs ld cd :=
  (ho.block gx (Array.getElem?_eq_some_iff.1 h).1 hn).trans h
set_option maxRecDepth 100000 in
theorem wt_hears (w0 : World) (B g gx : Nat) (sv0 ls cs ld cd lv : Value) (l : List Df.Z) (za zd : List Int) (L0 : List Bool) (hst : WtSt w0 g gx sv0 ls cs ld cd lv l za zd) (hB : B ≤ w0.heap.size) (hl : L0.length + 57 * (4 * l.length + 4) ≤ 1099511627776) :
    Hears 114 ⟨gx, 0, none⟩ lv l 115 113 114 (okW za zd) (WtI w0 B g sv0 L0 za zd) where
  st := fun d O w h => hst.st.only h.on hst.asz
  lo := fun d O w h => ⟨hst.lo.1.only h.on hst.g0.1, hst.lo.2.only h.on hst.g0.2⟩
  lt := fun d O w h i hi => by
    obtain ⟨sv, rfl, hw⟩ := h.ex
    exact (hw.x_lt i hi).2
  stay := fun d O w w' h ho => by
    obtain ⟨sv, rfl, hw⟩ := h.ex
    exact ⟨⟨sv, rfl, hw.stay ho (fun _ h => h.elim)⟩, h.gr, h.on.trans (ho.mono (fun _ _ h => h.elim)), h.le⟩
  ms := fun _ => by kernel_rfl
  md := fun _ => by kernel_rfl
  mm := fun _ => by kernel_rfl
  es := fun _ _ => rfl
  ed := fun _ _ => rfl
  em := fun _ _ => rfl
  sign := fun d O w n h hd he => by
    obtain ⟨sv, rfl, hw⟩ := h.ex
    have he' : CdFit za n := he
    have hle := h.le
    refine (wsign_walk w B g gx sv _ ls cs ld cd za n (hst.hx.only h.on hst.ax) hw ⟨hst.fls.only h.on hst.al, hst.fcs.only h.on hst.ac, he'.lt, he'.z, he'.f, hst.na⟩ (by rw [List.length_append]; omega) (Nat.le_trans hB h.on.size)).mono ?_
    rintro e w' ⟨rfl, ho, sv', hw', hg'⟩
    exact ⟨rfl, ho, _, h.next (e := .sign n) ho hw' hg' he, hg'⟩
  dist := fun d O w n h hd he => by
    obtain ⟨sv, rfl, hw⟩ := h.ex
    have he' : CdFit zd n := he
    have hle := h.le
    refine (wdist_walk w B g gx sv _ ls cs ld cd zd n (hst.hx.only h.on hst.ax) hw ⟨hst.fld.only h.on hst.bl, hst.fcd.only h.on hst.bc, he'.lt, he'.z, he'.f, hst.nd⟩ (by rw [List.length_append]; omega) (Nat.le_trans hB h.on.size)).mono ?_
    rintro e w' ⟨rfl, ho, sv', hw', hg'⟩
    exact ⟨rfl, ho, _, h.next (e := .dist n) ho hw' hg' he, hg'⟩
  more := fun d O w x m h hd he => by
    obtain ⟨sv, rfl, hw⟩ := h.ex
    have he' : m ≤ 57 ∧ x < 2 ^ m := he
    have hle := h.le
    refine (wmore_walk w B g gx sv _ ls cs ld cd x m (hst.hx.only h.on hst.ax) hw (by rw [List.length_append]; omega) (Nat.le_trans hB h.on.size) he'.1 he'.2).mono ?_
    rintro e w' ⟨rfl, ho, sv', hw', hg'⟩
    exact ⟨rfl, ho, _, h.next (e := .more x m) ho hw' hg' he, hg'⟩
end Go.Proofs.YtphdcgioeokfbaaDoor
/-
  writeWords: a block's words behind a writer.
-/
namespace Go.Proofs.YtphdcgioeokfbaaDoor
open Go.RowKit Hf
theorem own_only {B k : Nat} {e : TypeId} {w w' : World} {v : Value} {n : Nat} {xs : List Value} (h : w.ownsRow B e k v n xs) (ho : OnlyS (fun _ => False) w w') : w'.ownsRow B e k v n xs :=
  own_staysK h (fun j hj => ho.block j (h.lt j hj).2 (fun h => h))
set_option maxRecDepth 100000 in
set_option maxHeartbeats 1000000 in
theorem words_walk (w : World) (B g gb : Nat) (sv : Value) (L : List Bool) (lv va vb : Value) (l : List Df.Z) (za zd : List Int) (h : WrAt w B g sv L) (hB : B ≤ w.heap.size) (hl : L.length + 57 * (4 * l.length + 4) ≤ 1099511627776)
    (hlv : w.cell? ⟨gb, 0, none⟩ = some lv) (hgb : ¬ wrX g sv gb) (hst : SlZ w lv l) (hva : SlV w va (ni za)) (hvb : SlV w vb (ni zd)) (hlo : TabAt 0 Df.longs w ∧ TabAt 1 Df.fars w)
    (al : ∀ p n c, va = .slice (some p) n c → 0 < n → ¬ wrX g sv p.block) (bl : ∀ p n c, vb = .slice (some p) n c → 0 < n → ¬ wrX g sv p.block) (asz : ∀ p n c, lv = .slice (some p) n c → 0 < n → ¬ wrX g sv p.block)
    (g0 : ¬ wrX g sv 0 ∧ ¬ wrX g sv 1) (ga : good za) (gd : good zd) (sa : ¬ st za = 1) (sd : ¬ st zd = 1) (hz : ∀ s ∈ l, Df.okZ s) (hE : ∀ s ∈ l, ∀ e ∈ evs (Df.tok s), okW za zd e) (hE2 : okW za zd (.sign 256)) :
    Calls Tryd.prog 44 #[.pointer (some ⟨gb, 0, none⟩), .pointer (some ⟨g, 0, none⟩), va, vb] w (WrtPost (.tuple #[]) B g (L ++ evBits za zd ((l.map Df.tok).flatMap evs ++ [.sign 256])) (wrX g sv) w) := by
  have HC1 : Hid (∀ wx, OnlyS (fun _ => False) w wx → Calls Tryd.prog 60 #[va] wx fun e w' => ∃ p c Bc, e = .returned (.agg #[va, .slice p za.length c]) ∧ w.heap.size ≤ Bc ∧ w'.ownsRow Bc 132 1 (.slice p za.length c) za.length (nu (codes za)) ∧ OnlyS (fun _ => False) wx w') := Lib.hid (fun wx ho => by
    refine (coded_walk wx va za (hva.only ho (fun _ _ _ _ _ h => h)) ga sa).mono ?_
    rintro e w' ⟨p, c, Bc, rfl, h1, h2, h3⟩
    exact ⟨p, c, Bc, rfl, Nat.le_trans ho.size h1, h2, h3⟩)
  have HC2 : Hid (∀ wx, OnlyS (fun _ => False) w wx → Calls Tryd.prog 60 #[vb] wx fun e w' => ∃ p c Bc, e = .returned (.agg #[vb, .slice p zd.length c]) ∧ w.heap.size ≤ Bc ∧ w'.ownsRow Bc 132 1 (.slice p zd.length c) zd.length (nu (codes zd)) ∧ OnlyS (fun _ => False) wx w') := Lib.hid (fun wx ho => by
    refine (coded_walk wx vb zd (hvb.only ho (fun _ _ _ _ _ h => h)) gd sd).mono ?_
    rintro e w' ⟨p, c, Bc, rfl, h1, h2, h3⟩
    exact ⟨p, c, Bc, rfl, Nat.le_trans ho.size h1, h2, h3⟩)
  have HLV : Hid (∀ wx, OnlyS (fun _ => False) w wx → wx.cell? ⟨gb, 0, none⟩ = some lv) := Lib.hid (fun wx ho => ho.cell hlv (fun h => h))
  have HT : Hid (∀ (wx : World) (p1 p2 : Option Addr) (c1 c2 B1 B2 : Nat), OnlyS (fun _ => False) w wx → w.heap.size ≤ B1 → w.heap.size ≤ B2 → wx.ownsRow B1 132 1 (.slice p1 za.length c1) za.length (nu (codes za)) → wx.ownsRow B2 132 1 (.slice p2 zd.length c2) zd.length (nu (codes zd)) →
      Calls Tryd.prog 26 #[lv, .iface 114 (.pointer (some ⟨wx.heap.size, 0, none⟩))] (wx.alloc (.cells #[.pointer (some ⟨g, 0, none⟩), va, .slice p1 za.length c1, vb, .slice p2 zd.length c2] 120)) fun e w' => e = .returned (.tuple #[]) ∧ OnlyS (wrX g sv) w w' ∧ ∃ sv', WrAt w' B g sv' (L ++ evBits za zd ((l.map Df.tok).flatMap evs ++ [.sign 256])) ∧ Grew w (wrX g sv) (wrX g sv')) := Lib.hid (fun wx p1 p2 c1 c2 B1 B2 ho hb1 hb2 ho1 ho2 => by
    have hoa : OnlyS (fun _ => False) wx (wx.alloc (.cells #[.pointer (some ⟨g, 0, none⟩), va, .slice p1 za.length c1, vb, .slice p2 zd.length c2] 120)) := OnlyS.alloc _ _
    have hoo := ho.trans hoa
    have hx := h.x_lt
    have far : ∀ i, w.heap.size ≤ i → ¬ wrX g sv i := fun i hi hw => by have := (hx i hw).2; omega
    have own : ∀ (B' : Nat) (p : Option Addr) (c m : Nat) (xs : List Value), w.heap.size ≤ B' → wx.ownsRow B' 132 1 (.slice p m c) m xs → ∀ q n d, (Value.slice p m c) = .slice (some q) n d → 0 < n → ¬ wrX g sv q.block := fun B' p c m xs hb hown q n d e _ => by
      cases e
      exact far _ (Nat.le_trans hb (hown.lt q.block (by simp [Value.ownBlock])).1)
    refine (tell_walk _ _ _ lv l _ _ _ _ _ (wrX g sv) (wt_hears (wx.alloc (.cells #[.pointer (some ⟨g, 0, none⟩), va, .slice p1 za.length c1, vb, .slice p2 zd.length c2] 120)) B g wx.heap.size sv va (.slice p1 za.length c1) vb (.slice p2 zd.length c2) lv l za zd L
      ⟨heap_alloc_new _ _, hva.only hoo (fun _ _ _ _ _ h => h), (own_toV ho1).only hoa (fun _ _ _ _ _ h => h), hvb.only hoo (fun _ _ _ _ _ h => h), (own_toV ho2).only hoa (fun _ _ _ _ _ h => h), hst.only hoo (fun _ _ _ _ _ h => h), ⟨hlo.1.only hoo (fun h => h), hlo.2.only hoo (fun h => h)⟩, far _ ho.size, al, own B1 p1 c1 _ _ hb1 ho1, bl, own B2 p2 c2 _ _ hb2 ho2, asz, g0, ga.1, gd.1⟩ (Nat.le_trans hB hoo.size) hl)
      ⟨⟨sv, rfl, by rw [show evBits za zd [] = [] from rfl, List.append_nil]; exact h.stay hoo (fun _ h => h.elim)⟩, Grew.refl _ _, OnlyS.refl _ _, by simp [evBits]⟩ (by omega) hz hE hE2).mono ?_
    rintro e w' ⟨rfl, O, hT⟩
    obtain ⟨sv', rfl, hw'⟩ := hT.i.ex
    exact ⟨rfl, (hoo.mono (fun _ _ h => h.elim)).trans hT.only, sv', hw', hT.grew.of_le hoo.size⟩)
  have HL2 : Hid (∀ wx, OnlyS (wrX g sv) w wx → wx.cell? ⟨gb, 0, none⟩ = some lv) := Lib.hid (fun wx ho => ho.cell hlv hgb)
  have HLA : Hid (∀ wx o, OnlyS (fun _ => False) w wx → (wx.alloc o).cell? ⟨gb, 0, none⟩ = some lv) := Lib.hid (fun wx o ho => (ho.trans (OnlyS.alloc wx o)).cell hlv (fun h => h))
  obtain ⟨pa, ca, rfl⟩ := hva.shape
  obtain ⟨pb, cb, rfl⟩ := hvb.shape
  obtain ⟨pl, cl, rfl⟩ := hst.shape
  simp only [ni_length] at HC1 HC2 HT ⊢
  clear h hB hl hgb hst hva hvb hlo al bl asz g0 ga gd sa sd hz hE hE2
  go_enter Tryd.func44, Tryd.ntmps44
  go_upto_region 0 with fail
  go_region_held_law (fun w' => w'.cell? ⟨gb, 0, none⟩ = some (.slice pl l.length cl))
    (first | exact HLV.out _ (OnlyS.drew _) | exact HLV.out _ hp1 | exact HLV.out _ hp2 | exact HLA.out _ _ hp2 | exact HL2.out _ ho4)
    (first
    | (go_simp; go_at_call 60; with_reducible refine (HC1.out _ (OnlyS.drew _)).mono ?_; rintro e w2 ⟨p1, c1, B1, rfl, hb1, hw1, ho1⟩; have hp1 := (OnlyS.drew w).trans ho1)
    | (go_simp; go_at_call 60; with_reducible refine (HC2.out _ hp1).mono ?_; rintro e w3 ⟨p2, c2, B2, rfl, hb2, hw2, ho2⟩; have hp2 := hp1.trans ho2; have hw1' := own_only hw1 ho2)
    | (go_simp; go_at_call 26; with_reducible refine (HT.out _ _ _ _ _ _ _ hp2 hb1 hb2 hw1' hw2).mono ?_; rintro e w4 ⟨rfl, ho4, hx4⟩))
  go_wp2_with fail
  go_end0
  exact ⟨rfl, ho4, hx4⟩
end Go.Proofs.YtphdcgioeokfbaaDoor
/-
  What a block's writer asks, as mathematics: the words' bits, which signs a code has.
-/
namespace Go.Proofs.YtphdcgioeokfbaaDoor
open Go.RowKit Hf

theorem evBits_append (za zd : List Int) (a b : List Ev) : evBits za zd (a ++ b) = evBits za zd a ++ evBits za zd b := by simp [evBits]
theorem evBits_tok (za zd : List Int) (t : Tok) : evBits za zd (evs t) = t.words za zd := by
  cases t with
  | lit b => simp [evs, evBits, evB, Tok.words]
  | cpy n d a b => simp [evs, evBits, evB, Tok.words]
theorem evBits_body (za zd : List Int) : ∀ ts : List Tok, evBits za zd (ts.flatMap evs ++ [.sign 256]) = body za zd ts
  | [] => by simp [evBits, evB, body]
  | t :: ts => by
    rw [List.flatMap_cons, List.append_assoc, evBits_append, evBits_tok, evBits_body za zd ts, body]
theorem st_no {zs : List Int} (h : kr zs ≤ 32768) : ¬ st zs = 1 := by
  unfold st
  split
  · decide
  · rw [if_neg (by omega)]; decide
theorem cdfit_of {zs : List Int} (h : Coded zs) (s : Nat) (hs : 0 < zs.getD s 0) : CdFit zs s := by
  have hlt : s < zs.length := by
    rcases Nat.lt_or_ge s zs.length with h1 | h1
    · exact h1
    · rw [List.getD_eq_getElem?_getD, List.getElem?_eq_none h1] at hs
      exact absurd hs (by decide)
  refine ⟨hlt, ⟨by omega, ?_⟩, code_lt h.1 h.2 s hs⟩
  have hm : zs.getD s 0 ∈ zs := by
    rw [List.getD_eq_getElem?_getD, List.getElem?_eq_getElem hlt]
    exact List.getElem_mem _
  exact (h.1.2 _ hm).2
theorem low_more {t : Tok} (h : Df.low t) : ∀ x m, Ev.more x m ∈ evs t → m ≤ 57 ∧ x < 2 ^ m := by
  intro x m hm
  cases t with
  | lit b => simp [evs] at hm
  | cpy n d a b =>
    simp [evs] at hm
    obtain ⟨h1, h2⟩ := h
    rcases hm with ⟨rfl, rfl⟩ | ⟨rfl, rfl⟩
    · have := Df.LSg.m_le h1
      refine ⟨by omega, ?_⟩
      rcases h1 with ⟨_, rfl⟩ | ⟨_, _, _, h3, _⟩
      · decide
      · exact h3
    · have h3 := h2.1
      have h4 := h2.2.1
      exact ⟨by omega, h2.2.2.1⟩
theorem okW_of {zs ds : List Int} (hz : Coded zs) (hd : Coded ds) {t : Tok} (h : Df.low t) (hh : t.has zs ds) : ∀ e ∈ evs t, okW zs ds e := by
  intro e he
  cases t with
  | lit b =>
    simp [evs] at he
    subst he
    exact cdfit_of hz b hh
  | cpy n d a b =>
    simp [evs] at he
    obtain ⟨h1, h2⟩ := hh
    rcases he with rfl | rfl | rfl | rfl
    · exact cdfit_of hz _ h1
    · exact low_more h _ _ (by simp [evs])
    · exact cdfit_of hd _ h2
    · exact low_more h _ _ (by simp [evs])
theorem zS_coded (ts : List Tok) : Coded (Df.zS ts) := ⟨may_good (Df.head_ok ts).am, by rw [show Df.zS ts = Df.cut 257 (lensF (Df.cS ts) 15) from rfl, Df.cut_kr]; exact (Df.lens_cS ts).kr⟩
theorem zD_coded (ts : List Tok) : Coded (Df.zD ts) := ⟨may_good (Df.head_ok ts).bm, by rw [show Df.zD ts = Df.cut 1 (lensF (Df.cD ts) 15) from rfl, Df.cut_kr]; exact (Df.lens_cD ts).kr⟩
end Go.Proofs.YtphdcgioeokfbaaDoor
