/-
  Merged, in the order in which they build: Wst Wfx Whm.
-/
import Derived.Laws.BitsAllLaws
import Derived.Test.YtphdcgioeokfbaaDoorMg44
/-
  A writer under way; a stored block.
-/
namespace Go.Proofs.YtphdcgioeokfbaaDoor
open Go.RowKit Hf

/-- A writer that stood at L0 in w stands at L in wx. -/
structure WrGo (w : World) (B g : Nat) (sv : Value) (L : List Bool) (wx : World) (sv' : Value) : Prop where
  wr : WrAt wx B g sv' L
  only : OnlyS (wrX g sv) w wx
  grew : Grew w (wrX g sv) (wrX g sv')
namespace WrGo
variable {w wx w2 : World} {B g : Nat} {sv sv' sv2 : Value} {L L2 : List Bool}
theorem start (h : WrAt w B g sv L) : WrGo w B g sv L w sv := ⟨h, OnlyS.refl _ _, Grew.refl _ _⟩
theorem next (h : WrGo w B g sv L wx sv') (ho : OnlyS (wrX g sv') wx w2) (hw : WrAt w2 B g sv2 L2) (hg : Grew wx (wrX g sv') (wrX g sv2)) : WrGo w B g sv L2 w2 sv2 :=
  ⟨hw, h.only.trans' ho (fun i hi => h.grew i hi), h.grew.trans hg h.only.size⟩
theorem quiet (h : WrGo w B g sv L wx sv') (ho : OnlyS (fun _ => False) wx w2) : WrGo w B g sv L w2 sv' :=
  ⟨h.wr.stay ho (fun _ h => h.elim), h.only.trans (ho.mono (fun _ _ h => h.elim)), h.grew⟩
theorem off (h : WrGo w B g sv L wx sv') {i : Nat} (hi : i < w.heap.size) (hn : ¬ wrX g sv i) : ¬ wrX g sv' i := fun hx => (h.grew i hx).elim hn (fun h => by omega)
theorem cell (h : WrGo w B g sv L wx sv') {p : Addr} {v : Value} (c : w.cell? p = some v) (hn : ¬ wrX g sv p.block) : wx.cell? p = some v := h.only.cell c hn
theorem size (h : WrGo w B g sv L wx sv') (hB : B ≤ w.heap.size) : B ≤ wx.heap.size := Nat.le_trans hB h.only.size
end WrGo
theorem wputK (w : World) (B g : Nat) (sv : Value) (L : List Bool) (n K : Nat) (k : Int) (hk : (K : Int) = k) (h : WrAt w B g sv L) (hlen : L.length + K ≤ 1099511627776) (hB : B ≤ w.heap.size) (hK : K ≤ 57) (hf : n < 2 ^ K) :
    Calls Tryd.prog 33 #[.pointer (some ⟨g, 0, none⟩), .int .u64 (n : Int), .int .i64 k] w (WrtPost (.int .i64 0) B g (L ++ num n K) (wrX g sv) w) := by
  subst hk
  exact wput_walk w B g sv L n K h hlen hB hK hf
theorem xor_65535 (n : Nat) (h : n < 65536) : bits .xor .u64 (n : Int) 65535 = ((65535 - n : Nat) : Int) := by
  rw [show (65535 : Int) = ((65535 : Nat) : Int) from rfl, u64_xor_nat _ _ (by omega) (by decide), xor_16 n h]
set_option maxRecDepth 100000 in
set_option maxHeartbeats 1000000 in
theorem writeStored_walk (w : World) (B g gb : Nat) (sv : Value) (L : List Bool) (n : Nat) (bv : Value) (bs : List UInt8) (h : WrAt w B g sv L) (hB : B ≤ w.heap.size) (c1 : w.cell? ⟨gb, 1, none⟩ = some (.int .i64 (n : Int))) (c2 : w.cell? ⟨gb, 2, none⟩ = some bv) (hgb : ¬ wrX g sv gb)
    (hbv : SlV w bv (bl bs)) (hbn : ∀ p m c, bv = .slice (some p) m c → 0 < m → ¬ wrX g sv p.block) (hn : bs.length = n) (h65 : n ≤ 65535) (hlen : L.length ≤ 1000000000) :
    Calls Tryd.prog 28 #[.pointer (some ⟨gb, 0, none⟩), .pointer (some ⟨g, 0, none⟩)] w (WrtPost (.tuple #[]) B g (L ++ (List.replicate (Df.padN L.length) false ++ (num n 16 ++ (num (65535 - n) 16 ++ Inf.bits bs)))) (wrX g sv) w) := by
  obtain ⟨k, hk⟩ : ∃ k, Df.padN L.length = k := ⟨_, rfl⟩
  have hk2 : L.length + k = (L.length + 7) / 8 * 8 := by unfold Df.padN at hk; omega
  rw [hk]
  have hx := xor_65535 n (by omega)
  have hu : IntKind.u64.wrap (n : Int) = (n : Int) := by rw [IntKind.wrap_u64]; omega
  have hnI : (n : Int) ≤ 65535 := by omega
  have HS := Lib.hid (WrGo.start h)
  have HC1 := Lib.hid (walign_walk w B g sv L k h hk2 (by omega))
  have HN := Lib.hid (And.intro hn (And.intro h65 (And.intro hlen (And.intro hk2 hB))))
  have HC := Lib.hid (And.intro c1 c2)
  have HG := Lib.hid hgb
  have HV := Lib.hid (And.intro hbv hbn)
  clear hk hk2 h hn h65 hlen hgb hbv hbn c1 c2 hB
  go_enter Tryd.func28, Tryd.ntmps28
  go_wp2_with (first
    | ((with_reducible refine HC1.out.mono ?_); rintro e w1 ⟨rfl, ho, s1, hw, hg⟩; have H1 := Lib.hid (HS.out.next ho hw hg); have y1 := H1.out.cell HC.out.1 HG.out; have HC2 := Lib.hid (wputK w1 B g s1 _ n 16 16 rfl H1.out.wr (by have := HN.out; simp; omega) (H1.out.size HN.out.2.2.2.2) (by decide) (by have := HN.out; omega)); clear ho hw hg)
    | ((with_reducible refine HC2.out.mono ?_); rintro e w2 ⟨rfl, ho, s2, hw, hg⟩; have H2 := Lib.hid (H1.out.next ho hw hg); have y2 := H2.out.cell HC.out.1 HG.out; have HC3 := Lib.hid (wputK w2 B g s2 _ (65535 - n) 16 16 rfl H2.out.wr (by have := HN.out; simp; omega) (H2.out.size HN.out.2.2.2.2) (by decide) (by have := HN.out; omega)); clear ho hw hg)
    | ((with_reducible refine HC3.out.mono ?_); rintro e w3 ⟨rfl, ho, s3, hw, hg⟩; have H3 := Lib.hid (H2.out.next ho hw hg); have y3 := H3.out.cell HC.out.2 HG.out; have HC4 := Lib.hid (wbytes_walk w3 B g s3 _ bv bs H3.out.wr (HV.out.1.only H3.out.only HV.out.2) (by have := HN.out; simp; omega) (by have := HN.out; simp; omega) (H3.out.size HN.out.2.2.2.2)); clear ho hw hg)
    | ((with_reducible refine HC4.out.mono ?_); rintro e w4 ⟨rfl, ho, s4, hw, hg⟩; have H4 := Lib.hid (H3.out.next ho hw hg); clear ho hw hg))
  go_end0
  have h4 := H4.out
  simp only [List.append_assoc] at h4
  exact ⟨rfl, h4.only, s4, h4.wr, h4.grew⟩
end Go.Proofs.YtphdcgioeokfbaaDoor
/-
  A fixed block.
-/
namespace Go.Proofs.YtphdcgioeokfbaaDoor
open Go.RowKit Hf

/-- What a block's words ask of the world. -/
structure WdSt (w : World) (g gb : Nat) (sv lv : Value) (l : List Df.Z) : Prop where
  c0 : w.cell? ⟨gb, 0, none⟩ = some lv
  gb : ¬ wrX g sv gb
  st : SlZ w lv l
  sn : ∀ p n c, lv = .slice (some p) n c → 0 < n → ¬ wrX g sv p.block
  lo : TabAt 0 Df.longs w ∧ TabAt 1 Df.fars w
  g0 : ¬ wrX g sv 0 ∧ ¬ wrX g sv 1
  ok : ∀ s ∈ l, Df.okZ s
theorem WdSt.go {w wx : World} {B g gb : Nat} {sv sv' lv : Value} {l : List Df.Z} {L : List Bool} (h : WdSt w g gb sv lv l) (k : WrGo w B g sv L wx sv') (hgb : gb < w.heap.size) (hlv : ∀ p n c, lv = .slice (some p) n c → 0 < n → p.block < w.heap.size) (h0 : 0 < w.heap.size ∧ 1 < w.heap.size) : WdSt wx g gb sv' lv l :=
  ⟨k.cell h.c0 h.gb, k.off hgb h.gb, h.st.only k.only h.sn, fun p n c e hn => k.off (hlv p n c e hn) (h.sn p n c e hn), ⟨h.lo.1.only k.only h.g0.1, h.lo.2.only k.only h.g0.2⟩, ⟨k.off h0.1 h.g0.1, k.off h0.2 h.g0.2⟩, h.ok⟩
theorem WdSt.quiet {w wx : World} {g gb : Nat} {sv lv : Value} {l : List Df.Z} (h : WdSt w g gb sv lv l) (ho : OnlyS (fun _ => False) w wx) : WdSt wx g gb sv lv l :=
  ⟨ho.cell h.c0 (fun h => h), h.gb, h.st.only ho (fun _ _ _ _ _ h => h), h.sn, ⟨h.lo.1.only ho (fun h => h), h.lo.2.only ho (fun h => h)⟩, h.g0, h.ok⟩
/-- Words by any codes that have them. -/
theorem wordsG (w : World) (B g gb : Nat) (sv : Value) (L : List Bool) (lv va vb : Value) (l : List Df.Z) (za zd : List Int) (h : WrAt w B g sv L) (hB : B ≤ w.heap.size) (hl : L.length + 57 * (4 * l.length + 4) ≤ 1099511627776) (hst : WdSt w g gb sv lv l) (hva : SlV w va (ni za)) (hvb : SlV w vb (ni zd))
    (al : ∀ p n c, va = .slice (some p) n c → 0 < n → ¬ wrX g sv p.block) (bl : ∀ p n c, vb = .slice (some p) n c → 0 < n → ¬ wrX g sv p.block) (ca : Coded za) (cd : Coded zd) (hh : ∀ t ∈ l.map Df.tok, t.has za zd) (h256 : 0 < za.getD 256 0) :
    Calls Tryd.prog 44 #[.pointer (some ⟨gb, 0, none⟩), .pointer (some ⟨g, 0, none⟩), va, vb] w (WrtPost (.tuple #[]) B g (L ++ body za zd (l.map Df.tok)) (wrX g sv) w) := by
  have h1 := words_walk w B g gb sv L lv va vb l za zd h hB hl hst.c0 hst.gb hst.st hva hvb hst.lo al bl hst.sn hst.g0 ca.1 cd.1 (st_no ca.2) (st_no cd.2) hst.ok (fun s hs => okW_of ca cd (Df.tok_low (hst.ok s hs)) (hh _ (List.mem_map_of_mem hs))) (cdfit_of ca 256 h256)
  rw [evBits_body] at h1
  exact h1
theorem slice_new {w : World} {g : Nat} {sv : Value} {B : Nat} {L : List Bool} (h : WrAt w B g sv L) {p : Addr} (hp : w.heap.size ≤ p.block) : ¬ wrX g sv p.block := fun hx => by have := (h.x_lt _ hx).2; omega
set_option maxRecDepth 100000 in
set_option maxHeartbeats 1000000 in
theorem writeFixed_walk (w : World) (B g gb : Nat) (sv : Value) (L : List Bool) (lv : Value) (l : List Df.Z) (h : WrAt w B g sv L) (hB : B ≤ w.heap.size) (hl : L.length + 57 * (4 * l.length + 4) ≤ 1099511627776) (hst : WdSt w g gb sv lv l) :
    Calls Tryd.prog 29 #[.pointer (some ⟨gb, 0, none⟩), .pointer (some ⟨g, 0, none⟩)] w (WrtPost (.tuple #[]) B g (L ++ body Inf.fixS Inf.fixD (l.map Df.tok)) (wrX g sv) w) := by
  have HF1 := Lib.hid (fixedSigns_walk w)
  have HF2 : Hid (∀ wx, OnlyS (fun _ => False) w wx → Calls Tryd.prog 46 #[] wx fun e w' => ∃ p c, e = .returned (.slice p 32 c) ∧ SlV w' (.slice p 32 c) (ni Inf.fixD) ∧ OnlyS (fun _ => False) wx w' ∧ ∀ a, p = some a → wx.heap.size ≤ a.block) := Lib.hid (fun wx _ => fixedDistances_walk wx)
  have HW : Hid (∀ wx va vb, OnlyS (fun _ => False) w wx → SlV wx va (ni Inf.fixS) → SlV wx vb (ni Inf.fixD) → (∀ p n c, va = .slice (some p) n c → w.heap.size ≤ p.block) → (∀ p n c, vb = .slice (some p) n c → w.heap.size ≤ p.block) →
      Calls Tryd.prog 44 #[.pointer (some ⟨gb, 0, none⟩), .pointer (some ⟨g, 0, none⟩), va, vb] wx (WrtPost (.tuple #[]) B g (L ++ body Inf.fixS Inf.fixD (l.map Df.tok)) (wrX g sv) wx)) := Lib.hid (fun wx va vb ho h1 h2 h3 h4 =>
    wordsG wx B g gb sv L lv va vb l Inf.fixS Inf.fixD (h.stay ho (fun _ h => h.elim)) (Nat.le_trans hB ho.size) hl (hst.quiet ho) h1 h2 (fun p n c e _ => slice_new h (h3 p n c e)) (fun p n c e _ => slice_new h (h4 p n c e)) Df.fixS_coded Df.fixD_coded
      (Df.fix_has (fun t ht => by obtain ⟨s, hs, rfl⟩ := List.mem_map.1 ht; exact Df.tok_low (hst.ok s hs))) (by decide +kernel))
  clear h hB hl hst
  go_enter Tryd.func29, Tryd.ntmps29
  go_wp2_with (first
    | ((with_reducible refine HF1.out.mono ?_); rintro e w1 ⟨p1, c1, rfl, hs1, ho1, hf1⟩; have HC2 := Lib.hid (HF2.out w1 ho1))
    | ((with_reducible refine HC2.out.mono ?_); rintro e w2 ⟨p2, c2, rfl, hs2, ho2, hf2⟩; have ho12 := ho1.trans ho2; have HC3 := Lib.hid (HW.out w2 (.slice p1 288 c1) (.slice p2 32 c2) ho12 (hs1.only ho2 (fun _ _ _ _ _ h => h)) hs2 (fun p n c e => by cases e; exact hf1 p rfl) (fun p n c e => by cases e; exact Nat.le_trans ho1.size (hf2 p rfl))); clear hs1 hs2)
    | ((with_reducible refine HC3.out.mono ?_); rintro e w3 ⟨rfl, ho, s3, hw, hg⟩; have H3 := Lib.hid (And.intro ho (And.intro hw hg)); clear ho hw hg))
  go_end0
  obtain ⟨ho, hw, hg⟩ := H3.out
  exact ⟨rfl, (ho12.mono (fun _ _ h => h.elim)).trans ho, s3, hw, hg.of_le ho12.size⟩
end Go.Proofs.YtphdcgioeokfbaaDoor
/-
  What the heading's writer asks, as mathematics.
-/
namespace Go.Proofs.YtphdcgioeokfbaaDoor
open Go.RowKit Hf

theorem telBits_snoc (v : Nat → Nat) : ∀ n k, telBits v (n + 1) k = telBits v n k ++ num (v (k + n)) 3
  | 0, k => by simp [telBits]
  | n + 1, k => by
    rw [telBits, telBits_snoc v n (k + 1), telBits, ← List.append_assoc, Nat.add_right_comm k 1 n, Nat.add_assoc k n 1]
theorem runs_step (zs : List Int) (gs : List Sg) (k : Nat) (h : k < gs.length) : runs zs (gs.take (k + 1)) = runs zs (gs.take k) ++ (cod zs (gs.getD k ⟨0, 0, 0⟩).s ++ num (gs.getD k ⟨0, 0, 0⟩).x (gs.getD k ⟨0, 0, 0⟩).m) := by
  rw [List.take_add_one, List.getElem?_eq_getElem h, Option.toList_some, runs_append]
  have e : gs.getD k ⟨0, 0, 0⟩ = gs[k] := by rw [List.getD_eq_getElem?_getD, List.getElem?_eq_getElem h]; rfl
  rw [e]
  simp [runs]
theorem okGs_xm : ∀ (gs : List Sg) (a : List Int), okGs gs a → ∀ g ∈ gs, g.x < 2 ^ g.m ∧ g.m ≤ 7
  | [], _, _, g, hg => by cases hg
  | h :: t, a, hok, g, hg => by
    obtain ⟨h1, h2⟩ := hok
    rcases List.mem_cons.1 hg with rfl | hg
    · refine ⟨h1.x, ?_⟩
      rw [h1.m]
      split
      · decide
      split
      · decide
      split <;> decide
    · exact okGs_xm t _ h2 g hg
theorem telBits_len (v : Nat → Nat) : ∀ n k, (telBits v n k).length = 3 * n
  | 0, _ => rfl
  | n + 1, k => by rw [telBits, List.length_append, num_length, telBits_len v n (k + 1)]; omega
theorem runsB_len {zs : List Int} (hz : ∀ i, zs.getD i 0 ≤ 15) : ∀ (gs : List Sg), (∀ g ∈ gs, g.m ≤ 7) → (runs zs gs).length ≤ 22 * gs.length
  | [], _ => Nat.le_refl _
  | g :: t, h => by
    rw [runs, List.length_append, List.length_append, cod_length, num_length, List.length_cons]
    have h1 := h g (by simp)
    have h2 := hz g.s
    have h3 := runsB_len hz t (fun x hx => h x (by simp [hx]))
    omega
end Go.Proofs.YtphdcgioeokfbaaDoor
