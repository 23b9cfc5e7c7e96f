/-
  Merged, in the order in which they build: Sizes Tll.
-/
import Derived.Test.YtphdcgioeokfbaaDoorMg26
import Derived.Test.YtphdcgioeokfbaaDoorMg27
import Derived.Test.YtphdcgioeokfbaaDoorMg33
/-
  Steps: literal, copies, makes, Size, May.
-/
namespace Go.Proofs.YtphdcgioeokfbaaDoor
open Go.RowKit
/-- A step, as a value. -/
def stp3 (s : Mt.St) : Value := .agg #[.int .i64 (s.1 : Int), .int .i64 (s.2.1 : Int), .int .u8 (bi s.2.2)]
set_option maxRecDepth 100000 in
set_option maxHeartbeats 1000000 in
theorem makes_walk (w : World) (s : Mt.St) : Calls Tryd.prog 25 #[stp3 s] w fun e w' => e = .returned (.int .i64 (Mt.mk s : Nat)) ∧ Below w.heap.size w w' := by
  obtain ⟨x, y, z⟩ := s
  unfold stp3
  have HB : Hid (Below w.heap.size w (w.alloc (.cells #[.int .i64 (x : Int), .int .i64 (y : Int), .int .u8 (bi z)] 63))) := Lib.hid ((Below.refl _ _).alloc (Nat.le_refl _) _)
  have hm : max (x : Int) 1 = ((Mt.mk (x, y, z) : Nat) : Int) := by show _ = ((max x 1 : Nat) : Int); omega
  generalize Mt.mk (x, y, z) = m at *
  go_enter Tryd.func25, Tryd.ntmps25
  go_wp2_with fail
  go_ret
  exact ⟨rfl, HB.out⟩
theorem sizeL_take (ss : List Mt.St) (i : Nat) (h : i < ss.length) : Mt.sizeL (ss.take (i + 1)) = Mt.sizeL (ss.take i) + Mt.mk ss[i] := by
  unfold Mt.sizeL
  rw [List.take_add_one, List.getElem?_eq_getElem h, Option.toList_some, List.map_append, List.sum_append]
  simp
theorem sizeL_le (ss : List Mt.St) (i : Nat) : Mt.sizeL (ss.take i) ≤ Mt.sizeL ss := by
  have h := congrArg Mt.sizeL (List.take_append_drop i ss)
  unfold Mt.sizeL at *
  rw [List.map_append, List.sum_append] at h
  omega
set_option maxRecDepth 100000 in
set_option maxHeartbeats 4000000 in
theorem size_walk (w : World) (v : Value) (ss : List Mt.St) (hs : SlS w v ss) (hl : ss.length ≤ 1099511627776) (hz : Mt.sizeL ss ≤ 1099511627776) :
    Calls Tryd.prog 18 #[v] w fun e w' => e = .returned (.int .i64 (Mt.sizeL ss : Nat)) ∧ Below w.heap.size w w' := by
  obtain ⟨p, cap, rfl⟩ := SlK.shape hs
  obtain ⟨n, hn⟩ : ∃ n, n = ss.length := ⟨_, rfl⟩
  have HS : Hid (SlS w (.slice p n cap) ss) := Lib.hid (by rw [hn]; exact hs)
  rw [← hn] at hl ⊢
  have HN := Lib.hid hn
  have HZ := Lib.hid hz
  clear hs hn hz
  go_enter Tryd.func18, Tryd.ntmps18
  go_wp2_with fail
  go_loopw [3, 8] (fun v3 v8 wr => ∃ i : Nat, i ≤ n ∧ v8 = .int .i64 i ∧ v3 = .int .i64 (Mt.sizeL (ss.take i) : Nat) ∧ Below w.heap.size w wr) (fun _ v8 _ => n - (intOf v8).toNat)
  case atStart => exact ⟨0, Nat.zero_le _, rfl, rfl, Below.refl _ _⟩
  case round =>
    obtain ⟨i, hi, rfl, rfl, hB⟩ := hrel
    have HB := Lib.hid hB
    clear hB
    by_cases hin : i < n
    · have hini : (i : Int) < (n : Int) := by omega
      have hil : i < ss.length := by rw [← HN.out]; exact hin
      obtain ⟨g, o, rfl, hcap, hc⟩ := SlS.at (SlK.below HS.out HB.out (Nat.le_refl _)) (by omega)
      obtain ⟨c0, c1, c2⟩ := hc i ss[i] (List.getElem?_eq_getElem hil)
      have HST := Lib.hid (sizeL_take ss i hil)
      have hz1 := sizeL_le ss (i + 1)
      rw [HST.out] at hz1
      have hz2 := HZ.out
      have hmk : ∀ wx, Calls Tryd.prog 25 #[stp3 ss[i]] wx fun e w' => e = .returned (.int .i64 (Mt.mk ss[i] : Nat)) ∧ Below wx.heap.size wx w' := fun wx => makes_walk wx _
      have HMK := Lib.hid hmk
      clear hc hmk
      unfold stp3 at HMK
      generalize Mt.mk ss[i] = m at *
      obtain ⟨x, hx⟩ : ∃ x, x = (ss[i]).1 := ⟨_, rfl⟩
      obtain ⟨y, hy⟩ : ∃ y, y = (ss[i]).2.1 := ⟨_, rfl⟩
      obtain ⟨z, hz3⟩ : ∃ z, z = (ss[i]).2.2 := ⟨_, rfl⟩
      rw [← hx] at c0 HMK
      rw [← hy] at c1 HMK
      rw [← hz3] at c2 HMK
      clear hx hy hz3
      generalize Mt.sizeL (ss.take i) = S at *
      have hs1 : (S : Int) + (m : Int) ≤ 1099511627776 := by omega
      go_wp2_with fail
      refine (HMK.out _).mono ?_
      rintro e w2 ⟨rfl, hb2⟩
      have HB2 := Lib.hid ((HB.out.alloc HB.out.size (.cells #[.int .i64 (x : Int), .int .i64 (y : Int), .int .u8 (bi z)] 63)).trans (hb2.mono (Nat.le_trans HB.out.size (by simp))))
      clear hb2
      go_wp2_with fail
      refine ⟨⟨i + 1, hin, ?_, ?_, HB2.out⟩, ?_⟩
      · go_num
      · rw [HST.out]; go_num
      · simp only [intOf]; omega
    · have hini : (n : Int) ≤ (i : Int) := by omega
      obtain rfl : i = n := by omega
      have HE : Hid (ss.take i = ss) := Lib.hid (by rw [HN.out, List.take_length])
      rw [HE.out]
      go_wp2_with fail
      go_ret
      exact ⟨rfl, HB.out⟩
theorem okL_at : ∀ (ss : List Mt.St) (k i : Nat) (h : i < ss.length), Mt.okL ss k → Mt.okS ss[i] (k + Mt.sizeL (ss.take i))
  | [], _, _, h, _ => by simp at h
  | s :: t, k, 0, _, h => by simpa [Mt.sizeL] using h.1
  | s :: t, k, i + 1, h, hk => by
    have := okL_at t (k + Mt.mk s) i (by simpa using h) hk.2
    have e : Mt.sizeL ((s :: t).take (i + 1)) = Mt.mk s + Mt.sizeL (t.take i) := rfl
    rw [e, ← Nat.add_assoc]; exact this
end Go.Proofs.YtphdcgioeokfbaaDoor
/-
  tell: a block's words, told one by one to whoever hears them.
-/
namespace Go.Proofs.YtphdcgioeokfbaaDoor
open Go.RowKit Hf
/-- What is told. -/
inductive Ev where
  | sign (n : Nat)
  | dist (n : Nat)
  | more (x m : Nat)
def evs : Tok → List Ev
  | .lit b => [.sign b]
  | .cpy _ _ a b => [.sign a.s, .more a.x a.m, .dist b.s, .more b.x b.m]
/-- Steps in memory. -/
def zc (l : List Df.Z) : List Value := l.flatMap fun s => [.int .i64 s.1, .int .i64 s.2.1, .int .u8 (bi s.2.2)]
theorem zc_length : ∀ l : List Df.Z, (zc l).length = l.length * 3
  | [] => rfl
  | s :: l => by
    have e : zc (s :: l) = .int .i64 s.1 :: .int .i64 s.2.1 :: .int .u8 (bi s.2.2) :: zc l := rfl
    rw [e]; simp only [List.length_cons]; rw [zc_length l]; omega
def nz : Df.Z := (0, 0, 0)
theorem zc_at : ∀ (l : List Df.Z) (i : Nat), i < l.length → (zc l)[i * 3]? = some (.int .i64 (l.getD i nz).1) ∧ (zc l)[i * 3 + 1]? = some (.int .i64 (l.getD i nz).2.1) ∧ (zc l)[i * 3 + 2]? = some (.int .u8 (bi (l.getD i nz).2.2))
  | [], i, h => by simp at h
  | c :: cs, 0, _ => ⟨rfl, rfl, rfl⟩
  | c :: cs, i + 1, h => by
    have := zc_at cs i (by simpa using h)
    have e : zc (c :: cs) = .int .i64 c.1 :: .int .i64 c.2.1 :: .int .u8 (bi c.2.2) :: zc cs := rfl
    rw [e, List.getD_cons_succ, show (i + 1) * 3 = i * 3 + 1 + 1 + 1 by omega]
    exact this
def SlZ (w : World) (v : Value) (l : List Df.Z) : Prop := SlK 3 w v l.length (zc l)
theorem SlZ.only {S : Nat → Prop} {w w' : World} {v : Value} {l : List Df.Z} (h : SlZ w v l) (ho : OnlyS S w w') (ha : ∀ p n cap, v = .slice (some p) n cap → 0 < n → ¬ S p.block) : SlZ w' v l := SlK.only h ho ha
theorem SlZ.shape {w : World} {v : Value} {l : List Df.Z} (h : SlZ w v l) : ∃ p c, v = .slice p l.length c := by
  obtain ⟨_, ⟨g, o, cap, h2, h3, _⟩ | ⟨p, h2, h3⟩⟩ := h
  · exact ⟨_, _, h2⟩
  · exact ⟨p, 0, by rw [h3]; exact h2⟩
theorem SlZ.at {w : World} {p : Option Addr} {n c : Nat} {l : List Df.Z} (h : SlZ w (.slice p n c) l) (i : Nat) (hi : i < l.length) : ∃ g o, p = some ⟨g, o, none⟩ ∧ n ≤ c ∧ w.cell? ⟨g, o + i * 3, none⟩ = some (.int .i64 (l.getD i nz).1) ∧ w.cell? ⟨g, o + i * 3 + 1, none⟩ = some (.int .i64 (l.getD i nz).2.1) ∧ w.cell? ⟨g, o + i * 3 + 2, none⟩ = some (.int .u8 (bi (l.getD i nz).2.2)) := by
  obtain ⟨_, ⟨g, o, cap, h2, h3, h4⟩ | ⟨p', h2, h3⟩⟩ := h
  · have hc := zc_at l i hi
    cases h2
    refine ⟨g, o, rfl, h3, h4 _ _ hc.1, ?_, ?_⟩
    · rw [Nat.add_assoc]; exact h4 _ _ hc.2.1
    · rw [Nat.add_assoc]; exact h4 _ _ hc.2.2
  · omega
/-- What a hearer does: I holds of what it has heard, and of its own blocks; E: what it may hear. -/
structure Hears (ty : TypeId) (ga : Addr) (lv : Value) (l : List Df.Z) (fs fd fm : Nat) (E : Ev → Prop) (I : List Ev → (Nat → Prop) → World → Prop) : Prop where
  st : ∀ d O w, I d O w → SlZ w lv l
  lo : ∀ d O w, I d O w → TabAt 0 Df.longs w ∧ TabAt 1 Df.fars w
  lt : ∀ d O w, I d O w → ∀ i, O i → i < w.heap.size
  stay : ∀ d O w w', I d O w → OnlyS (fun _ => False) w w' → I d O w'
  ms : ∀ w, (method 274 ty (.pointer (some ga)) "portolan/deflate.sign").run Tryd.prog w = .ok (fs, .pointer (some ga)) w
  md : ∀ w, (method 274 ty (.pointer (some ga)) "portolan/deflate.distance").run Tryd.prog w = .ok (fd, .pointer (some ga)) w
  mm : ∀ w, (method 274 ty (.pointer (some ga)) "portolan/deflate.more").run Tryd.prog w = .ok (fm, .pointer (some ga)) w
  es : ∀ (args : Array Value) (w : World), (callFunc fs args).run Tryd.prog w = .ok (.enter fs args) w
  ed : ∀ (args : Array Value) (w : World), (callFunc fd args).run Tryd.prog w = .ok (.enter fd args) w
  em : ∀ (args : Array Value) (w : World), (callFunc fm args).run Tryd.prog w = .ok (.enter fm args) w
  sign : ∀ d O w n, I d O w → d.length ≤ 4 * l.length → E (.sign n) → Calls Tryd.prog fs #[.pointer (some ga), .int .i64 (n : Int)] w fun e w' => e = .returned (.tuple #[]) ∧ OnlyS O w w' ∧ ∃ O', I (d ++ [.sign n]) O' w' ∧ Grew w O O'
  dist : ∀ d O w n, I d O w → d.length ≤ 4 * l.length → E (.dist n) → Calls Tryd.prog fd #[.pointer (some ga), .int .i64 (n : Int)] w fun e w' => e = .returned (.tuple #[]) ∧ OnlyS O w w' ∧ ∃ O', I (d ++ [.dist n]) O' w' ∧ Grew w O O'
  more : ∀ d O w x m, I d O w → d.length ≤ 4 * l.length → E (.more x m) → Calls Tryd.prog fm #[.pointer (some ga), .int .i64 (x : Int), .int .i64 (m : Int)] w fun e w' => e = .returned (.tuple #[]) ∧ OnlyS O w w' ∧ ∃ O', I (d ++ [.more x m]) O' w' ∧ Grew w O O'
theorem take_evs (l : List Df.Z) (i : Nat) (hi : i < l.length) : ((l.take (i + 1)).map Df.tok).flatMap evs = ((l.take i).map Df.tok).flatMap evs ++ evs (Df.tok (l.getD i nz)) := by
  rw [List.take_add_one, List.getElem?_eq_getElem hi, List.map_append, List.flatMap_append]
  simp [List.getD_eq_getElem?_getD, hi]
theorem evs_len (t : Tok) : (evs t).length ≤ 4 := by cases t <;> simp [evs]
theorem flat_len : ∀ l : List Df.Z, ((l.map Df.tok).flatMap evs).length ≤ 4 * l.length
  | [] => by simp
  | s :: l => by
    rw [List.map_cons, List.flatMap_cons, List.length_append, List.length_cons]
    have := evs_len (Df.tok s)
    have := flat_len l
    omega
/-- Events, one behind the other. -/
structure Told (I : List Ev → (Nat → Prop) → World → Prop) (w : World) (O0 : Nat → Prop) (d : List Ev) (O : Nat → Prop) (w' : World) : Prop where
  i : I d O w'
  only : OnlyS O0 w w'
  grew : Grew w O0 O
theorem Told.next {I : List Ev → (Nat → Prop) → World → Prop} {w w1 w2 : World} {O0 O1 O2 : Nat → Prop} {d1 d2 : List Ev} (h : Told I w O0 d1 O1 w1) (ho : OnlyS O1 w1 w2) (hi : I d2 O2 w2) (hg : Grew w1 O1 O2) : Told I w O0 d2 O2 w2 :=
  ⟨hi, h.only.trans' ho (fun i hi => h.grew i hi), h.grew.trans hg h.only.size⟩
set_option maxRecDepth 100000 in
set_option maxHeartbeats 8000000 in
theorem tell_walk (w : World) (ty : TypeId) (ga : Addr) (lv : Value) (l : List Df.Z) (fs fd fm : Nat) (E : Ev → Prop) (I : List Ev → (Nat → Prop) → World → Prop) (O0 : Nat → Prop) (H : Hears ty ga lv l fs fd fm E I) (h0 : I [] O0 w) (hl : l.length ≤ 1099511627776) (hz : ∀ s ∈ l, Df.okZ s)
    (hE : ∀ s ∈ l, ∀ e ∈ evs (Df.tok s), E e) (hE2 : E (.sign 256)) :
    Calls Tryd.prog 26 #[lv, .iface ty (.pointer (some ga))] w fun e w' => e = .returned (.tuple #[]) ∧ ∃ O, Told I w O0 ((l.map Df.tok).flatMap evs ++ [.sign 256]) O w' := by
  obtain ⟨p, c, rfl⟩ := (H.st _ _ _ h0).shape
  obtain ⟨n, hn⟩ : ∃ n, n = l.length := ⟨_, rfl⟩
  rw [← hn] at hl H ⊢
  have HH := Lib.hid H
  have HN := Lib.hid hn
  have HI0 : Hid (Told I w O0 [] O0 w) := Lib.hid ⟨h0, OnlyS.refl _ _, Grew.refl _ _⟩
  have HZ := Lib.hid hz
  have HE := Lib.hid hE
  have HE2 := Lib.hid hE2
  have hms := H.ms
  have hmd := H.md
  have hmm := H.mm
  have hes := H.es
  have hed := H.ed
  have hem := H.em
  clear H h0 hz hn hE hE2
  go_enter Tryd.func26, Tryd.ntmps26
  go_wp2_with fail
  go_loopw [11] (fun v11 wr => ∃ i : Nat, i ≤ n ∧ v11 = .int .i64 (i : Int) ∧ ∃ O, Told I w O0 (((l.take i).map Df.tok).flatMap evs) O wr) (fun v11 _ => n - (intOf v11).toNat)
  case atStart => exact ⟨0, Nat.zero_le _, rfl, O0, by simpa using HI0.out⟩
  case round =>
    obtain ⟨i, hi, rfl, O, hI⟩ := hrel
    by_cases hlt : i < n
    · have hlti : (i : Int) < (n : Int) := by omega
      have hil : i < l.length := by rw [← HN.out]; exact hlt
      obtain ⟨D, hD⟩ : ∃ D, D = ((l.take i).map Df.tok).flatMap evs := ⟨_, rfl⟩
      have hnext := take_evs l i hil
      have hdl := flat_len (l.take i)
      rw [← hD] at hI hnext hdl
      have hdl4 : D.length + 4 ≤ 4 * l.length := by rw [List.length_take] at hdl; omega
      obtain ⟨g, o, rfl, hnc, e0, e1, e2⟩ := (HH.out.st _ _ _ hI.i).at i hil
      have hmem : l.getD i nz ∈ l := by rw [List.getD_eq_getElem?_getD, List.getElem?_eq_getElem hil]; exact List.getElem_mem hil
      have hok := HZ.out _ hmem
      have hev := HE.out _ hmem
      obtain ⟨x, y, z, hs⟩ : ∃ x y z, l.getD i nz = (x, y, z) := ⟨_, _, _, rfl⟩
      rw [hs] at hok e0 e1 e2 hev hnext
      simp only at e0 e1 e2
      obtain ⟨wa, hwa⟩ : ∃ wa, wa = wr.alloc (.cells #[.int .i64 x, .int .i64 y, .int .u8 (bi z)] 63) := ⟨_, rfl⟩
      have hra := heap_alloc_new wr (.cells #[.int .i64 x, .int .i64 y, .int .u8 (bi z)] 63)
      rw [← hwa] at hra
      have hal : OnlyS (fun _ => False) wr wa := by rw [hwa]; exact OnlyS.alloc _ _
      have hza : wa.heap.size = wr.heap.size + 1 := by rw [hwa]; simp
      have HWA := Lib.hid hwa
      have hia : Told I w O0 D O wa := ⟨HH.out.stay _ _ _ _ hI.i hal, hI.only.trans (hal.mono fun _ _ h => h.elim), hI.grew⟩
      have hOn : ¬ O wr.heap.size := fun h => by have := HH.out.lt _ _ _ hI.i _ h; omega
      have x0 := cell_of_row _ _ 0 _ _ _ hra
      have x1 := cell_of_row _ _ 1 _ _ _ hra
      have x2 := cell_of_row _ _ 2 _ _ _ hra
      clear hs hwa hal hI hmem hil hD
      by_cases hx : x = 0
      · subst hx
        have hb0 := (bi_lt z).1
        have hb1 := (bi_lt z).2
        have e : Df.tok (0, y, z) = .lit z.toNat := rfl
        rw [e] at hev hnext
        have HC := Lib.hid (HH.out.sign _ _ _ z.toNat hia.i (by omega) (hev _ (by simp [evs])))
        have HNX := Lib.hid hnext
        have HIA := Lib.hid hia
        clear hok hra e hev hnext hia hOn hza hdl hdl4
        go_wp2_with fail
        rw [← HWA.out]
        go_wp2_with fail
        refine HC.out.mono ?_
        rintro e w1 ⟨rfl, ho1, O1, h1, hg1⟩
        have H1 := Lib.hid (HIA.out.next ho1 h1 hg1)
        clear h1 HC ho1 hg1
        go_wp2_with fail
        exact ⟨⟨i + 1, by omega, by go_num, O1, by rw [HNX.out]; exact H1.out⟩, by simp [intOf]; omega⟩
      · have hok' : 3 ≤ x ∧ x ≤ 258 ∧ 1 ≤ y ∧ y ≤ 32768 := by
          rcases hok with h | h
          · exact absurd h hx
          · exact h
        obtain ⟨n1, rfl⟩ : ∃ n1 : Nat, x = (n1 : Int) := ⟨x.toNat, by omega⟩
        obtain ⟨n2, rfl⟩ : ∃ n2 : Nat, y = (n2 : Int) := ⟨y.toNat, by omega⟩
        have e : Df.tok ((n1 : Int), (n2 : Int), z) = .cpy n1 n2 (Df.lsg n1) (Df.fsg n2) := by
          unfold Df.tok
          rw [if_neg hx]
          rfl
        rw [e] at hev hnext
        have hxb : ((n1 : Int) == 0) = false := beq_eq_false_iff_ne.2 hx
        have HL := Lib.hid (Long_walk wa n1 (HH.out.lo _ _ _ hia.i).1 (by omega) (by omega))
        have HNX := Lib.hid hnext
        have HEV := Lib.hid hev
        have HIA := Lib.hid hia
        have HRA := Lib.hid hra
        have HON := Lib.hid hOn
        have HZA := Lib.hid hza
        have HDL := Lib.hid hdl4
        have HB : Hid (1 ≤ n2 ∧ n2 ≤ 32768) := Lib.hid (by omega)
        clear hok hok' e hev hnext hia hx hra hOn hza hdl hdl4
        go_wp2_with fail
        rw [← HWA.out]
        go_wp2_with fail
        refine HL.out.mono ?_
        rintro e w1 ⟨rfl, ho1⟩
        have hi1 : Told I w O0 D O w1 := ⟨HH.out.stay _ _ _ _ HIA.out.i ho1, HIA.out.only.trans (ho1.mono fun _ _ h => h.elim), HIA.out.grew⟩
        have hr1 := (ho1.block _ (Array.getElem?_eq_some_iff.1 HRA.out).1 (fun h => h)).trans HRA.out
        obtain ⟨ga1, hga1⟩ : ∃ q, q = Df.lsg n1 := ⟨_, rfl⟩
        obtain ⟨gb1, hgb1⟩ : ∃ q, q = Df.fsg n2 := ⟨_, rfl⟩
        rw [← hga1, ← hgb1] at HEV HNX
        rw [← hga1]
        have HC1 := Lib.hid (HH.out.sign _ _ _ ga1.s hi1.i (by have := HDL.out; omega) (HEV.out _ (by simp [evs])))
        have HI1 := Lib.hid hi1
        have HR1 := Lib.hid hr1
        have HGB := Lib.hid hgb1
        clear hi1 hr1 ho1 HIA HL HRA hga1 hgb1 x0 x1 x2
        go_wp2_with fail
        refine HC1.out.mono ?_
        rintro e w2 ⟨rfl, ho2, O2, h2, hg2⟩
        have hi2 := HI1.out.next ho2 h2 hg2
        have hr2 := (ho2.block _ (Array.getElem?_eq_some_iff.1 HR1.out).1 HON.out).trans HR1.out
        have hn2 : ¬ O2 wr.heap.size := fun h => by
          rcases hg2 _ h with h | h
          · exact HON.out h
          · have := (Array.getElem?_eq_some_iff.1 HR1.out).1; omega
        have HC2 := Lib.hid (HH.out.more _ _ _ ga1.x ga1.m hi2.i (by have := HDL.out; simp; omega) (HEV.out _ (by simp [evs])))
        have HI2 := Lib.hid hi2
        have HR2 := Lib.hid hr2
        have HN2 := Lib.hid hn2
        clear hi2 hr2 ho2 h2 hg2 hn2 HC1 HI1 HR1
        go_wp2_with fail
        refine HC2.out.mono ?_
        rintro e w3 ⟨rfl, ho3, O3, h3, hg3⟩
        have hi3 := HI2.out.next ho3 h3 hg3
        have hr3 := (ho3.block _ (Array.getElem?_eq_some_iff.1 HR2.out).1 HN2.out).trans HR2.out
        have x1 := cell_of_row _ _ 1 _ _ _ hr3
        have HF := Lib.hid (Far_walk w3 n2 (HH.out.lo _ _ _ hi3.i).2 HB.out.1 HB.out.2)
        rw [← HGB.out] at HF
        have HI3 := Lib.hid hi3
        clear hi3 hr3 ho3 h3 hg3 HC2 HI2 HR2
        go_wp2_with fail
        refine HF.out.mono ?_
        rintro e w4 ⟨rfl, ho4⟩
        have hi4 : Told I w O0 _ O3 w4 := ⟨HH.out.stay _ _ _ _ HI3.out.i ho4, HI3.out.only.trans (ho4.mono fun _ _ h => h.elim), HI3.out.grew⟩
        have HC3 := Lib.hid (HH.out.dist _ _ _ gb1.s hi4.i (by have := HDL.out; simp; omega) (HEV.out _ (by simp [evs])))
        have HI4 := Lib.hid hi4
        clear hi4 ho4 HI3 HF x1
        go_wp2_with fail
        refine HC3.out.mono ?_
        rintro e w5 ⟨rfl, ho5, O5, h5, hg5⟩
        have hi5 := HI4.out.next ho5 h5 hg5
        have HC4 := Lib.hid (HH.out.more _ _ _ gb1.x gb1.m hi5.i (by have := HDL.out; simp; omega) (HEV.out _ (by simp [evs])))
        have HI5 := Lib.hid hi5
        clear hi5 ho5 h5 hg5 HI4 HC3
        go_wp2_with fail
        refine HC4.out.mono ?_
        rintro e w6 ⟨rfl, ho6, O6, h6, hg6⟩
        have hi6 := HI5.out.next ho6 h6 hg6
        have HI6 : Hid (Told I w O0 (((l.take (i + 1)).map Df.tok).flatMap evs) O6 w6) := Lib.hid (by
          rw [HNX.out]
          have e : D ++ [Ev.sign ga1.s] ++ [Ev.more ga1.x ga1.m] ++ [Ev.dist gb1.s] ++ [Ev.more gb1.x gb1.m] = D ++ evs (.cpy n1 n2 ga1 gb1) := by simp [evs]
          rw [← e]
          exact hi6)
        clear hi6 ho6 h6 hg6 HI5 HC4
        go_wp2_with fail
        exact ⟨⟨i + 1, by omega, by go_num, O6, HI6.out⟩, by simp [intOf]; omega⟩
    · obtain rfl : i = n := by omega
      have hta : l.take i = l := List.take_of_length_le (by rw [← HN.out]; exact Nat.le_refl _)
      rw [hta] at hI
      have HC := Lib.hid (HH.out.sign _ _ _ 256 hI.i (flat_len l) HE2.out)
      have HI := Lib.hid hI
      clear hI hta
      go_wp2_with fail
      refine HC.out.mono ?_
      rintro e w1 ⟨rfl, ho1, O1, h1, hg1⟩
      have H1 := Lib.hid (HI.out.next ho1 h1 hg1)
      clear h1 HC ho1 hg1
      go_wp2_with fail
      go_end0
      exact ⟨rfl, O1, H1.out⟩
end Go.Proofs.YtphdcgioeokfbaaDoor
