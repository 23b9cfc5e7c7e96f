/-
  Records in memory: two cells each; readRecord.
-/
import Derived.Test.YtjgphicmkmdeiaaDoorPe
namespace Go.Proofs.YtjgphicmkmdeiaaDoor
open Go.RowKit Go.Maps

theorem results_cell_tmp {P : Program} {fn : Func} {p q : Tmp} {ty : TypeId} (h : fn.results = #[.cell p ty, .tmp q]) (tmps : Array Value) (w : World) (g : Nat) (t : TypeId) (cs : Array Value) (fr : Nat × Nat) (d : TypeDesc) (x : Value)
    (hp : tmps.getD p undef = .pointer (some ⟨g, 0, none⟩)) (hq : tmps.getD q undef = x) (hg : w.heap[g]? = some (.cells cs t fr))
    (hu : P.underlying ty = some d) (hd : (match d with | .struct _ | .array _ _ => true | _ => false) = true) (hi : (P.info? ty).map (·.size) = some cs.size) :
    (results fn tmps).run P w = .ok (.tuple #[.agg cs, x]) w := by
  have hp' : tmps[p]?.getD undef = .pointer (some ⟨g, 0, none⟩) := by simpa using hp
  have hq' : tmps[q]?.getD undef = x := by simpa using hq
  simp [results, h, hp', hq', asAddr, run_loadVar_row w g t ty cs fr d hg hu hd hi]
theorem set2 {w : World} {g : Nat} {x0 x1 y0 y1 : Value} {t : TypeId} (h : w.heap[g]? = some (.cells #[x0, x1] t (0, 0))) :
    ((w.setCell ⟨g, 0, none⟩ y0).setCell ⟨g, 1, none⟩ y1).heap[g]? = some (.cells #[y0, y1] t (0, 0)) := by
  have h1 := heap_setCell_same w g 0 _ _ y0 h
  have h2 := heap_setCell_same _ g 1 _ _ y1 h1
  exact h2
theorem row2 {w : World} {g : Nat} {x0 x1 : Value} {t : TypeId} (h : w.heap[g]? = some (.cells #[x0, x1] t (0, 0))) :
    w.cell? ⟨g, 0, none⟩ = some x0 ∧ w.cell? ⟨g, 1, none⟩ = some x1 ∧ w.frozen? ⟨g, 0, none⟩ = false ∧ w.frozen? ⟨g, 1, none⟩ = false :=
  ⟨by rw [cell_of_row _ _ _ _ _ _ h]; rfl, by rw [cell_of_row _ _ _ _ _ _ h]; rfl, frozen_of_row _ _ _ _ _ h, frozen_of_row _ _ _ _ _ h⟩
theorem below2 {B : Nat} {a w : World} (h : Below B a w) {g : Nat} (hg : B ≤ g) (y0 y1 : Value) : Below B a ((w.setCell ⟨g, 0, none⟩ y0).setCell ⟨g, 1, none⟩ y1) :=
  (h.setCell hg _).setCell hg _
theorem other2 {w : World} {g j : Nat} (hj : j ≠ g) (y0 y1 : Value) : ((w.setCell ⟨g, 0, none⟩ y0).setCell ⟨g, 1, none⟩ y1).heap[j]? = w.heap[j]? := by
  rw [heap_setCell_other _ _ _ _ hj, heap_setCell_other _ _ _ _ hj]
/-- A block of one record. -/
def RecB (w : World) (g : Nat) (r : Px.Rec) : Prop := w.heap[g]? = some (.cells #[.string ⟨r.1.toArray⟩, .string ⟨r.2.toArray⟩] 37 (0, 0))
theorem info37 : (Tryd.prog.info? 37).map (fun i => (i.zero, i.size, i.bytes)) = some (some (.agg #[.string ⟨#[]⟩, .string ⟨#[]⟩]), 2, 32) := by kernel_rfl
/-- readRecord's answer. -/
def rrV : Except Nat Px.Rec → Value
  | .error e => .tuple #[.agg #[.string ⟨#[]⟩, .string ⟨#[]⟩], .int .i64 (e : Int)]
  | .ok r => .tuple #[.agg #[.string ⟨r.1.toArray⟩, .string ⟨r.2.toArray⟩], .int .i64 0]
theorem min_ext (s : ByteArray) (l : List UInt8) (hl : s.data.toList = l) (e : Nat) : s.extract 0 (min (e : Int) (s.size : Int)).toNat = ⟨(l.take e).toArray⟩ := by
  have hsz : s.size = l.length := by rw [← hl]; exact Lib.size_eq s
  rw [ext_take s l hl, hsz]
  congr 2
  rcases Nat.le_total e l.length with h | h
  · rw [show (min (e : Int) (l.length : Int)).toNat = e by omega]
  · rw [show (min (e : Int) (l.length : Int)).toNat = l.length by omega, List.take_of_length_le (Nat.le_refl _), List.take_of_length_le h]
set_option maxRecDepth 100000 in
set_option maxHeartbeats 2000000 in
theorem rdRec_walk (s : ByteArray) (l : List UInt8) (hl : s.data.toList = l) (hm : l.length ≤ 1099511627776) (m : Nat) (h1 : 1 ≤ m) (h2 : m ≤ 1099511627776) (w : World) : Calls Tryd.prog 33 #[.string s, .int .i64 (m : Int)] w fun e w' =>
    e = .returned (rrV (Px.rdRec l m)) ∧ Below w.heap.size w w' := by
  obtain ⟨n, rfl⟩ : ∃ n, m = n + 1 := ⟨m - 1, by omega⟩
  have hsz : s.size = l.length := by rw [← hl]; exact Lib.size_eq s
  have hex := min_ext s l hl n
  have hE : Px.rdRec l (n + 1) = if Px.begun (Px.cut 61 (l.take n)).1 (Px.cut 61 (l.take n)).2.2 n = false then .error 5
    else if l.length < n + 1 then .error 4 else if l.getD n 0 ≠ 10 then .error 5 else .ok ((Px.cut 61 (l.take n)).1, (Px.cut 61 (l.take n)).2.1) := rfl
  rw [hE]
  clear hE
  have hlt : (l.take n).length ≤ 1099511627776 := by rw [List.length_take]; omega
  obtain ⟨bx, hbx⟩ : ∃ b, (⟨(l.take n).toArray⟩ : ByteArray) = b := ⟨_, rfl⟩
  have HC : Hid (∀ w, Calls Tryd.prog 39 #[.string bx, .string ⟨#[61]⟩] w _) := Lib.hid (fun w => scut_walk bx (l.take n) (by rw [← hbx]) hlt 61 w)
  rw [hbx] at hex
  clear hbx
  have hn1 : ((n + 1 : Nat) : Int) - 1 = (n : Int) := by omega
  have hnI : (n : Int) ≤ 1099511627775 := by omega
  have hmn : (0 : Int) ≤ min (n : Int) (s.size : Int) ∧ min (n : Int) (s.size : Int) ≤ (s.size : Int) := by omega
  have hix : ¬ l.length < n + 1 → ∀ w, (Instr.index 9 (.string s) (.int .i64 (n : Int))).run Tryd.prog w = .ok (.int .u8 (bi (l.getD n 0))) w := fun h w => by
    rw [run_index_string (P := Tryd.prog) (w := w) 9 s .i64 (n : Int) Tryd.underlying9, dif_pos (by omega)]
    have hk : n < l.length := by omega
    have e : s[(n : Int).toNat]'(by omega) = l.getD n 0 := by
      have h9 := Lib.data_getElem? s n (by omega)
      rw [hl] at h9
      rw [List.getD_eq_getElem?_getD, h9]
      rfl
    rw [e]; rfl
  generalize Px.cut 61 (l.take n) = R at *
  obtain ⟨K, V, F⟩ := R
  simp only at HC ⊢
  obtain ⟨bk, hbk⟩ : ∃ b, (⟨K.toArray⟩ : ByteArray) = b := ⟨_, rfl⟩
  obtain ⟨bv, hbv⟩ : ∃ b, (⟨V.toArray⟩ : ByteArray) = b := ⟨_, rfl⟩
  have hKs : (bk.size : Int) = (K.length : Int) := by rw [← hbk]; simp [ByteArray.size]
  have HK : Hid (∀ w, Calls Tryd.prog 28 #[.string bk] w _) := Lib.hid (fun w => isKey_walk K bk (by rw [← hbk]) w)
  have hKe : (bk.toList == []) = K.isEmpty := by rw [Lib.toList_data, ← hbk]; show (K == []) = _; cases K <;> rfl
  have here1 : ∀ {w1 : World}, Below (w.alloc (.cells #[.string ⟨#[]⟩, .string ⟨#[]⟩] 37)).heap.size (w.alloc (.cells #[.string ⟨#[]⟩, .string ⟨#[]⟩] 37)) w1 → w1.heap[w.heap.size]? = some (.cells #[.string ⟨#[]⟩, .string ⟨#[]⟩] 37 (0, 0)) := fun hb => (hb.block _ (by rw [World.size_alloc]; omega)).trans (heap_alloc_new w _)
  rw [hbk, hbv] at HC
  have HSZ := Lib.hid hsz
  clear hl hm hlt hsz
  unfold Px.begun
  generalize Px.okK K = G at *
  cases F
  · by_cases h5 : K.length < n
    · have h5I : decide ((bk.size : Int) < (n : Int)) = true := decide_eq_true (by omega)
      have h5N : decide (bk.size < n) = true := decide_eq_true (by omega)
      rw [decide_eq_true h5]
      clear h5 hKs
      cases hE : K.isEmpty
      · rw [hE] at hKe
        clear hE
        cases G
        · rw [if_pos (by rfl)]
          clear hix
          show Calls _ _ _ _ fun e w' => e = .returned (.tuple #[.agg #[.string ⟨#[]⟩, .string ⟨#[]⟩], .int .i64 5]) ∧ _
          clear hbv hbk
          go_enter Tryd.func33, Tryd.ntmps33
          go_wp2_with (first
            | ((with_reducible refine (HC.out _).mono ?_); rintro e w1 ⟨rfl, hb⟩; have HH1 : Hid (w1.heap[w.heap.size]? = _) := Lib.hid (here1 hb); have HB1 : Hid (Below w.heap.size w w1) := Lib.hid (((Below.refl _ _).alloc (Nat.le_refl _) _).trans (hb.mono (by rw [World.size_alloc]; omega))); obtain ⟨c0, c1, f0, f1⟩ := row2 HH1.out; clear hb)
            | ((with_reducible refine (HK.out _).mono ?_); rintro e w2 ⟨rfl, hb⟩; have HH2 : Hid (w2.heap[w.heap.size]? = _) := Lib.hid ((hb.block _ (Array.getElem?_eq_some_iff.1 HH1.out).1).trans HH1.out); have HB2 : Hid (Below w.heap.size w w2) := Lib.hid (HB1.out.trans (hb.mono HB1.out.size)); clear c0 c1 f0 f1; obtain ⟨c0, c1, f0, f1⟩ := row2 HH2.out; clear hb))
          refine bodyPost_ret (results_cell_tmp (p := 4) (q := 5) (ty := 37) rfl _ _ w.heap.size 37 _ (0, 0) _ _ rfl rfl (set2 HH2.out) Tryd.underlying37 rfl (by kernel_rfl)) rfl ⟨rfl, below2 HB2.out (Nat.le_refl _) _ _⟩
        · skip
          rw [if_neg (by simp)]
          by_cases h3 : l.length < n + 1
          · rw [if_pos h3]
            have hd1 : decide ((s.size : Int) < (n : Int) + 1) = true := decide_eq_true (by have := HSZ.out; omega)
            have hd2 : decide (s.size < n + 1) = true := decide_eq_true (by have := HSZ.out; omega)
            clear h3 hix
            show Calls _ _ _ _ fun e w' => e = .returned (.tuple #[.agg #[.string ⟨#[]⟩, .string ⟨#[]⟩], .int .i64 4]) ∧ _
            clear hbv hbk
            go_enter Tryd.func33, Tryd.ntmps33
            go_wp2_with (first
              | ((with_reducible refine (HC.out _).mono ?_); rintro e w1 ⟨rfl, hb⟩; have HH1 : Hid (w1.heap[w.heap.size]? = _) := Lib.hid (here1 hb); have HB1 : Hid (Below w.heap.size w w1) := Lib.hid (((Below.refl _ _).alloc (Nat.le_refl _) _).trans (hb.mono (by rw [World.size_alloc]; omega))); obtain ⟨c0, c1, f0, f1⟩ := row2 HH1.out; clear hb)
              | ((with_reducible refine (HK.out _).mono ?_); rintro e w2 ⟨rfl, hb⟩; have HH2 : Hid (w2.heap[w.heap.size]? = _) := Lib.hid ((hb.block _ (Array.getElem?_eq_some_iff.1 HH1.out).1).trans HH1.out); have HB2 : Hid (Below w.heap.size w w2) := Lib.hid (HB1.out.trans (hb.mono HB1.out.size)); clear c0 c1 f0 f1; obtain ⟨c0, c1, f0, f1⟩ := row2 HH2.out; clear hb))
            refine bodyPost_ret (results_cell_tmp (p := 4) (q := 5) (ty := 37) rfl _ _ w.heap.size 37 _ (0, 0) _ _ rfl rfl (set2 HH2.out) Tryd.underlying37 rfl (by kernel_rfl)) rfl ⟨rfl, below2 HB2.out (Nat.le_refl _) _ _⟩
          · rw [if_neg h3]
            have hd1 : decide ((s.size : Int) < (n : Int) + 1) = false := decide_eq_false (by have := HSZ.out; omega)
            have hd2 : decide (s.size < n + 1) = false := decide_eq_false (by have := HSZ.out; omega)
            have hi := hix h3
            have hnl : (n : Int) < (s.size : Int) := by have := HSZ.out; omega
            clear h3 hix
            generalize l.getD n 0 = x at *
            by_cases h4 : x = 10
            · subst h4
              rw [if_neg (by simp)]
              have h10 : (bi 10 == 10) = true := by decide
              show Calls _ _ _ _ fun e w' => e = .returned (.tuple #[.agg #[.string ⟨K.toArray⟩, .string ⟨V.toArray⟩], .int .i64 0]) ∧ _
              rw [hbk, hbv]
              clear hbv hbk
              go_enter Tryd.func33, Tryd.ntmps33
              go_wp2_with (first
                | ((with_reducible refine (HC.out _).mono ?_); rintro e w1 ⟨rfl, hb⟩; have HH1 : Hid (w1.heap[w.heap.size]? = _) := Lib.hid (here1 hb); have HB1 : Hid (Below w.heap.size w w1) := Lib.hid (((Below.refl _ _).alloc (Nat.le_refl _) _).trans (hb.mono (by rw [World.size_alloc]; omega))); obtain ⟨c0, c1, f0, f1⟩ := row2 HH1.out; clear hb)
                | ((with_reducible refine (HK.out _).mono ?_); rintro e w2 ⟨rfl, hb⟩; have HH2 : Hid (w2.heap[w.heap.size]? = _) := Lib.hid ((hb.block _ (Array.getElem?_eq_some_iff.1 HH1.out).1).trans HH1.out); have HB2 : Hid (Below w.heap.size w w2) := Lib.hid (HB1.out.trans (hb.mono HB1.out.size)); clear c0 c1 f0 f1; obtain ⟨c0, c1, f0, f1⟩ := row2 HH2.out; clear hb))
              refine bodyPost_ret (results_cell_tmp (p := 4) (q := 5) (ty := 37) rfl _ _ w.heap.size 37 _ (0, 0) _ _ rfl rfl (set2 HH2.out) Tryd.underlying37 rfl (by kernel_rfl)) rfl ⟨rfl, below2 HB2.out (Nat.le_refl _) _ _⟩
            · rw [if_pos h4]
              have h10 : (bi x == 10) = false := by rw [beq_eq_false_iff_ne]; intro h; exact h4 (bi_inj.1 (h.trans (by decide)))
              clear h4
              show Calls _ _ _ _ fun e w' => e = .returned (.tuple #[.agg #[.string ⟨#[]⟩, .string ⟨#[]⟩], .int .i64 5]) ∧ _
              clear hbv hbk
              go_enter Tryd.func33, Tryd.ntmps33
              go_wp2_with (first
                | ((with_reducible refine (HC.out _).mono ?_); rintro e w1 ⟨rfl, hb⟩; have HH1 : Hid (w1.heap[w.heap.size]? = _) := Lib.hid (here1 hb); have HB1 : Hid (Below w.heap.size w w1) := Lib.hid (((Below.refl _ _).alloc (Nat.le_refl _) _).trans (hb.mono (by rw [World.size_alloc]; omega))); obtain ⟨c0, c1, f0, f1⟩ := row2 HH1.out; clear hb)
                | ((with_reducible refine (HK.out _).mono ?_); rintro e w2 ⟨rfl, hb⟩; have HH2 : Hid (w2.heap[w.heap.size]? = _) := Lib.hid ((hb.block _ (Array.getElem?_eq_some_iff.1 HH1.out).1).trans HH1.out); have HB2 : Hid (Below w.heap.size w w2) := Lib.hid (HB1.out.trans (hb.mono HB1.out.size)); clear c0 c1 f0 f1; obtain ⟨c0, c1, f0, f1⟩ := row2 HH2.out; clear hb))
              refine bodyPost_ret (results_cell_tmp (p := 4) (q := 5) (ty := 37) rfl _ _ w.heap.size 37 _ (0, 0) _ _ rfl rfl (set2 HH2.out) Tryd.underlying37 rfl (by kernel_rfl)) rfl ⟨rfl, below2 HB2.out (Nat.le_refl _) _ _⟩
      · rw [hE] at hKe
        clear hE HK
        rw [if_neg (by simp)]
        by_cases h3 : l.length < n + 1
        · rw [if_pos h3]
          have hd1 : decide ((s.size : Int) < (n : Int) + 1) = true := decide_eq_true (by have := HSZ.out; omega)
          have hd2 : decide (s.size < n + 1) = true := decide_eq_true (by have := HSZ.out; omega)
          clear h3 hix
          show Calls _ _ _ _ fun e w' => e = .returned (.tuple #[.agg #[.string ⟨#[]⟩, .string ⟨#[]⟩], .int .i64 4]) ∧ _
          clear hbv hbk
          go_enter Tryd.func33, Tryd.ntmps33
          go_wp2_with (first
            | ((with_reducible refine (HC.out _).mono ?_); rintro e w1 ⟨rfl, hb⟩; have HH1 : Hid (w1.heap[w.heap.size]? = _) := Lib.hid (here1 hb); have HB1 : Hid (Below w.heap.size w w1) := Lib.hid (((Below.refl _ _).alloc (Nat.le_refl _) _).trans (hb.mono (by rw [World.size_alloc]; omega))); obtain ⟨c0, c1, f0, f1⟩ := row2 HH1.out; clear hb))
          refine bodyPost_ret (results_cell_tmp (p := 4) (q := 5) (ty := 37) rfl _ _ w.heap.size 37 _ (0, 0) _ _ rfl rfl (set2 HH1.out) Tryd.underlying37 rfl (by kernel_rfl)) rfl ⟨rfl, below2 HB1.out (Nat.le_refl _) _ _⟩
        · rw [if_neg h3]
          have hd1 : decide ((s.size : Int) < (n : Int) + 1) = false := decide_eq_false (by have := HSZ.out; omega)
          have hd2 : decide (s.size < n + 1) = false := decide_eq_false (by have := HSZ.out; omega)
          have hi := hix h3
          have hnl : (n : Int) < (s.size : Int) := by have := HSZ.out; omega
          clear h3 hix
          generalize l.getD n 0 = x at *
          by_cases h4 : x = 10
          · subst h4
            rw [if_neg (by simp)]
            have h10 : (bi 10 == 10) = true := by decide
            show Calls _ _ _ _ fun e w' => e = .returned (.tuple #[.agg #[.string ⟨K.toArray⟩, .string ⟨V.toArray⟩], .int .i64 0]) ∧ _
            rw [hbk, hbv]
            clear hbv hbk
            go_enter Tryd.func33, Tryd.ntmps33
            go_wp2_with (first
              | ((with_reducible refine (HC.out _).mono ?_); rintro e w1 ⟨rfl, hb⟩; have HH1 : Hid (w1.heap[w.heap.size]? = _) := Lib.hid (here1 hb); have HB1 : Hid (Below w.heap.size w w1) := Lib.hid (((Below.refl _ _).alloc (Nat.le_refl _) _).trans (hb.mono (by rw [World.size_alloc]; omega))); obtain ⟨c0, c1, f0, f1⟩ := row2 HH1.out; clear hb))
            refine bodyPost_ret (results_cell_tmp (p := 4) (q := 5) (ty := 37) rfl _ _ w.heap.size 37 _ (0, 0) _ _ rfl rfl (set2 HH1.out) Tryd.underlying37 rfl (by kernel_rfl)) rfl ⟨rfl, below2 HB1.out (Nat.le_refl _) _ _⟩
          · rw [if_pos h4]
            have h10 : (bi x == 10) = false := by rw [beq_eq_false_iff_ne]; intro h; exact h4 (bi_inj.1 (h.trans (by decide)))
            clear h4
            show Calls _ _ _ _ fun e w' => e = .returned (.tuple #[.agg #[.string ⟨#[]⟩, .string ⟨#[]⟩], .int .i64 5]) ∧ _
            clear hbv hbk
            go_enter Tryd.func33, Tryd.ntmps33
            go_wp2_with (first
              | ((with_reducible refine (HC.out _).mono ?_); rintro e w1 ⟨rfl, hb⟩; have HH1 : Hid (w1.heap[w.heap.size]? = _) := Lib.hid (here1 hb); have HB1 : Hid (Below w.heap.size w w1) := Lib.hid (((Below.refl _ _).alloc (Nat.le_refl _) _).trans (hb.mono (by rw [World.size_alloc]; omega))); obtain ⟨c0, c1, f0, f1⟩ := row2 HH1.out; clear hb))
            refine bodyPost_ret (results_cell_tmp (p := 4) (q := 5) (ty := 37) rfl _ _ w.heap.size 37 _ (0, 0) _ _ rfl rfl (set2 HH1.out) Tryd.underlying37 rfl (by kernel_rfl)) rfl ⟨rfl, below2 HB1.out (Nat.le_refl _) _ _⟩
    · have h5I : decide ((bk.size : Int) < (n : Int)) = false := decide_eq_false (by omega)
      have h5N : decide (bk.size < n) = false := decide_eq_false (by omega)
      rw [decide_eq_false h5, if_pos (by rfl)]
      clear h5 hKs HK hix
      show Calls _ _ _ _ fun e w' => e = .returned (.tuple #[.agg #[.string ⟨#[]⟩, .string ⟨#[]⟩], .int .i64 5]) ∧ _
      clear hbv hbk
      go_enter Tryd.func33, Tryd.ntmps33
      go_wp2_with (first
        | ((with_reducible refine (HC.out _).mono ?_); rintro e w1 ⟨rfl, hb⟩; have HH1 : Hid (w1.heap[w.heap.size]? = _) := Lib.hid (here1 hb); have HB1 : Hid (Below w.heap.size w w1) := Lib.hid (((Below.refl _ _).alloc (Nat.le_refl _) _).trans (hb.mono (by rw [World.size_alloc]; omega))); obtain ⟨c0, c1, f0, f1⟩ := row2 HH1.out; clear hb))
      refine bodyPost_ret (results_cell_tmp (p := 4) (q := 5) (ty := 37) rfl _ _ w.heap.size 37 _ (0, 0) _ _ rfl rfl (set2 HH1.out) Tryd.underlying37 rfl (by kernel_rfl)) rfl ⟨rfl, below2 HB1.out (Nat.le_refl _) _ _⟩
  · clear hKs hKe
    cases G
    · rw [if_pos (by rfl)]
      clear hix
      show Calls _ _ _ _ fun e w' => e = .returned (.tuple #[.agg #[.string ⟨#[]⟩, .string ⟨#[]⟩], .int .i64 5]) ∧ _
      clear hbv hbk
      go_enter Tryd.func33, Tryd.ntmps33
      go_wp2_with (first
        | ((with_reducible refine (HC.out _).mono ?_); rintro e w1 ⟨rfl, hb⟩; have HH1 : Hid (w1.heap[w.heap.size]? = _) := Lib.hid (here1 hb); have HB1 : Hid (Below w.heap.size w w1) := Lib.hid (((Below.refl _ _).alloc (Nat.le_refl _) _).trans (hb.mono (by rw [World.size_alloc]; omega))); obtain ⟨c0, c1, f0, f1⟩ := row2 HH1.out; clear hb)
        | ((with_reducible refine (HK.out _).mono ?_); rintro e w2 ⟨rfl, hb⟩; have HH2 : Hid (w2.heap[w.heap.size]? = _) := Lib.hid ((hb.block _ (Array.getElem?_eq_some_iff.1 HH1.out).1).trans HH1.out); have HB2 : Hid (Below w.heap.size w w2) := Lib.hid (HB1.out.trans (hb.mono HB1.out.size)); clear c0 c1 f0 f1; obtain ⟨c0, c1, f0, f1⟩ := row2 HH2.out; clear hb))
      refine bodyPost_ret (results_cell_tmp (p := 4) (q := 5) (ty := 37) rfl _ _ w.heap.size 37 _ (0, 0) _ _ rfl rfl (set2 HH2.out) Tryd.underlying37 rfl (by kernel_rfl)) rfl ⟨rfl, below2 HB2.out (Nat.le_refl _) _ _⟩
    · skip
      rw [if_neg (by simp)]
      by_cases h3 : l.length < n + 1
      · rw [if_pos h3]
        have hd1 : decide ((s.size : Int) < (n : Int) + 1) = true := decide_eq_true (by have := HSZ.out; omega)
        have hd2 : decide (s.size < n + 1) = true := decide_eq_true (by have := HSZ.out; omega)
        clear h3 hix
        show Calls _ _ _ _ fun e w' => e = .returned (.tuple #[.agg #[.string ⟨#[]⟩, .string ⟨#[]⟩], .int .i64 4]) ∧ _
        clear hbv hbk
        go_enter Tryd.func33, Tryd.ntmps33
        go_wp2_with (first
          | ((with_reducible refine (HC.out _).mono ?_); rintro e w1 ⟨rfl, hb⟩; have HH1 : Hid (w1.heap[w.heap.size]? = _) := Lib.hid (here1 hb); have HB1 : Hid (Below w.heap.size w w1) := Lib.hid (((Below.refl _ _).alloc (Nat.le_refl _) _).trans (hb.mono (by rw [World.size_alloc]; omega))); obtain ⟨c0, c1, f0, f1⟩ := row2 HH1.out; clear hb)
          | ((with_reducible refine (HK.out _).mono ?_); rintro e w2 ⟨rfl, hb⟩; have HH2 : Hid (w2.heap[w.heap.size]? = _) := Lib.hid ((hb.block _ (Array.getElem?_eq_some_iff.1 HH1.out).1).trans HH1.out); have HB2 : Hid (Below w.heap.size w w2) := Lib.hid (HB1.out.trans (hb.mono HB1.out.size)); clear c0 c1 f0 f1; obtain ⟨c0, c1, f0, f1⟩ := row2 HH2.out; clear hb))
        refine bodyPost_ret (results_cell_tmp (p := 4) (q := 5) (ty := 37) rfl _ _ w.heap.size 37 _ (0, 0) _ _ rfl rfl (set2 HH2.out) Tryd.underlying37 rfl (by kernel_rfl)) rfl ⟨rfl, below2 HB2.out (Nat.le_refl _) _ _⟩
      · rw [if_neg h3]
        have hd1 : decide ((s.size : Int) < (n : Int) + 1) = false := decide_eq_false (by have := HSZ.out; omega)
        have hd2 : decide (s.size < n + 1) = false := decide_eq_false (by have := HSZ.out; omega)
        have hi := hix h3
        have hnl : (n : Int) < (s.size : Int) := by have := HSZ.out; omega
        clear h3 hix
        generalize l.getD n 0 = x at *
        by_cases h4 : x = 10
        · subst h4
          rw [if_neg (by simp)]
          have h10 : (bi 10 == 10) = true := by decide
          show Calls _ _ _ _ fun e w' => e = .returned (.tuple #[.agg #[.string ⟨K.toArray⟩, .string ⟨V.toArray⟩], .int .i64 0]) ∧ _
          rw [hbk, hbv]
          clear hbv hbk
          go_enter Tryd.func33, Tryd.ntmps33
          go_wp2_with (first
            | ((with_reducible refine (HC.out _).mono ?_); rintro e w1 ⟨rfl, hb⟩; have HH1 : Hid (w1.heap[w.heap.size]? = _) := Lib.hid (here1 hb); have HB1 : Hid (Below w.heap.size w w1) := Lib.hid (((Below.refl _ _).alloc (Nat.le_refl _) _).trans (hb.mono (by rw [World.size_alloc]; omega))); obtain ⟨c0, c1, f0, f1⟩ := row2 HH1.out; clear hb)
            | ((with_reducible refine (HK.out _).mono ?_); rintro e w2 ⟨rfl, hb⟩; have HH2 : Hid (w2.heap[w.heap.size]? = _) := Lib.hid ((hb.block _ (Array.getElem?_eq_some_iff.1 HH1.out).1).trans HH1.out); have HB2 : Hid (Below w.heap.size w w2) := Lib.hid (HB1.out.trans (hb.mono HB1.out.size)); clear c0 c1 f0 f1; obtain ⟨c0, c1, f0, f1⟩ := row2 HH2.out; clear hb))
          refine bodyPost_ret (results_cell_tmp (p := 4) (q := 5) (ty := 37) rfl _ _ w.heap.size 37 _ (0, 0) _ _ rfl rfl (set2 HH2.out) Tryd.underlying37 rfl (by kernel_rfl)) rfl ⟨rfl, below2 HB2.out (Nat.le_refl _) _ _⟩
        · rw [if_pos h4]
          have h10 : (bi x == 10) = false := by rw [beq_eq_false_iff_ne]; intro h; exact h4 (bi_inj.1 (h.trans (by decide)))
          clear h4
          show Calls _ _ _ _ fun e w' => e = .returned (.tuple #[.agg #[.string ⟨#[]⟩, .string ⟨#[]⟩], .int .i64 5]) ∧ _
          clear hbv hbk
          go_enter Tryd.func33, Tryd.ntmps33
          go_wp2_with (first
            | ((with_reducible refine (HC.out _).mono ?_); rintro e w1 ⟨rfl, hb⟩; have HH1 : Hid (w1.heap[w.heap.size]? = _) := Lib.hid (here1 hb); have HB1 : Hid (Below w.heap.size w w1) := Lib.hid (((Below.refl _ _).alloc (Nat.le_refl _) _).trans (hb.mono (by rw [World.size_alloc]; omega))); obtain ⟨c0, c1, f0, f1⟩ := row2 HH1.out; clear hb)
            | ((with_reducible refine (HK.out _).mono ?_); rintro e w2 ⟨rfl, hb⟩; have HH2 : Hid (w2.heap[w.heap.size]? = _) := Lib.hid ((hb.block _ (Array.getElem?_eq_some_iff.1 HH1.out).1).trans HH1.out); have HB2 : Hid (Below w.heap.size w w2) := Lib.hid (HB1.out.trans (hb.mono HB1.out.size)); clear c0 c1 f0 f1; obtain ⟨c0, c1, f0, f1⟩ := row2 HH2.out; clear hb))
          refine bodyPost_ret (results_cell_tmp (p := 4) (q := 5) (ty := 37) rfl _ _ w.heap.size 37 _ (0, 0) _ _ rfl rfl (set2 HH2.out) Tryd.underlying37 rfl (by kernel_rfl)) rfl ⟨rfl, below2 HB2.out (Nat.le_refl _) _ _⟩
end Go.Proofs.YtjgphicmkmdeiaaDoor
