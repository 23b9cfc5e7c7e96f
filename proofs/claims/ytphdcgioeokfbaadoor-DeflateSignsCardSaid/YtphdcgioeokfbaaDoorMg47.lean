/-
  Merged, in the order in which they build: Wbk Wbl.
-/
import Derived.Test.YtphdcgioeokfbaaDoorMg46
/-
  A block behind a writer, in the shortest way.
-/
namespace Go.Proofs.YtphdcgioeokfbaaDoor
open Go.RowKit Hf

theorem coded_bound {zs : List Int} (h : Coded zs) (i : Nat) : 0 ≤ zs.getD i 0 ∧ zs.getD i 0 ≤ 15 := by
  rcases Nat.lt_or_ge i zs.length with hi | hi
  · refine h.1.2 _ ?_
    rw [List.getD_eq_getElem?_getD, List.getElem?_eq_getElem hi]
    exact List.getElem_mem _
  · rw [List.getD_eq_getElem?_getD, List.getElem?_eq_none hi]
    decide
theorem cB_le : ∀ (ts : List Tok), (∀ t ∈ ts, Df.low t) → Df.cB ts ≤ 64 * ts.length
  | [], _ => Nat.le_refl _
  | t :: ts, h => by
    have h1 := cB_le ts (fun x hx => h x (by simp [hx]))
    have h2 : Df.bt1 t ≤ 64 := by
      have hl := h t (by simp)
      cases t with
      | lit b => exact Nat.zero_le _
      | cpy n d a b =>
        obtain ⟨ha, hb⟩ := hl
        have := Df.LSg.m_le ha
        have h3 := hb.1
        have h4 := hb.2.1
        show a.m + b.m ≤ 64
        omega
    have e : Df.cB (t :: ts) = Df.bt1 t + Df.cB ts := by simp [Df.cB]
    rw [e, List.length_cons]
    omega
theorem cS_bound (ts : List Tok) (i : Nat) : 0 ≤ (Df.cS ts).getD i 0 ∧ (Df.cS ts).getD i 0 ≤ (ts.length : Int) + 1 := by
  unfold Df.cS
  rcases Nat.lt_or_ge i 286 with h | h
  · have h2 := cnt_bound (Df.sgsL ts) 286 i (ts.length + 1) h (by simp [Df.sgsL])
    exact ⟨h2.1, by have := h2.2; omega⟩
  · rw [List.getD_eq_getElem?_getD, List.getElem?_eq_none (by rw [cnt_length]; exact h)]
    exact ⟨by decide, by show (0 : Int) ≤ _; omega⟩
theorem ds_len (ts : List Tok) : (Df.dssL ts).length ≤ ts.length := by
  unfold Df.dssL
  induction ts with
  | nil => exact Nat.le_refl _
  | cons t ts ih =>
    rw [List.flatMap_cons, List.length_append, List.length_cons]
    have : (Df.ds1 t).length ≤ 1 := by cases t <;> simp [Df.ds1]
    omega
theorem cD_bound (ts : List Tok) (i : Nat) : 0 ≤ (Df.cD ts).getD i 0 ∧ (Df.cD ts).getD i 0 ≤ (ts.length : Int) := by
  unfold Df.cD
  rcases Nat.lt_or_ge i 30 with h | h
  · have h2 := cnt_bound (Df.dssL ts) 30 i ts.length h (ds_len ts)
    exact h2
  · rw [List.getD_eq_getElem?_getD, List.getElem?_eq_none (by rw [cnt_length]; exact h)]
    exact ⟨by decide, by show (0 : Int) ≤ _; omega⟩
/-- A block that was counted, beside a writer. -/
structure BlkSt (w : World) (g gb G : Nat) (sv lv bv va vb vr vt : Value) (l : List Df.Z) (bs : List UInt8) : Prop where
  ct : CtAt w gb 59 lv (.int .i64 (bs.length : Int)) bv (.pointer (some ⟨G, 0, none⟩)) (Df.cS (l.map Df.tok)) (Df.cD (l.map Df.tok)) (Df.cB (l.map Df.tok))
  wd : WdSt w g gb sv lv l
  hd : HdSt w g G sv va vb vr vt (l.map Df.tok)
  hbv : SlV w bv (bl bs)
  bn : ∀ p m c, bv = .slice (some p) m c → 0 < m → ¬ wrX g sv p.block
  hlv : ∀ p n c, lv = .slice (some p) n c → 0 < n → p.block < w.heap.size
  ln : l.length ≤ 1000000
  hbl : bs.length ≤ 100000000
theorem head_facts {a b f : List Int} {c : Nat} {gs : List Sg} (h : HeadOk a b f c gs) : (∀ i, 0 ≤ f.getD i 0 ∧ f.getD i 0 ≤ 15) ∧ (∀ g ∈ gs, g.m ≤ 7) ∧ (∀ g ∈ gs, g.s < f.length) ∧ a.length ≤ 1024 ∧ b.length ≤ 1024 ∧ gs.length ≤ 1000 ∧ c ≤ 19 := by
  have hal := h.al
  have hbl := h.bl
  refine ⟨fun i => ?_, fun g hg => (okGs_xm gs [] h.ok g hg).2, fun g hg => ?_, by omega, by omega, ?_, h.c19⟩
  · have := h.f7 i; omega
  · rw [h.fl]; have := Df.okGs_s gs [] h.ok g hg; omega
  · have h1 := dec_le gs []
    rw [h.dec, List.length_append] at h1
    simp at h1; omega
set_option maxRecDepth 100000 in
set_option maxHeartbeats 200000 in
theorem BlkSt.shorts {w : World} {g gb G : Nat} {sv lv bv va vb vr vt : Value} {l : List Df.Z} {bs : List UInt8} (h : BlkSt w g gb G sv lv bv va vb vr vt l bs) (p : Nat) (hp : p ≤ 1000000000) :
    Calls Tryd.prog 31 #[.pointer (some ⟨gb, 0, none⟩), .int .i64 (p : Int)] w fun e w' => e = .returned (.int .i64 (Df.kindN p bs.length (l.map Df.tok) : Int)) ∧ OnlyS (fun _ => False) w w' := by
  have hlow : ∀ t ∈ l.map Df.tok, Df.low t := fun t ht => by obtain ⟨s, hs, rfl⟩ := List.mem_map.1 ht; exact Df.tok_low (h.wd.ok s hs)
  have hcb := cB_le (l.map Df.tok) hlow
  rw [List.length_map] at hcb
  have hln := h.ln
  have bS : ∀ i, 0 ≤ (Df.cS (l.map Df.tok)).getD i 0 ∧ (Df.cS (l.map Df.tok)).getD i 0 ≤ 4294967296 := fun i => by have := cS_bound (l.map Df.tok) i; rw [List.length_map] at this; omega
  have bD : ∀ i, 0 ≤ (Df.cD (l.map Df.tok)).getD i 0 ∧ (Df.cD (l.map Df.tok)).getD i 0 ≤ 4294967296 := fun i => by have := cD_bound (l.map Df.tok) i; rw [List.length_map] at this; omega
  obtain ⟨q3, q4, q5, q7, q8, hrl, q6⟩ := head_facts (Df.head_ok (l.map Df.tok))
  have f1 := cost_nonneg (Df.cS (l.map Df.tok)) Inf.fixS bS fixS_bound (by rw [h.ct.sl]; decide)
  have f2 := cost_nonneg (Df.cD (l.map Df.tok)) Inf.fixD bD fixD_bound (by rw [h.ct.dl]; decide)
  have q1 := coded_bound (zS_coded (l.map Df.tok))
  have q2 := coded_bound (zD_coded (l.map Df.tok))
  have hrow := h.hd.row
  have ha := h.hd.a
  have hb := h.hd.b
  have hr := h.hd.r
  have ht := h.hd.t
  have hct := h.ct
  have hfx : Df.fixN (l.map Df.tok) = 3 + (Df.cost (Df.cS (l.map Df.tok)) Inf.fixS + Df.cost (Df.cD (l.map Df.tok)) Inf.fixD + (Df.cB (l.map Df.tok) : Int)) := by unfold Df.fixN Df.wordN; rfl
  have hdy : Df.dynN (l.map Df.tok) = 3 + Df.headN (Df.fS (l.map Df.tok)) (Df.tS (l.map Df.tok)) (Df.gS (l.map Df.tok)) + (Df.cost (Df.cS (l.map Df.tok)) (Df.zS (l.map Df.tok)) + Df.cost (Df.cD (l.map Df.tok)) (Df.zD (l.map Df.tok)) + (Df.cB (l.map Df.tok) : Int)) := by unfold Df.dynN Df.wordN; rfl
  have hkn : (Df.kindN p bs.length (l.map Df.tok) : Int) = if bs.length ≤ 65535 ∧ Df.stoN p bs.length ≤ Df.fixN (l.map Df.tok) ∧ Df.stoN p bs.length ≤ Df.dynN (l.map Df.tok) then 0 else if Df.fixN (l.map Df.tok) ≤ Df.dynN (l.map Df.tok) then 1 else 2 := by
    unfold Df.kindN
    split
    · rfl
    · split <;> rfl
  rw [hkn, hfx, hdy]
  have hbl := h.hbl
  clear hkn hfx hdy hlow h
  generalize Df.zS (l.map Df.tok) = za at *
  generalize Df.zD (l.map Df.tok) = zb at *
  generalize Df.fS (l.map Df.tok) = zf at *
  generalize Df.gS (l.map Df.tok) = gs at *
  generalize Df.tS (l.map Df.tok) = told at *
  generalize Df.cS (l.map Df.tok) = S at *
  generalize Df.cD (l.map Df.tok) = D at *
  generalize Df.cB (l.map Df.tok) = b at *
  exact shortest_walk w gb p bs.length lv bv _ S D b _ _ hct (by omega) (by omega)
    (fun wx ho => fixedBits_walk wx gb _ _ _ _ S D b (hct.only ho) bS bD (by omega))
    (fun wx ho => dynamicBits_walk wx gb G _ _ _ va vb vr vt S D za zb zf gs told b (hct.only ho) ((ho.block G (Array.getElem?_eq_some_iff.1 hrow).1 (fun h => h)).trans hrow)
        (ha.only ho (fun _ _ _ _ _ h => h)) (hb.only ho (fun _ _ _ _ _ h => h)) (SlK.only hr ho (fun _ _ _ _ _ h => h)) (ht.only ho (fun _ _ _ _ _ h => h)) bS bD q1 q2 q7 q8 (by omega) q6 q3 q4 q5 hrl)
    (by omega)
end Go.Proofs.YtphdcgioeokfbaaDoor
/-
  write: a block behind a writer.
-/
namespace Go.Proofs.YtphdcgioeokfbaaDoor
open Go.RowKit Hf

theorem kind_cases (p n : Nat) (ts : List Tok) : (Df.kindN p n ts = 0 ∧ n ≤ 65535) ∨ Df.kindN p n ts = 1 ∨ Df.kindN p n ts = 2 := by
  unfold Df.kindN
  split
  · rename_i h; exact .inl ⟨rfl, h.1⟩
  · split
    · exact .inr (.inl rfl)
    · exact .inr (.inr rfl)
theorem CtAt.h_cells {w : World} {g : Nat} {T : TypeId} {h0 h1 h2 ov : Value} {S D : List Int} {b : Nat} (h : CtAt w g T h0 h1 h2 ov S D b) : w.cell? ⟨g, 0, none⟩ = some h0 ∧ w.cell? ⟨g, 1, none⟩ = some h1 ∧ w.cell? ⟨g, 2, none⟩ = some h2 ∧ w.cell? ⟨g, 320, none⟩ = some ov := by
  refine ⟨?_, ?_, ?_, ?_⟩
  · rw [cell_of_row _ _ _ _ _ _ h.row, List.getElem?_toArray]; rfl
  · rw [cell_of_row _ _ _ _ _ _ h.row, List.getElem?_toArray]; rfl
  · rw [cell_of_row _ _ _ _ _ _ h.row, List.getElem?_toArray]; rfl
  · have hs := h.sl
    have hd := h.dl
    rw [cell_of_row _ _ _ _ _ _ h.row, List.getElem?_toArray, List.getElem?_append_right (by simp), List.getElem?_append_right (by simp; omega), List.getElem?_append_right (by simp; omega)]
    rw [show 320 - [h0, h1, h2].length - (ni S).length - (ni D).length = 1 by simp; omega]
    rfl
theorem HdSt.go {w wx : World} {B g G : Nat} {sv sv' va vb vr vt : Value} {ts : List Tok} {L : List Bool} (h : HdSt w g G sv va vb vr vt ts) (k : WrGo w B g sv L wx sv') (hin : ∀ v, v = va ∨ v = vb ∨ v = vr ∨ v = vt → ∀ p n c, v = .slice (some p) n c → 0 < n → p.block < w.heap.size) (ho : 2 < w.heap.size) : HdSt wx g G sv' va vb vr vt ts :=
  have hG := (Array.getElem?_eq_some_iff.1 h.row).1
  ⟨(k.only.block G hG h.ng).trans h.row, k.off hG h.ng, h.a.only k.only (h.far va (.inl rfl)), h.b.only k.only (h.far vb (.inr (.inl rfl))), SlK.only h.r k.only (h.far vr (.inr (.inr (.inl rfl)))), h.t.only k.only (h.far vt (.inr (.inr (.inr rfl)))),
    fun v hv p n c e hn => k.off (hin v hv p n c e hn) (h.far v hv p n c e hn), fun i hi => k.cell (h.ord i hi) h.og, k.off ho h.og⟩
theorem slk_lt {w : World} {p : Addr} {n c : Nat} {gs : List Sg} (h : SlK 3 w (.slice (some p) n c) gs.length (rs gs)) (hn : 0 < n) : p.block < w.heap.size := by
  obtain ⟨_, ⟨g, o, cap, he, hcap, hrow3⟩ | ⟨q, he, hm0⟩⟩ := h
  · simp only [Value.slice.injEq] at he
    obtain ⟨he1, he2, rfl⟩ := he
    cases he1
    obtain ⟨r1, _, _⟩ := rs_at gs 0 (by omega)
    exact block_lt_of_cell (hrow3 _ _ r1)
  · simp only [Value.slice.injEq] at he
    omega
theorem HdSt.inn {w : World} {g G : Nat} {sv va vb vr vt : Value} {ts : List Tok} (h : HdSt w g G sv va vb vr vt ts) : ∀ v, v = va ∨ v = vb ∨ v = vr ∨ v = vt → ∀ p n c, v = .slice (some p) n c → 0 < n → p.block < w.heap.size := by
  intro v hv p n c e hn
  rcases hv with rfl | rfl | rfl | rfl <;> subst e
  · exact slv_lt h.a hn
  · exact slv_lt h.b hn
  · exact slk_lt h.r hn
  · exact slv_lt h.t hn
theorem wpList_storeF {w : World} {ops : Array Oper} {rest : List Oper} {o : Oper} {a : Act} {Q : Exit → Act → World → Prop} (hgd : o.guard = none) (ty : TypeId) (x y : Operand) (ho : o.op = .store ty x y)
    (g : Nat) (cells : Array Value) (hx : a.eval x = .pointer (some ⟨g, 0, none⟩)) (hy : a.eval y = .agg cells)
    (t : TypeId) (old : Array Value) (hg : w.heap[g]? = some (.cells old t (0, 0))) (hi : (Tryd.prog.info? ty).map (·.size) = some cells.size)
    (hold : old.size = cells.size) (h1 : cells.all (·.oneCell') = true)
    (h : ∀ w3, w3.heap[g]? = some (.cells cells t (0, 0)) → OnlyS (fun i => i = g) w w3 → wpList Tryd.prog ops Q rest (a.put o.dst undef) w3) : wpList Tryd.prog ops Q (o :: rest) a w :=
  wpList_store_row hgd ty x y ho g cells hx hy t old hg hi hold h1 (h _ (setRow_heap _ _ _ _ _ _ hg)
    ⟨rfl, rfl, rfl, by simp [World.setRow], fun i _ hn => by
      show (w.heap.modify g _)[i]? = w.heap[i]?
      rw [Array.getElem?_modify, if_neg (fun e => hn e.symm)]⟩)
/-- The three ways, bound to a block. -/
def ways3 (gb : Nat) : Array Value := #[.func (.func 28) #[.pointer (some ⟨gb, 0, none⟩)] #[], .func (.func 29) #[.pointer (some ⟨gb, 0, none⟩)] #[], .func (.func 30) #[.pointer (some ⟨gb, 0, none⟩)] #[]]
theorem ways3_all (gb : Nat) : (ways3 gb).all (·.oneCell') = true := by simp [ways3, Value.oneCell']
theorem ways3_size : (Tryd.prog.info? 81).map (·.size) = some 3 := by kernel_rfl
theorem BlkSt.quiet {w wx : World} {g gb G : Nat} {sv lv bv va vb vr vt : Value} {l : List Df.Z} {bs : List UInt8} (hs : BlkSt w g gb G sv lv bv va vb vr vt l bs) (ho : OnlyS (fun _ => False) w wx) : BlkSt wx g gb G sv lv bv va vb vr vt l bs := by
  have hq := hs.hd
  exact ⟨hs.ct.only ho, hs.wd.quiet ho, ⟨(ho.block G (Array.getElem?_eq_some_iff.1 hq.row).1 (fun h => h)).trans hq.row, hq.ng, hq.a.only ho (fun _ _ _ _ _ h => h), hq.b.only ho (fun _ _ _ _ _ h => h), SlK.only hq.r ho (fun _ _ _ _ _ h => h), hq.t.only ho (fun _ _ _ _ _ h => h), hq.far, fun i hi => ho.cell (hq.ord i hi) (fun h => h), hq.og⟩, hs.hbv.only ho (fun _ _ _ _ _ h => h), hs.bn, fun p n c e hn => Nat.lt_of_lt_of_le (hs.hlv p n c e hn) ho.size, hs.ln, hs.hbl⟩
section
variable {w wx : World} {B g gb G : Nat} {sv s lv bv va vb vr vt : Value} {l : List Df.Z} {bs : List UInt8} {L : List Bool} {p : Nat}
theorem way0 (hs : BlkSt w g gb G sv lv bv va vb vr vt l bs) (k : WrGo w B g sv L wx s) (hB : B ≤ w.heap.size) (hp : L.length = p + 3) (hl : L.length ≤ 950000000) (h65 : bs.length ≤ 65535) :
    Calls Tryd.prog 28 #[.pointer (some ⟨gb, 0, none⟩), .pointer (some ⟨g, 0, none⟩)] wx (WrtPost (.tuple #[]) B g (L ++ Df.way p (l.map Df.tok) bs 0) (wrX g s) wx) := by
  obtain ⟨_, c1, c2, _⟩ := hs.ct.h_cells
  have hgb := (Array.getElem?_eq_some_iff.1 hs.ct.row).1
  have h := writeStored_walk wx B g gb s L bs.length bv bs k.wr (k.size hB) (k.cell c1 hs.wd.gb) (k.cell c2 hs.wd.gb) (k.off hgb hs.wd.gb) (hs.hbv.only k.only hs.bn) (fun q m c e hm => by
    subst e
    obtain ⟨g9, o9, hp9, hrow⟩ := hs.hbv.some hm
    cases hp9
    have hl9 := hs.hbv.len
    rw [bl_length] at hl9
    exact k.off (block_lt_of_cell (hrow.bl 0 (by omega))) (hs.bn _ m c rfl hm)) rfl h65 (by omega)
  rw [hp] at h
  exact h
theorem way1 (hs : BlkSt w g gb G sv lv bv va vb vr vt l bs) (k : WrGo w B g sv L wx s) (hB : B ≤ w.heap.size) (hl : L.length ≤ 950000000) (h0 : 0 < w.heap.size ∧ 1 < w.heap.size ∧ 2 < w.heap.size) :
    Calls Tryd.prog 29 #[.pointer (some ⟨gb, 0, none⟩), .pointer (some ⟨g, 0, none⟩)] wx (WrtPost (.tuple #[]) B g (L ++ Df.way p (l.map Df.tok) bs 1) (wrX g s) wx) := by
  have hgb := (Array.getElem?_eq_some_iff.1 hs.ct.row).1
  have hln := hs.ln
  exact writeFixed_walk wx B g gb s L lv l k.wr (k.size hB) (by omega) (hs.wd.go k hgb hs.hlv ⟨h0.1, h0.2.1⟩)
theorem way2 (hs : BlkSt w g gb G sv lv bv va vb vr vt l bs) (k : WrGo w B g sv L wx s) (hB : B ≤ w.heap.size) (hl : L.length ≤ 950000000) (h0 : 0 < w.heap.size ∧ 1 < w.heap.size ∧ 2 < w.heap.size) :
    Calls Tryd.prog 30 #[.pointer (some ⟨gb, 0, none⟩), .pointer (some ⟨g, 0, none⟩)] wx (WrtPost (.tuple #[]) B g (L ++ Df.way p (l.map Df.tok) bs 2) (wrX g s) wx) := by
  have hgb := (Array.getElem?_eq_some_iff.1 hs.ct.row).1
  have hsz := k.only.size
  exact writeDynamic_walk wx B g gb G s L lv va vb vr vt l k.wr (k.size hB) (by omega) hs.ln (hs.wd.go k hgb hs.hlv ⟨h0.1, h0.2.1⟩) (Nat.lt_of_lt_of_le hgb hsz) (fun p n c e hn => Nat.lt_of_lt_of_le (hs.hlv p n c e hn) hsz)
    (k.cell hs.ct.h_cells.2.2.2 hs.wd.gb) ⟨Nat.lt_of_lt_of_le h0.1 hsz, Nat.lt_of_lt_of_le h0.2.1 hsz⟩ (hs.hd.go k hs.hd.inn h0.2.2)
end
theorem wputKK (w : World) (B g : Nat) (sv : Value) (L : List Bool) (n K : Nat) (z k : Int) (hz : (n : Int) = z) (hk : (K : Int) = k) (h : WrAt w B g sv L) (hlen : L.length + K ≤ 1099511627776) (hB : B ≤ w.heap.size) (hK : K ≤ 57) (hf : n < 2 ^ K) :
    Calls Tryd.prog 33 #[.pointer (some ⟨g, 0, none⟩), .int .u64 z, .int .i64 k] w (WrtPost (.int .i64 0) B g (L ++ num n K) (wrX g sv) w) := by
  subst hk hz
  exact wput_walk w B g sv L n K h hlen hB hK hf
theorem onlys_new {w w1 w2 : World} (h : OnlyS (fun _ => False) w w1) (k : OnlyS (fun i => i = w.heap.size) w1 w2) : OnlyS (fun _ => False) w w2 := h.trans' k (fun i hi => .inr (by omega))
set_option maxRecDepth 100000 in
set_option maxHeartbeats 2000000 in
theorem blockwrite_walk (w : World) (B g gb G : Nat) (sv : Value) (L : List Bool) (lv bv va vb vr vt : Value) (l : List Df.Z) (bs : List UInt8) (last : Bool) (h : WrAt w B g sv L) (hB : B ≤ w.heap.size) (hl : L.length ≤ 900000000) (hs : BlkSt w g gb G sv lv bv va vb vr vt l bs)
    (h0 : 0 < w.heap.size ∧ 1 < w.heap.size ∧ 2 < w.heap.size) :
    Calls Tryd.prog 20 #[.pointer (some ⟨gb, 0, none⟩), .pointer (some ⟨g, 0, none⟩), .bool last] w (WrtPost (.tuple #[]) B g (L ++ Df.blk L.length last (l.map Df.tok) bs) (wrX g sv) w) := by
  have HS := Lib.hid (WrGo.start h)
  have HSH : Hid (∀ wx, OnlyS (fun _ => False) w wx → Calls Tryd.prog 31 #[.pointer (some ⟨gb, 0, none⟩), .int .i64 (L.length : Int)] wx fun e w' => e = .returned (.int .i64 (Df.kindN L.length bs.length (l.map Df.tok) : Int)) ∧ OnlyS (fun _ => False) wx w') := Lib.hid (fun wx ho => by
    exact (hs.quiet ho).shorts L.length (by omega))
  obtain ⟨o, ho⟩ : ∃ o : Nat, (if last then 1 else 0) = o := ⟨_, rfl⟩
  have ho1 : o ≤ 1 := by rw [← ho]; cases last <;> decide
  have hoI : (if last then (1 : Int) else 0) = (o : Int) := by rw [← ho]; cases last <;> rfl
  have HON : Hid (num o 1 = [last]) := Lib.hid (by rw [← ho]; cases last <;> rfl)
  have HONE : Hid (∀ wx, Calls Tryd.prog 34 #[.bool last] wx fun e w' => e = .returned (.int .i64 (o : Int)) ∧ w' = wx) := Lib.hid (fun wx => by have h1 := one_walk wx last; rw [hoI] at h1; exact h1)
  have hou : IntKind.u64.wrap (o : Int) = (o : Int) := by rw [IntKind.wrap_u64]; omega
  have HK := Lib.hid (kind_cases L.length bs.length (l.map Df.tok))
  obtain ⟨k, hk⟩ : ∃ k, Df.kindN L.length bs.length (l.map Df.tok) = k := ⟨_, rfl⟩
  have HBK : Hid (Df.blk L.length last (l.map Df.tok) bs = [last] ++ (num k 2 ++ Df.way L.length (l.map Df.tok) bs k)) := Lib.hid (by unfold Df.blk; rw [hk]; rfl)
  rw [hk] at HSH HK
  have HBS := Lib.hid hs
  have HB := Lib.hid hB
  have HL := Lib.hid hl
  have H00 := Lib.hid h0
  have HO1 := Lib.hid ho1
  have HLEN : Hid (∀ wx, OnlyS (fun _ => False) w wx → Calls Tryd.prog 32 #[.pointer (some ⟨g, 0, none⟩)] wx fun e w' => e = .returned (.int .i64 (L.length : Int)) ∧ w' = wx) := Lib.hid (fun wx hq => (wlen_walk wx B g sv L (h.stay hq (fun _ h => h.elim))).mono fun e w' ⟨h1, h2⟩ => ⟨h1, h2.symm⟩)
  clear h hB hl hs h0 ho hoI hk ho1
  rcases HK.out with ⟨rfl, h65⟩ | rfl | rfl
  · have H65 := Lib.hid h65
    clear h65 HK
    go_enter Tryd.func20, Tryd.ntmps20
    go_wp2_with (first
      | (refine wpList_storeF rfl 81 _ _ rfl w.heap.size (ways3 gb) rfl rfl 81 #[.nilFunc, .nilFunc, .nilFunc] (heap_alloc_new _ _) ways3_size rfl (ways3_all gb) ?_; intro w0 hr0 ho0; have HAR0 := Lib.hid hr0; have HO0 := Lib.hid (onlys_new (OnlyS.alloc w _) ho0); clear hr0 ho0)
      | (go_at_call 32; with_reducible refine (HLEN.out _ HO0.out).mono ?_; rintro e w1 ⟨rfl, hw1⟩; subst hw1)
      | (go_at_call 31; with_reducible refine (HSH.out _ HO0.out).mono ?_; rintro e w2 ⟨rfl, ho2⟩; have HO2 := Lib.hid (HO0.out.trans ho2); have HAR := Lib.hid ((ho2.block w.heap.size (Array.getElem?_eq_some_iff.1 HAR0.out).1 (fun h => h)).trans HAR0.out); have H2 := Lib.hid (HS.out.quiet HO2.out); clear ho2)
      | (go_at_call 34; with_reducible refine (HONE.out _).mono ?_; rintro e w3 ⟨rfl, hw3⟩; subst hw3; have HS3 := Lib.hid (WrGo.start H2.out.wr); have HB3 := Lib.hid (H2.out.size HB.out); have HBS3 := Lib.hid (HBS.out.quiet HO2.out); have HP1 := Lib.hid (wputK w3 B g sv L o 1 1 rfl H2.out.wr (by have := HL.out; omega) HB3.out (by decide) (by have := HO1.out; omega)))
      | ((with_reducible refine HP1.out.mono ?_); rintro e w4 ⟨rfl, ho, s4, hw, hg⟩; have H4 := Lib.hid (HS3.out.next ho hw hg); have HP2 := Lib.hid (wputKK w4 B g s4 _ 0 2 0 2 rfl rfl H4.out.wr (by have := HL.out; simp; omega) (H4.out.size HB3.out) (by decide) (by decide)); clear ho hw hg)
      | ((with_reducible refine HP2.out.mono ?_); rintro e w5 ⟨rfl, ho, s5, hw, hg⟩; have H5 := Lib.hid (H4.out.next ho hw hg); have hAN : ¬ wrX g sv w.heap.size := (fun hx => by have := (HS.out.wr.x_lt _ hx).2; omega); have y0 : w5.cell? ⟨w.heap.size, 0, none⟩ = some (.func (.func 28) #[.pointer (some ⟨gb, 0, none⟩)] #[]) := H5.out.cell ((cell_of_row _ _ _ _ _ _ HAR.out).trans rfl) hAN; have HW := Lib.hid (way0 (p := L.length) HBS3.out H5.out HB3.out (by simp) (by have := HL.out; simp; omega) H65.out); clear ho hw hg)
      | ((with_reducible refine HW.out.mono ?_); rintro e w6 ⟨rfl, ho, s6, hw, hg⟩; have H6 := Lib.hid (H5.out.next ho hw hg); clear ho hw hg))
    go_end0
    have h6 := H2.out.trans H6.out
    rw [HON.out] at h6
    rw [HBK.out, ← List.append_assoc, ← List.append_assoc]
    exact ⟨rfl, h6.only, s6, h6.wr, h6.grew⟩
  · clear HK
    go_enter Tryd.func20, Tryd.ntmps20
    go_wp2_with (first
      | (refine wpList_storeF rfl 81 _ _ rfl w.heap.size (ways3 gb) rfl rfl 81 #[.nilFunc, .nilFunc, .nilFunc] (heap_alloc_new _ _) ways3_size rfl (ways3_all gb) ?_; intro w0 hr0 ho0; have HAR0 := Lib.hid hr0; have HO0 := Lib.hid (onlys_new (OnlyS.alloc w _) ho0); clear hr0 ho0)
      | (go_at_call 32; with_reducible refine (HLEN.out _ HO0.out).mono ?_; rintro e w1 ⟨rfl, hw1⟩; subst hw1)
      | (go_at_call 31; with_reducible refine (HSH.out _ HO0.out).mono ?_; rintro e w2 ⟨rfl, ho2⟩; have HO2 := Lib.hid (HO0.out.trans ho2); have HAR := Lib.hid ((ho2.block w.heap.size (Array.getElem?_eq_some_iff.1 HAR0.out).1 (fun h => h)).trans HAR0.out); have H2 := Lib.hid (HS.out.quiet HO2.out); clear ho2)
      | (go_at_call 34; with_reducible refine (HONE.out _).mono ?_; rintro e w3 ⟨rfl, hw3⟩; subst hw3; have HS3 := Lib.hid (WrGo.start H2.out.wr); have HB3 := Lib.hid (H2.out.size HB.out); have H003 := Lib.hid (And.intro (Nat.lt_of_lt_of_le H00.out.1 HO2.out.size) (And.intro (Nat.lt_of_lt_of_le H00.out.2.1 HO2.out.size) (Nat.lt_of_lt_of_le H00.out.2.2 HO2.out.size))); have HBS3 := Lib.hid (HBS.out.quiet HO2.out); have HP1 := Lib.hid (wputK w3 B g sv L o 1 1 rfl H2.out.wr (by have := HL.out; omega) HB3.out (by decide) (by have := HO1.out; omega)))
      | ((with_reducible refine HP1.out.mono ?_); rintro e w4 ⟨rfl, ho, s4, hw, hg⟩; have H4 := Lib.hid (HS3.out.next ho hw hg); have HP2 := Lib.hid (wputKK w4 B g s4 _ 1 2 1 2 rfl rfl H4.out.wr (by have := HL.out; simp; omega) (H4.out.size HB3.out) (by decide) (by decide)); clear ho hw hg)
      | ((with_reducible refine HP2.out.mono ?_); rintro e w5 ⟨rfl, ho, s5, hw, hg⟩; have H5 := Lib.hid (H4.out.next ho hw hg); have hAN : ¬ wrX g sv w.heap.size := (fun hx => by have := (HS.out.wr.x_lt _ hx).2; omega); have y0 : w5.cell? ⟨w.heap.size, 1, none⟩ = some (.func (.func 29) #[.pointer (some ⟨gb, 0, none⟩)] #[]) := H5.out.cell ((cell_of_row _ _ _ _ _ _ HAR.out).trans rfl) hAN; have HW := Lib.hid (way1 (p := L.length) HBS3.out H5.out HB3.out (by have := HL.out; simp; omega) H003.out); clear ho hw hg)
      | ((with_reducible refine HW.out.mono ?_); rintro e w6 ⟨rfl, ho, s6, hw, hg⟩; have H6 := Lib.hid (H5.out.next ho hw hg); clear ho hw hg))
    go_end0
    have h6 := H2.out.trans H6.out
    rw [HON.out] at h6
    rw [HBK.out, ← List.append_assoc, ← List.append_assoc]
    exact ⟨rfl, h6.only, s6, h6.wr, h6.grew⟩
  · clear HK
    go_enter Tryd.func20, Tryd.ntmps20
    go_wp2_with (first
      | (refine wpList_storeF rfl 81 _ _ rfl w.heap.size (ways3 gb) rfl rfl 81 #[.nilFunc, .nilFunc, .nilFunc] (heap_alloc_new _ _) ways3_size rfl (ways3_all gb) ?_; intro w0 hr0 ho0; have HAR0 := Lib.hid hr0; have HO0 := Lib.hid (onlys_new (OnlyS.alloc w _) ho0); clear hr0 ho0)
      | (go_at_call 32; with_reducible refine (HLEN.out _ HO0.out).mono ?_; rintro e w1 ⟨rfl, hw1⟩; subst hw1)
      | (go_at_call 31; with_reducible refine (HSH.out _ HO0.out).mono ?_; rintro e w2 ⟨rfl, ho2⟩; have HO2 := Lib.hid (HO0.out.trans ho2); have HAR := Lib.hid ((ho2.block w.heap.size (Array.getElem?_eq_some_iff.1 HAR0.out).1 (fun h => h)).trans HAR0.out); have H2 := Lib.hid (HS.out.quiet HO2.out); clear ho2)
      | (go_at_call 34; with_reducible refine (HONE.out _).mono ?_; rintro e w3 ⟨rfl, hw3⟩; subst hw3; have HS3 := Lib.hid (WrGo.start H2.out.wr); have HB3 := Lib.hid (H2.out.size HB.out); have H003 := Lib.hid (And.intro (Nat.lt_of_lt_of_le H00.out.1 HO2.out.size) (And.intro (Nat.lt_of_lt_of_le H00.out.2.1 HO2.out.size) (Nat.lt_of_lt_of_le H00.out.2.2 HO2.out.size))); have HBS3 := Lib.hid (HBS.out.quiet HO2.out); have HP1 := Lib.hid (wputK w3 B g sv L o 1 1 rfl H2.out.wr (by have := HL.out; omega) HB3.out (by decide) (by have := HO1.out; omega)))
      | ((with_reducible refine HP1.out.mono ?_); rintro e w4 ⟨rfl, ho, s4, hw, hg⟩; have H4 := Lib.hid (HS3.out.next ho hw hg); have HP2 := Lib.hid (wputKK w4 B g s4 _ 2 2 2 2 rfl rfl H4.out.wr (by have := HL.out; simp; omega) (H4.out.size HB3.out) (by decide) (by decide)); clear ho hw hg)
      | ((with_reducible refine HP2.out.mono ?_); rintro e w5 ⟨rfl, ho, s5, hw, hg⟩; have H5 := Lib.hid (H4.out.next ho hw hg); have hAN : ¬ wrX g sv w.heap.size := (fun hx => by have := (HS.out.wr.x_lt _ hx).2; omega); have y0 : w5.cell? ⟨w.heap.size, 2, none⟩ = some (.func (.func 30) #[.pointer (some ⟨gb, 0, none⟩)] #[]) := H5.out.cell ((cell_of_row _ _ _ _ _ _ HAR.out).trans rfl) hAN; have HW := Lib.hid (way2 (p := L.length) HBS3.out H5.out HB3.out (by have := HL.out; simp; omega) H003.out); clear ho hw hg)
      | ((with_reducible refine HW.out.mono ?_); rintro e w6 ⟨rfl, ho, s6, hw, hg⟩; have H6 := Lib.hid (H5.out.next ho hw hg); clear ho hw hg))
    go_end0
    have h6 := H2.out.trans H6.out
    rw [HON.out] at h6
    rw [HBK.out, ← List.append_assoc, ← List.append_assoc]
    exact ⟨rfl, h6.only, s6, h6.wr, h6.grew⟩
end Go.Proofs.YtphdcgioeokfbaaDoor
