/-
  Merged, in the order in which they build: Stored Block Begun Catch Less.
-/
import Derived.Deep.LoopGhost
import Derived.Recover
import Derived.Test.YtefeilgbofphjaaDoorMg12
import Derived.Test.YtefeilgbofphjaaDoorMg13
/-
  copyStored: stored blocks.
-/
namespace Go.Proofs.YtefeilgbofphjaaDoor
open Go.RowKit
theorem xor_all (n : Nat) (h : n < 65536) : n ^^^ 65535 = 65535 - n := by
  apply Nat.eq_of_testBit_eq
  intro i
  have e : 65535 - n = 2 ^ 16 - (n + 1) := by omega
  rw [Nat.testBit_xor, e, Nat.testBit_two_pow_sub_succ h, show (65535 : Nat) = 2 ^ 16 - 1 from rfl, Nat.testBit_two_pow_sub_one]
  by_cases hi : i < 16
  · simp [hi]
  · have h16 : (2 : Nat) ^ 16 ≤ 2 ^ i := Nat.pow_le_pow_right (by decide) (by omega)
    have : n < 2 ^ i := Nat.lt_of_lt_of_le h h16
    simp [hi, Nat.testBit_lt_two_pow this]
theorem take_none (most m : Nat) (out : List UInt8) (hm : 0 < m) : Inf.take most m out [] = .error 4 := by
  unfold Inf.take
  rw [if_neg (by simp), if_pos (by simpa using hm)]
theorem take_zero (most : Nat) (out : List UInt8) (r : List Bool) : Inf.take most 0 out r = .ok (out, r) := by
  unfold Inf.take
  rw [if_neg (by simp), if_neg (by omega)]
  simp [Inf.byts]
theorem take_cap (most m k : Nat) (out : List UInt8) (r : List Bool) (hkm : k ≤ m) (hr : 8 * k ≤ r.length) (h : most - out.length < k) : Inf.take most m out r = .error 22 := by
  unfold Inf.take
  rw [if_pos (by omega)]
theorem take_step (most m k : Nat) (out : List UInt8) (r : List Bool) (hkm : k ≤ m) (hr : 8 * k ≤ r.length) (h8 : r.length % 8 = 0) (hle : out.length ≤ most) (h : ¬ most - out.length < k) :
    Inf.take most m out r = Inf.take most (m - k) (out ++ Inf.byts k r) (r.drop (8 * k)) := by
  unfold Inf.take
  rw [List.length_append, Inf.byts_length, List.length_drop]
  have e1 : (most - (out.length + k) < min (m - k) ((r.length - 8 * k) / 8)) = (most - out.length < min m (r.length / 8)) := by
    apply propext; constructor <;> intro hh <;> omega
  have e2 : ((r.length - 8 * k) / 8 < m - k) = (r.length / 8 < m) := by
    apply propext; constructor <;> intro hh <;> omega
  simp only [e1, e2]
  split
  · rfl
  split
  · rfl
  · have e3 : Inf.byts m r = Inf.byts k r ++ Inf.byts (m - k) (r.drop (8 * k)) := by rw [← Inf.byts_add, show k + (m - k) = m by omega]
    rw [List.append_assoc, ← e3, List.drop_drop, show 8 * k + 8 * (m - k) = 8 * m by omega]
theorem StAt.src {w : World} {B gt gb g most : Nat} {O : Nat → Prop} {ov pl : Value} {out : List UInt8} {r : List Bool} (h : StAt w B O gt gb g ov most out pl r) : SrcAt w B O g r := h.b.hand.src
theorem StAt.src_next {w w' : World} {B gt gb g most : Nat} {O O' : Nat → Prop} {ov pl : Value} {out : List UInt8} {r r' : List Bool} (h : StAt w B O gt gb g ov most out pl r) (hs : SrcAt w' B O' g r') (ho : OnlyS O w w') (hg : Grew w O O') : StAt w' B O' gt gb g ov most out pl r' :=
  h.read ho (h.b.next (h.b.hand.next hs ho hg) ho hg) hg
theorem numb16 {r r' : List Bool} {x : Nat} (h : Inf.numb 16 r = .ok (x, r')) : x < 65536 ∧ r'.length + 16 = r.length := by
  unfold Inf.numb at h
  split at h
  · cases h
    have := Inf.val_lt (r.take 16)
    rw [List.length_take, Nat.min_eq_left (by assumption)] at this
    exact ⟨this, by rw [List.length_drop]; omega⟩
  · cases h
set_option maxRecDepth 100000 in
set_option maxHeartbeats 1000000 in
theorem stored_walk (w : World) (B : Nat) (O : Nat → Prop) (gt gb g : Nat) (ov : Value) (most : Nat) (out : List UInt8) (pl : Value) (r : List Bool) (h : StAt w B O gt gb g ov most out pl r) (hB : B ≤ w.heap.size) :
    Calls Tryd.prog 41 #[.pointer (some ⟨gt, 0, none⟩)] w (SPost (Inf.stored most out r) B O gt gb g ov most pl w) := by
  obtain ⟨R0, hR0⟩ : ∃ R0, R0 = Inf.stored most out r := ⟨_, rfl⟩
  rw [← hR0]
  unfold Inf.stored at hR0
  have HA := Lib.hid (align_walk w B O g r h.src)
  have HH := Lib.hid h
  have c0 := h.b.c0
  have HB := Lib.hid hB
  clear h hB
  have h8 : (r.drop (r.length % 8)).length % 8 = 0 := by rw [List.length_drop]; omega
  generalize r.drop (r.length % 8) = ra at *
  cases hn1 : Inf.numb 16 ra with
  | error er =>
    rw [hn1] at hR0
    have HE := Lib.hid hR0
    clear hR0
    go_enter Tryd.func41, Tryd.ntmps41
    go_wp2_with fail
    refine HA.out.mono ?_
    rintro e w1 ⟨rfl, hs, ho⟩
    have H1 := Lib.hid (HH.out.src_next hs ho (Grew.refl _ _))
    have HO1 := Lib.hid (only3 (gt := gt) (ov := ov) ho)
    have HN := Lib.hid (number_walk w1 B O gt gb g 16 ra H1.out.b (by omega))
    rw [hn1] at HN
    unfold iv at HN
    clear hs ho hn1
    go_wp2_with fail
    refine HN.out.mono ?_
    rintro e w2 ⟨ho, rfl⟩
    have HO2 := Lib.hid (HO1.out.trans (only3 (gt := gt) (ov := ov) ho))
    clear ho
    go_wp2_with fail
    exact ⟨rfl, HO2.out, by rw [HE.out]⟩
  | ok p =>
    obtain ⟨n, rb⟩ := p
    have hn65 := numb16 hn1
    rw [hn1] at hR0
    simp only at hR0
    cases hn2 : Inf.numb 16 rb with
    | error er =>
      rw [hn2] at hR0
      have HE := Lib.hid hR0
      clear hR0
      go_enter Tryd.func41, Tryd.ntmps41
      go_wp2_with fail
      refine HA.out.mono ?_
      rintro e w1 ⟨rfl, hs, ho⟩
      have H1 := Lib.hid (HH.out.src_next hs ho (Grew.refl _ _))
      have HO1 := Lib.hid (only3 (gt := gt) (ov := ov) ho)
      have HN := Lib.hid (number_walk w1 B O gt gb g 16 ra H1.out.b (by omega))
      rw [hn1] at HN
      unfold iv at HN
      clear hs ho hn1
      go_wp2_with fail
      refine HN.out.mono ?_
      rintro e w2 ⟨ho, rfl, O2, hs2, hg2⟩
      have HN2 := Lib.hid ((number_walk w2 B O2 gt gb g 16 rb hs2 (by omega)).mono fun e w' hr => hr.before ho hg2)
      rw [hn2] at HN2
      unfold iv at HN2
      clear ho hs2 hg2 hn2
      go_wp2_with fail
      refine HN2.out.mono ?_
      rintro e w3 ⟨ho, rfl⟩
      have HO2 := Lib.hid (HO1.out.trans (only3 (gt := gt) (ov := ov) ho))
      clear ho
      go_wp2_with fail
      exact ⟨rfl, HO2.out, by rw [HE.out]⟩
    | ok p =>
      obtain ⟨m, rc⟩ := p
      have hm65 := numb16 hn2
      rw [hn2] at hR0
      simp only at hR0
      have hx : bits .xor .i64 (n : Int) 65535 = ((65535 - n : Nat) : Int) := by
        rw [show (65535 : Int) = ((65535 : Nat) : Int) from rfl, i64_xor_nat _ _ (by omega) (by omega), xor_all n hn65.1]
      obtain ⟨y, hy⟩ : ∃ y, y = 65535 - n := ⟨_, rfl⟩
      rw [← hy] at hx hR0
      have HY := Lib.hid hy
      clear hy
      have h8c : rc.length % 8 = 0 := by omega
      have HR0 := Lib.hid hR0
      clear hR0
      go_enter Tryd.func41, Tryd.ntmps41
      go_wp2_with fail
      refine HA.out.mono ?_
      rintro e w1 ⟨rfl, hs, ho⟩
      have H1 := Lib.hid (HH.out.src_next hs ho (Grew.refl _ _))
      have HO1 := Lib.hid (only3 (gt := gt) (ov := ov) ho)
      have HN := Lib.hid (number_walk w1 B O gt gb g 16 ra H1.out.b (by omega))
      rw [hn1] at HN
      unfold iv at HN
      clear hs ho hn1
      go_wp2_with fail
      refine HN.out.mono ?_
      rintro e w2 ⟨ho, rfl, O2, hs2, hg2⟩
      have HN2 := Lib.hid (number_walk w2 B O2 gt gb g 16 rb hs2 (by omega))
      rw [hn2] at HN2
      unfold iv at HN2
      have H2 := Lib.hid (H1.out.read ho hs2 hg2)
      have HO2 := Lib.hid (HO1.out.trans (only3 (gt := gt) (ov := ov) ho))
      have HG2 : Hid (Grew w (own3 O gt ov) (own3 O2 gt ov)) := Lib.hid (Grew.trans (Grew.refl _ _) (grew3 hg2) HO1.out.size)
      clear ho hs2 hg2 hn2
      go_wp2_with fail
      refine HN2.out.mono ?_
      rintro e w3 ⟨ho, rfl, O3, hs3, hg3⟩
      have H3 := Lib.hid (H2.out.read ho hs3 hg3)
      have HO3 := Lib.hid (HO2.out.trans' (only3 (gt := gt) (ov := ov) ho) (fun i hi => HG2.out i hi))
      have HG3 := Lib.hid (HG2.out.trans (grew3 (gt := gt) (ov := ov) hg3) HO2.out.size)
      clear ho hs3 hg3
      by_cases hmy : m = y
      · have HE : Hid (R0 = Inf.take most n out rc) := Lib.hid (by rw [HR0.out, if_neg (by simpa using hmy)])
        have hd : ((m : Int) != (y : Int)) = false := by simp [hmy]
        subst hmy
        go_wp2_with fail
        refine (refuse_no _ 20).mono ?_
        rintro e w4 ⟨rfl, rfl⟩
        go_wp2_with fail
        have H0 : Hid (∃ O' ov' outc rcc, StAt w4 B O' gt gb g ov' most outc pl rcc ∧ rcc.length % 8 = 0 ∧ OnlyS (own3 O gt ov) w w4 ∧ Grew w (own3 O gt ov) (own3 O' gt ov') ∧ R0 = Inf.take most n outc rcc) := Lib.hid ⟨O3, ov, out, rc, H3.out, h8c, HO3.out, HG3.out, HE.out⟩
        have hn65' : n ≤ 65535 := by omega
        clear H1 HO1 HN HN2 H2 HO2 HG2 HG3 HE hx HY HR0 hd H3 HO3 HA hn65 hm65 h8c h8 c0
        go_loopw [2, 3] (fun v2 _ wr => ∃ k : Nat, k ≤ 65535 ∧ v2 = .int .i64 k ∧ ∃ O' ov' outc rcc, StAt wr B O' gt gb g ov' most outc pl rcc ∧ rcc.length % 8 = 0 ∧ OnlyS (own3 O gt ov) w wr ∧ Grew w (own3 O gt ov) (own3 O' gt ov') ∧ R0 = Inf.take most k outc rcc) (fun v2 _ _ => (intOf v2).toNat)
        case atStart => exact ⟨n, hn65', rfl, H0.out⟩
        case round =>
          clear H0
          obtain ⟨k, hk, rfl, O4, ov4, outc, rcc, h4, h48, ho4, hg4, he4⟩ := hrel
          have H4 := Lib.hid h4
          have HO4 := Lib.hid ho4
          have HG4 := Lib.hid hg4
          have HE4 := Lib.hid he4
          have c0 := h4.b.c0
          by_cases hk0 : k = 0
          · subst hk0
            have HE : Hid (R0 = .ok (outc, rcc)) := Lib.hid (by rw [he4, take_zero])
            clear h4 ho4 hg4 he4
            go_wp2_with fail
            go_end0
            exact ⟨HO4.out, by rw [HE.out]; exact ⟨rfl, O4, ov4, H4.out, HG4.out⟩⟩
          · have hk1 : (0 : Int) < (k : Int) := by omega
            have HBY := Lib.hid (bytes_walk wr B O4 g rcc k h4.src h48 (by omega) hk)
            have HSZ : Hid (B ≤ wr.heap.size) := Lib.hid (Nat.le_trans HB.out ho4.size)
            have hle := h4.le
            clear h4 ho4 hg4 he4
            go_wp2_with fail
            refine HBY.out.mono ?_
            rintro e w5 ⟨ho5, hp⟩
            have HO5 := Lib.hid (HO4.out.trans' (only3 (gt := gt) (ov := ov4) ho5) (fun i hi => HG4.out i hi))
            by_cases hrn : rcc = []
            · rw [if_pos hrn] at hp
              subst hp
              have HE : Hid (R0 = .error 4) := Lib.hid (by rw [HE4.out, hrn, take_none _ _ _ (by omega)])
              clear ho5 hrn
              go_wp2_with fail
              exact ⟨rfl, HO5.out, by rw [HE.out]⟩
            · rw [if_neg hrn] at hp
              obtain ⟨t, u, O5, ht0, htk, ht8, rfl, hu, hs5, hg5, _⟩ := hp
              have H5 := Lib.hid (H4.out.src_next hs5 ho5 hg5)
              have HG5 := Lib.hid (HG4.out.trans (grew3 (gt := gt) (ov := ov4) hg5) HO4.out.size)
              have hsl := own_toV hu
              obtain ⟨pu, cu, rfl⟩ := hsl.shape
              rw [bl_length, Inf.byts_length] at hsl ⊢
              have HP := Lib.hid (put_walk w5 B O5 gt gb g ov4 most outc pl _ (.slice pu t cu) (Inf.byts t rcc) H5.out hsl (by rw [Inf.byts_length]; omega) (Nat.le_trans HSZ.out ho5.size))
              have HTC : Hid (most - outc.length < t → R0 = .error 22) := Lib.hid (fun h => by rw [HE4.out, take_cap _ _ _ _ _ htk ht8 h])
              have HTS : Hid (¬ most - outc.length < t → R0 = Inf.take most (k - t) (outc ++ Inf.byts t rcc) (rcc.drop (8 * t))) := Lib.hid (fun h => by rw [HE4.out, take_step _ _ _ _ _ htk ht8 h48 hle h])
              have HLD : Hid ((rcc.drop (8 * t)).length % 8 = 0) := Lib.hid (by rw [List.length_drop]; omega)
              clear ho5 hu hs5 hg5 hsl hrn
              have htki : (t : Int) ≤ (k : Int) := by omega
              by_cases hcap : most - outc.length < t
              · have HE := Lib.hid (HTC.out hcap)
                have HPE : Hid (putR most outc (Inf.byts t rcc) (rcc.drop (8 * t)) = .error 22) := Lib.hid (by unfold putR; rw [Inf.byts_length, if_pos hcap])
                rw [HPE.out] at HP
                go_wp2_with fail
                refine HP.out.mono ?_
                rintro e w6 ⟨ho6, rfl⟩
                have HO6 := Lib.hid (HO5.out.trans' ho6 (fun i hi => HG5.out i hi))
                clear ho6
                go_wp2_with fail
                exact ⟨rfl, HO6.out, by rw [HE.out]⟩
              · have HE := Lib.hid (HTS.out hcap)
                have HPE : Hid (putR most outc (Inf.byts t rcc) (rcc.drop (8 * t)) = .ok (outc ++ Inf.byts t rcc, rcc.drop (8 * t))) := Lib.hid (by unfold putR; rw [Inf.byts_length, if_neg hcap])
                rw [HPE.out] at HP
                go_wp2_with fail
                refine HP.out.mono ?_
                rintro e w6 ⟨ho6, rfl, O6, ov6, hs6, hg6⟩
                have HO6 := Lib.hid (HO5.out.trans' ho6 (fun i hi => HG5.out i hi))
                have HS6 := Lib.hid hs6
                have HG6 := Lib.hid (HG5.out.trans hg6 HO5.out.size)
                clear ho6 hs6 hg6
                go_wp2_with fail
                exact ⟨⟨k - t, by omega, by go_num, O6, ov6, _, _, HS6.out, HLD.out, HO6.out, HG6.out, HE.out⟩, by simp [intOf]; omega⟩
      · have HE : Hid (R0 = .error 20) := Lib.hid (by rw [HR0.out, if_pos (by simpa using hmy)])
        have hd : ((m : Int) != (y : Int)) = true := by simp; omega
        clear hmy
        go_wp2_with fail
        refine (refuse_yes _ 20).mono ?_
        rintro e w4 ⟨rfl, rfl⟩
        go_wp2_with fail
        exact ⟨rfl, HO3.out, by rw [HE.out]⟩
end Go.Proofs.YtefeilgbofphjaaDoor
/-
  block: one block of a stream.
-/
namespace Go.Proofs.YtefeilgbofphjaaDoor
open Go.RowKit
def kindB (most : Nat) (out : List UInt8) (k : Nat) (r : List Bool) : Inf.Res (List UInt8) :=
  if k = 0 then Inf.stored most out r else if k = 1 then Inf.body Inf.fixS Inf.fixD most (r.length + 1) out r else if k = 2 then
    (match Inf.heads r with
    | .ok ((zs, ds), r) => Inf.body zs ds most (r.length + 1) out r
    | .error e => .error e)
  else (.error 20 : Inf.Res (List UInt8))
def finK (k l n : Nat) : Inf.Res (List UInt8) → Inf.Res (Inf.Blk × List UInt8)
  | .ok (out2, r) => .ok (({ kind := k, last := decide (l = 1), from_ := n, to := out2.length }, out2), r)
  | .error e => .error e
theorem block_eq (most : Nat) (out : List UInt8) (r : List Bool) : Inf.block most out r = match Inf.numb 1 r with
  | .ok (l, r) => (match Inf.numb 2 r with
    | .ok (k, r) => finK k l out.length (kindB most out k r)
    | .error e => .error e)
  | .error e => .error e := by
  unfold Inf.block
  cases Inf.numb 1 r with
  | error e => rfl
  | ok p =>
    obtain ⟨l, r1⟩ := p
    simp only
    cases Inf.numb 2 r1 with
    | error e => rfl
    | ok p =>
      obtain ⟨k, r2⟩ := p
      simp only
      show _ = finK k l out.length (kindB most out k r2)
      unfold kindB
      by_cases h0 : k = 0
      · simp only [if_pos h0]
        cases Inf.stored most out r2 with
        | error e => rfl
        | ok p => rfl
      · by_cases h1 : k = 1
        · simp only [if_neg h0, if_pos h1]
          cases Inf.body Inf.fixS Inf.fixD most (r2.length + 1) out r2 with
          | error e => rfl
          | ok p => rfl
        · by_cases h2 : k = 2
          · simp only [if_neg h0, if_neg h1, if_pos h2]
            cases Inf.heads r2 with
            | error e => rfl
            | ok p =>
              obtain ⟨⟨zs, ds⟩, r3⟩ := p
              simp only
              cases Inf.body zs ds most (r3.length + 1) out r3 with
              | error e => rfl
              | ok p => rfl
          · simp only [if_neg h0, if_neg h1, if_neg h2]
            rfl
/-- A store elsewhere. -/
theorem StAt.off {w w' : World} {B gt gb g most : Nat} {O S : Nat → Prop} {ov pl : Value} {out : List UInt8} {r : List Bool} (h : StAt w B O gt gb g ov most out pl r) (ho : OnlyS S w w') (hS : ∀ i, S i → ¬ own3 O gt ov i ∧ B ≤ i) (h2 : ¬ S gb) : StAt w' B O gt gb g ov most out pl r :=
  ⟨h.b.off ho (fun i hi => ⟨fun ho => (hS i hi).1 (.inl ho), (hS i hi).2⟩) (fun hg => (hS _ hg).1 (.inr (.inl rfl))) h2, (ho.block gt h.b.lt (fun hg => (hS _ hg).1 (.inr (.inl rfl)))).trans h.row, own_stays h.own (fun k hk => ho.block k (own_lt h.own k hk).2 (fun hs => (hS _ hs).1 (.inr (.inr hk)))), h.apart, h.ne, h.le, h.small⟩
theorem BooksAt.sub {w : World} {T S : Nat → Prop} {gbk ks kd : Nat} {zs ds : List Int} (h : BooksAt w T gbk ks kd zs ds) (hs : ∀ i, S i → T i) : BooksAt w S gbk ks kd zs ds :=
  ⟨h.c0, h.c1, fun hi => h.out (hs _ hi), h.s.sub hs, h.d.sub hs⟩
theorem FixAt.sub {w : World} {T S : Nat → Prop} {pl : Value} (h : FixAt w T pl) (hs : ∀ i, S i → T i) : FixAt w S pl := by
  rcases h with h | ⟨gbk, ks, kd, h, hb⟩
  · exact .inl h
  · exact .inr ⟨gbk, ks, kd, h, hb.sub hs⟩
theorem BkAt.more {w : World} {T S : Nat → Prop} {gk : Nat} {zs : List Int} (h : BkAt w T gk zs) (hs : ∀ i, S i → T i ∨ w.heap.size ≤ i) : BkAt w S gk zs := by
  obtain ⟨lo, hi, hb, ha, hh⟩ := h.book
  exact ⟨⟨lo, hi, hb, fun i h1 h2 h3 => by rcases hs i h3 with h4 | h4; exact ha i h1 h2 h4; omega, hh⟩, h.deep, h.len⟩
theorem FixAt.more {w : World} {T S : Nat → Prop} {pl : Value} (h : FixAt w T pl) (hs : ∀ i, S i → T i ∨ w.heap.size ≤ i) : FixAt w S pl := by
  rcases h with h | ⟨gbk, ks, kd, h, hb⟩
  · exact .inl h
  · exact .inr ⟨gbk, ks, kd, h, hb.c0, hb.c1, fun hi => by rcases hs _ hi with h1 | h1; exact hb.out h1; have := block_lt_of_cell hb.c0; simp only at this; omega, hb.s.more hs, hb.d.more hs⟩
/-- A block under way. -/
structure BlkAt (w w2 : World) (X : Nat → Prop) (B : Nat) (O O2 : Nat → Prop) (gt gb g : Nat) (ov ov2 : Value) (most : Nat) (out2 : List UInt8) (pl2 : Value) (r2 : List Bool) : Prop where
  only : OnlyS (own3 O gt ov) w w2
  st : StAt w2 B O2 gt gb g ov2 most out2 pl2 r2
  grew : Grew w (own3 O gt ov) (own3 O2 gt ov2)
  res : w2.heap[w.heap.size]? = some (.cells #[.int .i64 0, .bool false, .int .i64 0, .int .i64 0] 33 (0, 0))
  nres : ¬ own3 O2 gt ov2 w.heap.size
  lt : w.heap.size < w2.heap.size
  ge : B ≤ w.heap.size
  ne : gb ≠ w.heap.size
  fix : FixAt w2 (fun i => own3 O2 gt ov2 i ∨ X i ∨ i = w.heap.size) pl2
namespace BlkAt
variable {w w2 w3 : World} {X : Nat → Prop} {B : Nat} {O O2 O3 : Nat → Prop} {gt gb g : Nat} {ov ov2 ov3 : Value} {most : Nat} {out2 out3 : List UInt8} {pl2 pl3 : Value} {r2 r3 : List Bool}
theorem grewX {w : World} {A C X : Nat → Prop} (h : Grew w A C) : Grew w (fun i => A i ∨ X i) (fun i => C i ∨ X i) := fun i hi => by
  rcases hi with hi | hi
  · rcases h i hi with h1 | h1
    · exact .inl (.inl h1)
    · exact .inr h1
  · exact .inl (.inr hi)
theorem next (h : BlkAt w w2 X B O O2 gt gb g ov ov2 most out2 pl2 r2) (ho : OnlyS (own3 O2 gt ov2) w2 w3) (hs : StAt w3 B O3 gt gb g ov3 most out3 pl3 r3) (hg : Grew w2 (own3 O2 gt ov2) (own3 O3 gt ov3)) (hf : FixAt w3 (fun i => own3 O3 gt ov3 i ∨ X i ∨ i = w.heap.size) pl3) :
    BlkAt w w3 X B O O3 gt gb g ov ov3 most out3 pl3 r3 :=
  ⟨h.only.trans' ho (fun i hi => h.grew i hi), hs, h.grew.trans hg h.only.size, (ho.block _ h.lt h.nres).trans h.res, hg.not h.nres h.lt, Nat.lt_of_lt_of_le h.lt ho.size, h.ge, h.ne, hf⟩
theorem go (h : BlkAt w w2 X B O O2 gt gb g ov ov2 most out2 pl2 r2) (ho : OnlyS (own3 O2 gt ov2) w2 w3) (hs : StAt w3 B O3 gt gb g ov3 most out3 pl2 r3) (hg : Grew w2 (own3 O2 gt ov2) (own3 O3 gt ov3)) :
    BlkAt w w3 X B O O3 gt gb g ov ov3 most out3 pl2 r3 :=
  h.next ho hs hg (h.fix.next (ho.mono fun _ _ h => .inl h) (grewX hg))
theorem fin (h : BlkAt w w2 X B O O2 gt gb g ov ov2 most out2 pl2 r2) (ho : OnlyS (· = w.heap.size) w2 w3) :
    OnlyS (own3 O gt ov) w w3 ∧ ∃ O' ov' pl', StAt w3 B O' gt gb g ov' most out2 pl' r2 ∧ Grew w (own3 O gt ov) (own3 O' gt ov') ∧ FixAt w3 (fun i => own3 O' gt ov' i ∨ X i) pl' := by
  refine ⟨?_, O2, ov2, pl2, h.st.off ho (fun i hi => by rw [hi]; exact ⟨h.nres, h.ge⟩) (fun hi => h.ne hi), h.grew, ?_⟩
  · have h1 : OnlyS (fun i => own3 O gt ov i ∨ i = w.heap.size) w w3 := (h.only.mono fun _ _ h => .inl h).trans (ho.mono fun _ _ h => .inr h)
    exact h1.mono (fun i hi hs => by rcases hs with hs | hs; exact hs; omega)
  · exact (h.fix.next (ho.mono fun _ _ h => .inr (.inr h)) (Grew.refl _ _)).sub (fun i hi => by rcases hi with hi | hi; exact .inl hi; exact .inr (.inl hi))
end BlkAt
def kv (k : Inf.Blk) : Value := .agg #[.int .i64 (k.kind : Int), .bool k.last, .int .i64 (k.from_ : Int), .int .i64 (k.to : Int)]
def BlkPost (R : Inf.Res (Inf.Blk × List UInt8)) (X : Nat → Prop) (B : Nat) (O : Nat → Prop) (gt gb g : Nat) (ov : Value) (most : Nat) (w : World) (e : Ending) (w' : World) : Prop :=
  OnlyS (own3 O gt ov) w w' ∧ match R with
  | .ok ((k, out'), r') => e = .returned (kv k) ∧ ∃ O' ov' pl', StAt w' B O' gt gb g ov' most out' pl' r' ∧ Grew w (own3 O gt ov) (own3 O' gt ov') ∧ FixAt w' (fun i => own3 O' gt ov' i ∨ X i) pl'
  | .error er => e = pan er
set_option maxRecDepth 100000 in
set_option maxHeartbeats 1000000 in
theorem blk_ret {w w5 : World} {X : Nat → Prop} {B : Nat} {O O5 : Nat → Prop} {gt gb g : Nat} {ov ov5 : Value} {most k l n n5 : Nat} {out out5 : List UInt8} {pl5 : Value} {r5 : List Bool} {R0 : Inf.Res (Inf.Blk × List UInt8)} {ts : List Value}
    (h : BlkAt w w5 X B O O5 gt gb g ov ov5 most out5 pl5 r5) (hn : n = out.length) (hn5 : n5 = out5.length) (hE : R0 = .ok (({ kind := k, last := decide (l = 1), from_ := out.length, to := out5.length }, out5), r5)) :
    bodyPost Tryd.prog Tryd.f31 (BlkPost R0 X B O gt gb g ov most w) Exit.ret { tmps := (.pointer (some ⟨gt, 0, none⟩) :: undef :: .pointer (some ⟨w.heap.size, 0, none⟩) :: ts).toArray, defers := [] }
      ((((w5.setCell ⟨w.heap.size, 0, none⟩ (.int .i64 (k : Int))).setCell ⟨w.heap.size, 1, none⟩ (.bool ((l : Int) == 1))).setCell ⟨w.heap.size, 2, none⟩ (.int .i64 (n : Int))).setCell ⟨w.heap.size, 3, none⟩ (.int .i64 (n5 : Int))) := by
  have hl : ((l : Int) == 1) = decide (l = 1) := by
    by_cases h1 : l = 1
    · subst h1; rfl
    · rw [decide_eq_false h1]; exact beq_eq_false_iff_ne.2 (by omega)
  rw [hl]
  have one : ∀ (W : World) (o : Nat) (v : Value), OnlyS (· = w.heap.size) W (W.setCell ⟨w.heap.size, o, none⟩ v) := fun W o v => OnlyS.setCell _ _ _ _ rfl
  have ho : OnlyS (· = w.heap.size) w5 ((((w5.setCell ⟨w.heap.size, 0, none⟩ (.int .i64 (k : Int))).setCell ⟨w.heap.size, 1, none⟩ (.bool (decide (l = 1)))).setCell ⟨w.heap.size, 2, none⟩ (.int .i64 (n : Int))).setCell ⟨w.heap.size, 3, none⟩ (.int .i64 (n5 : Int))) :=
    (((one _ _ _).trans (one _ _ _)).trans (one _ _ _)).trans (one _ _ _)
  have hr1 : (w5.setCell ⟨w.heap.size, 0, none⟩ (.int .i64 (k : Int))).heap[w.heap.size]? = some (.cells #[.int .i64 (k : Int), .bool false, .int .i64 0, .int .i64 0] 33 (0, 0)) := (heap_setCell_same _ _ _ _ _ _ h.res).trans rfl
  have hr2 : ((w5.setCell ⟨w.heap.size, 0, none⟩ (.int .i64 (k : Int))).setCell ⟨w.heap.size, 1, none⟩ (.bool (decide (l = 1)))).heap[w.heap.size]? = some (.cells #[.int .i64 (k : Int), .bool (decide (l = 1)), .int .i64 0, .int .i64 0] 33 (0, 0)) := (heap_setCell_same _ _ _ _ _ _ hr1).trans rfl
  have hr3 : (((w5.setCell ⟨w.heap.size, 0, none⟩ (.int .i64 (k : Int))).setCell ⟨w.heap.size, 1, none⟩ (.bool (decide (l = 1)))).setCell ⟨w.heap.size, 2, none⟩ (.int .i64 (n : Int))).heap[w.heap.size]? = some (.cells #[.int .i64 (k : Int), .bool (decide (l = 1)), .int .i64 (n : Int), .int .i64 0] 33 (0, 0)) := (heap_setCell_same _ _ _ _ _ _ hr2).trans rfl
  have hr4 : ((((w5.setCell ⟨w.heap.size, 0, none⟩ (.int .i64 (k : Int))).setCell ⟨w.heap.size, 1, none⟩ (.bool (decide (l = 1)))).setCell ⟨w.heap.size, 2, none⟩ (.int .i64 (n : Int))).setCell ⟨w.heap.size, 3, none⟩ (.int .i64 (n5 : Int))).heap[w.heap.size]? = some (.cells #[.int .i64 (k : Int), .bool (decide (l = 1)), .int .i64 (n : Int), .int .i64 (n5 : Int)] 33 (0, 0)) := (heap_setCell_same _ _ _ _ _ _ hr3).trans rfl
  generalize ((((w5.setCell ⟨w.heap.size, 0, none⟩ (.int .i64 (k : Int))).setCell ⟨w.heap.size, 1, none⟩ (.bool (decide (l = 1)))).setCell ⟨w.heap.size, 2, none⟩ (.int .i64 (n : Int))).setCell ⟨w.heap.size, 3, none⟩ (.int .i64 (n5 : Int))) = wf at *
  obtain ⟨f1, f2⟩ := h.fin ho
  have hfin : BlkPost R0 X B O gt gb g ov most w (.returned (kv { kind := k, last := decide (l = 1), from_ := n, to := n5 })) wf := ⟨f1, by rw [hE, hn, hn5]; exact ⟨rfl, f2⟩⟩
  have hj : (Tryd.prog.info? 33).map (·.size) = some 4 := by kernel_rfl
  exact bodyPost_ret (results_cell_row (p := 2) (ty := 33) rfl _ _ w.heap.size 33 _ (0, 0) _ rfl hr4 Tryd.underlying33 rfl hj) rfl hfin
set_option maxRecDepth 100000 in
set_option maxHeartbeats 4000000 in
theorem block_walk (w : World) (B : Nat) (O X : Nat → Prop) (gt gb g : Nat) (ov : Value) (most : Nat) (out : List UInt8) (pl : Value) (r : List Bool) (h : StAt w B O gt gb g ov most out pl r) (hX : ∀ i, X i → i < w.heap.size) (hf : FixAt w (fun i => own3 O gt ov i ∨ X i) pl) (hB : B ≤ w.heap.size) (hB0 : 0 < B) (hord : OrdAt w) :
    Calls Tryd.prog 31 #[.pointer (some ⟨gt, 0, none⟩)] w (BlkPost (Inf.block most out r) X B O gt gb g ov most w) := by
  obtain ⟨R0, hR0⟩ : ∃ R0, R0 = Inf.block most out r := ⟨_, rfl⟩
  rw [← hR0]
  rw [block_eq] at hR0
  have HB := Lib.hid (And.intro hB hB0)
  have HORD := Lib.hid hord
  have H := Lib.hid h
  have HX := Lib.hid hX
  have HF := Lib.hid hf
  have HSZ : Hid (∀ i, own3 O gt ov i → i < w.heap.size) := Lib.hid (fun i hi => (h.lt3 i hi).2)
  have HN1 := Lib.hid (fun W (hs : StB W B O gt gb g r) => number_walk W B O gt gb g 1 r hs (by omega))
  unfold iv at HN1
  clear h hB hB0 hord hX hf
  cases hn1 : Inf.numb 1 r with
  | error er =>
    rw [hn1] at hR0 HN1
    have HE := Lib.hid hR0
    clear hR0 hn1
    go_enter Tryd.func31, Tryd.ntmps31
    go_wp2_with fail
    generalize hw0 : w.alloc (.cells #[.int .i64 0, .bool false, .int .i64 0, .int .i64 0] 33) = w0 at *
    have hrow0 : w0.heap[w.heap.size]? = some (.cells #[.int .i64 0, .bool false, .int .i64 0, .int .i64 0] 33 (0, 0)) := by rw [← hw0]; exact heap_alloc_new w _
    have ho0 : OnlyS (fun _ => False) w w0 := by rw [← hw0]; exact OnlyS.alloc _ _
    have hz0 : w0.heap.size = w.heap.size + 1 := by rw [← hw0]; simp
    have HROW := Lib.hid hrow0
    have HO0 := Lib.hid ho0
    have HZ0 := Lib.hid hz0
    have HN1' := Lib.hid (HN1.out w0 (H.out.b.same ho0))
    clear hw0 hrow0 ho0 hz0
    refine HN1'.out.mono ?_
    rintro e w1 ⟨ho, rfl⟩
    have HOE : Hid (OnlyS (own3 O gt ov) w w1) := Lib.hid ((HO0.out.mono fun _ _ h => h.elim).trans (only3 ho))
    clear ho
    go_wp2_with fail
    exact ⟨rfl, HOE.out, by rw [HE.out]⟩
  | ok p1 =>
    obtain ⟨l, r1⟩ := p1
    have hl := numb_lt hn1
    rw [hn1] at hR0 HN1
    simp only at hR0
    have HN2 := Lib.hid (fun W O1 (hs : StB W B O1 gt gb g r1) => number_walk W B O1 gt gb g 2 r1 hs (by omega))
    unfold iv at HN2
    clear hn1
    cases hn2 : Inf.numb 2 r1 with
    | error er =>
      rw [hn2] at hR0 HN2
      have HE := Lib.hid hR0
      clear hR0 hn2
      go_enter Tryd.func31, Tryd.ntmps31
      go_wp2_with fail
      generalize hw0 : w.alloc (.cells #[.int .i64 0, .bool false, .int .i64 0, .int .i64 0] 33) = w0 at *
      have hrow0 : w0.heap[w.heap.size]? = some (.cells #[.int .i64 0, .bool false, .int .i64 0, .int .i64 0] 33 (0, 0)) := by rw [← hw0]; exact heap_alloc_new w _
      have ho0 : OnlyS (fun _ => False) w w0 := by rw [← hw0]; exact OnlyS.alloc _ _
      have hz0 : w0.heap.size = w.heap.size + 1 := by rw [← hw0]; simp
      have HROW := Lib.hid hrow0
      have HO0 := Lib.hid ho0
      have HZ0 := Lib.hid hz0
      have HN1' := Lib.hid (HN1.out w0 (H.out.b.same ho0))
      clear hw0 hrow0 ho0 hz0
      refine HN1'.out.mono ?_
      rintro e w1 ⟨ho, rfl, O1, hs1, hg1⟩
      have HO1 : Hid (OnlyS O w0 w1) := Lib.hid ho
      have HG1 : Hid (Grew w0 O O1) := Lib.hid hg1
      have HN2' := Lib.hid (HN2.out w1 O1 hs1)
      clear ho hs1 hg1
      go_wp2_with fail
      refine HN2'.out.mono ?_
      rintro e w1 ⟨ho, rfl⟩
      have HOE : Hid (OnlyS (own3 O gt ov) w w1) := Lib.hid ((HO0.out.mono fun _ _ h => h.elim).trans (only3 (HO1.out.trans' ho (fun i hi => HG1.out i hi))))
      clear ho
      go_wp2_with fail
      exact ⟨rfl, HOE.out, by rw [HE.out]⟩
    | ok p2 =>
      obtain ⟨k, r2⟩ := p2
      have hk := numb_lt hn2
      rw [hn2] at hR0 HN2
      simp only at hR0
      have HE := Lib.hid hR0
      clear hR0 hn2
      have hk4 : k < 4 := hk
      clear hk
      go_enter Tryd.func31, Tryd.ntmps31
      go_wp2_with fail
      generalize hw0 : w.alloc (.cells #[.int .i64 0, .bool false, .int .i64 0, .int .i64 0] 33) = w0 at *
      have hrow0 : w0.heap[w.heap.size]? = some (.cells #[.int .i64 0, .bool false, .int .i64 0, .int .i64 0] 33 (0, 0)) := by rw [← hw0]; exact heap_alloc_new w _
      have ho0 : OnlyS (fun _ => False) w w0 := by rw [← hw0]; exact OnlyS.alloc _ _
      have hz0 : w0.heap.size = w.heap.size + 1 := by rw [← hw0]; simp
      have HROW := Lib.hid hrow0
      have HO0 := Lib.hid ho0
      have HZ0 := Lib.hid hz0
      have HN1' := Lib.hid (HN1.out w0 (H.out.b.same ho0))
      clear hw0 hrow0 ho0 hz0
      refine HN1'.out.mono ?_
      rintro e w1 ⟨ho, rfl, O1, hs1, hg1⟩
      have HO1 : Hid (OnlyS O w0 w1) := Lib.hid ho
      have HG1 : Hid (Grew w0 O O1) := Lib.hid hg1
      have HN2' := Lib.hid (HN2.out w1 O1 hs1)
      clear ho hs1 hg1
      go_wp2_with fail
      refine HN2'.out.mono ?_
      rintro e w2 ⟨ho, rfl, O2, hs2, hg2⟩
      have HO2 : Hid (OnlyS O w0 w2) := Lib.hid (HO1.out.trans' ho (fun i hi => HG1.out i hi))
      have HG2 : Hid (Grew w0 O O2) := Lib.hid (HG1.out.trans hg2 HO1.out.size)
      have H2 : Hid (StAt w2 B O2 gt gb g ov most out pl r2) := Lib.hid ((H.out.same HO0.out).read HO2.out hs2 HG2.out)
      clear ho hs2 hg2 HO1 HG1 HN1 HN2 HN1' HN2'
      have c3 := H2.out.c3
      obtain ⟨po, co, hsho⟩ := (own_toV H2.out.own).shape
      rw [bl_length] at hsho
      subst hsho
      obtain ⟨n, hn⟩ : ∃ n, n = out.length := ⟨_, rfl⟩
      rw [← hn] at c3
      have HNL := Lib.hid hn
      clear hn
      have HA : Hid (BlkAt w w2 X B O O2 gt gb g (.slice po out.length co) (.slice po out.length co) most out pl r2) := Lib.hid ⟨(HO0.out.mono fun _ _ h => h.elim).trans (only3 HO2.out), H2.out,
        (fun i hi => by
          rcases grew3 (gt := gt) (ov := .slice po out.length co) HG2.out i hi with h1 | h1
          · exact .inl h1
          · exact .inr (by have := HZ0.out; omega)),
        (HO2.out.block w.heap.size (by have := HZ0.out; omega) (fun ho => by have := HSZ.out _ (.inl ho); omega)).trans HROW.out,
        (fun hi => by
          rcases grew3 (gt := gt) (ov := .slice po out.length co) HG2.out _ hi with h1 | h1
          · have := HSZ.out _ h1; omega
          · have := HZ0.out; omega),
        by have := HZ0.out; have := HO2.out.size; omega, HB.out.1, (by have := H.out.b.hand.box.lt; omega),
        ((HF.out.more (S := fun i => own3 O gt (.slice po out.length co) i ∨ X i ∨ i = w.heap.size) (fun i hi => by
          rcases hi with hi | hi | hi
          · exact .inl (.inl hi)
          · exact .inl (.inr hi)
          · exact .inr (by omega))).next (HO0.out.mono fun _ _ h => h.elim) (Grew.refl _ _)).next ((only3 HO2.out).mono fun _ _ h => .inl h) (BlkAt.grewX (grew3 (gt := gt) (ov := .slice po out.length co) HG2.out))⟩
      clear HF HROW HG2 HSZ HZ0 H2
      by_cases hk0 : k = 0
      · have hk0i : ((k : Int) == 0) = true := by subst hk0; rfl
        have HE1 : Hid (R0 = finK k l out.length (Inf.stored most out r2)) := Lib.hid (by rw [HE.out]; unfold kindB; rw [if_pos hk0])
        have HSW := Lib.hid (stored_walk w2 B O2 gt gb g _ most out pl r2 HA.out.st (by have := HA.out.lt; have := HB.out; omega))
        clear HE hk0
        go_wp2_with fail
        refine HSW.out.mono ?_
        rintro e w5 ⟨ho5, hp5⟩
        clear HSW
        cases hst : Inf.stored most out r2 with
        | error er =>
          rw [hst] at hp5 HE1
          have HE2 : Hid (R0 = .error er) := Lib.hid HE1.out
          have HOE := Lib.hid (HA.out.only.trans' ho5 (fun i hi => HA.out.grew i hi))
          simp only at hp5
          subst hp5
          clear hst ho5 HE1
          go_wp2_with fail
          exact ⟨rfl, HOE.out, by rw [HE2.out]⟩
        | ok p5 =>
          obtain ⟨out5, r5⟩ := p5
          rw [hst] at hp5 HE1
          simp only at hp5
          obtain ⟨rfl, O5, ov5, hs5, hg5⟩ := hp5
          have HE2 : Hid (R0 = .ok (({ kind := k, last := decide (l = 1), from_ := out.length, to := out5.length }, out5), r5)) := Lib.hid HE1.out
          have HA5 := Lib.hid (HA.out.go ho5 hs5 hg5)
          have c3 := hs5.c3
          obtain ⟨po5, co5, hsho5⟩ := (own_toV hs5.own).shape
          rw [bl_length] at hsho5
          subst hsho5
          obtain ⟨n5, hn5⟩ : ∃ n5, n5 = out5.length := ⟨_, rfl⟩
          rw [← hn5] at c3
          have HN5 := Lib.hid hn5
          have hres := HA5.out.res
          have cr0 := cell_of_row _ _ 0 _ _ _ hres
          have fr0 := frozen_of_row _ _ 0 _ _ hres
          have cr1 := cell_of_row _ _ 1 _ _ _ hres
          have fr1 := frozen_of_row _ _ 1 _ _ hres
          have cr2 := cell_of_row _ _ 2 _ _ _ hres
          have fr2 := frozen_of_row _ _ 2 _ _ hres
          have cr3 := cell_of_row _ _ 3 _ _ _ hres
          have fr3 := frozen_of_row _ _ 3 _ _ hres
          clear hst ho5 HE1 hs5 hg5 hn5 hres
          have HC5 := Lib.hid (And.intro cr0 cr1)
          go_wp2_with fail
          exact blk_ret HA5.out HNL.out HN5.out HE2.out
      · have hk0i : ((k : Int) == 0) = false := beq_eq_false_iff_ne.2 (by omega)
        by_cases hk1 : k = 1
        · have hk1i : ((k : Int) == 1) = true := by subst hk1; rfl
          have HE1 : Hid (R0 = finK k l out.length (Inf.body Inf.fixS Inf.fixD most (r2.length + 1) out r2)) := Lib.hid (by rw [HE.out]; unfold kindB; rw [if_neg hk0, if_pos hk1])
          have HFX := Lib.hid (fixed_walk w2 B O2 gt gb g _ most out pl r2 (fun i => own3 O2 gt (.slice po out.length co) i ∨ X i ∨ i = w.heap.size) HA.out.st (fun i hi => by
            rcases hi with hi | hi | hi
            · exact (HA.out.st.lt3 i hi).2
            · have := HX.out i hi; have := HA.out.lt; omega
            · rw [hi]; exact HA.out.lt) (fun i hi => .inl hi) HA.out.fix)
          clear HE hk0 hk1
          go_wp2_with fail
          refine HFX.out.mono ?_
          rintro e w3 ⟨gbk, ks, kd, rfl, ho3, hs3, hb3⟩
          have HA3 := Lib.hid (HA.out.next ho3 hs3 (Grew.refl _ _) (.inr ⟨gbk, ks, kd, rfl, hb3⟩))
          have HSW := Lib.hid (expand_walk w3 B O2 gt gb g _ most out _ r2 gbk ks kd Inf.fixS Inf.fixD HA3.out.st (hb3.sub fun i hi => .inl hi) (by have := HA3.out.lt; have := HB.out; omega))
          clear ho3 hs3 hb3 HFX
          go_wp2_with fail
          refine HSW.out.mono ?_
          rintro e w5 ⟨ho5, hp5⟩
          clear HSW
          cases hst : Inf.body Inf.fixS Inf.fixD most (r2.length + 1) out r2 with
          | error er =>
            rw [hst] at hp5 HE1
            have HE2 : Hid (R0 = .error er) := Lib.hid HE1.out
            have HOE := Lib.hid (HA3.out.only.trans' ho5 (fun i hi => HA3.out.grew i hi))
            simp only at hp5
            subst hp5
            clear hst ho5 HE1
            go_wp2_with fail
            exact ⟨rfl, HOE.out, by rw [HE2.out]⟩
          | ok p5 =>
            obtain ⟨out5, r5⟩ := p5
            rw [hst] at hp5 HE1
            simp only at hp5
            obtain ⟨rfl, O5, ov5, hs5, hg5⟩ := hp5
            have HE2 : Hid (R0 = .ok (({ kind := k, last := decide (l = 1), from_ := out.length, to := out5.length }, out5), r5)) := Lib.hid HE1.out
            have HA5 := Lib.hid (HA3.out.go ho5 hs5 hg5)
            have c3 := hs5.c3
            obtain ⟨po5, co5, hsho5⟩ := (own_toV hs5.own).shape
            rw [bl_length] at hsho5
            subst hsho5
            obtain ⟨n5, hn5⟩ : ∃ n5, n5 = out5.length := ⟨_, rfl⟩
            rw [← hn5] at c3
            have HN5 := Lib.hid hn5
            have hres := HA5.out.res
            have cr0 := cell_of_row _ _ 0 _ _ _ hres
            have fr0 := frozen_of_row _ _ 0 _ _ hres
            have cr1 := cell_of_row _ _ 1 _ _ _ hres
            have fr1 := frozen_of_row _ _ 1 _ _ hres
            have cr2 := cell_of_row _ _ 2 _ _ _ hres
            have fr2 := frozen_of_row _ _ 2 _ _ hres
            have cr3 := cell_of_row _ _ 3 _ _ _ hres
            have fr3 := frozen_of_row _ _ 3 _ _ hres
            clear hst ho5 HE1 hs5 hg5 hn5 hres
            have HC5 := Lib.hid (And.intro cr0 cr1)
            go_wp2_with fail
            exact blk_ret HA5.out HNL.out HN5.out HE2.out
        · have hk1i : ((k : Int) == 1) = false := beq_eq_false_iff_ne.2 (by omega)
          by_cases hk2 : k = 2
          · have hk2i : ((k : Int) == 2) = true := by subst hk2; rfl
            have HDY := Lib.hid (dynamic_walk w2 B O2 gt gb g r2 HA.out.st.b (by have := HA.out.lt; have := HB.out; omega) HB.out.2 (HORD.out.only HA.out.only (fun hi => by have := (H.out.lt3 0 hi).1; have := HB.out.2; omega)))
            cases hhd : Inf.heads r2 with
            | error er =>
              have HE1 : Hid (R0 = .error er) := Lib.hid (by rw [HE.out]; unfold kindB; rw [if_neg hk0, if_neg hk1, if_pos hk2, hhd]; rfl)
              rw [hhd] at HDY
              clear HE hk0 hk1 hk2 hhd
              go_wp2_with fail
              refine HDY.out.mono ?_
              rintro e w3 ⟨ho3, rfl⟩
              have HOE := Lib.hid (HA.out.only.trans' (only3 (gt := gt) (ov := .slice po out.length co) ho3) (fun i hi => HA.out.grew i hi))
              clear ho3
              go_wp2_with fail
              exact ⟨rfl, HOE.out, by rw [HE1.out]⟩
            | ok p3 =>
              obtain ⟨⟨zs, ds⟩, r3⟩ := p3
              have HE1 : Hid (R0 = finK k l out.length (Inf.body zs ds most (r3.length + 1) out r3)) := Lib.hid (by rw [HE.out]; unfold kindB; rw [if_neg hk0, if_neg hk1, if_pos hk2, hhd])
              rw [hhd] at HDY
              clear HE hk0 hk1 hk2 hhd
              go_wp2_with fail
              refine HDY.out.mono ?_
              rintro e w3 ⟨ho3, gbk, ks, kd, O3, rfl, hs3, hg3, hb3⟩
              have HA3 := Lib.hid (HA.out.go (only3 (gt := gt) (ov := .slice po out.length co) ho3) (HA.out.st.read ho3 hs3 hg3) (grew3 (gt := gt) (ov := .slice po out.length co) hg3))
              have HSW := Lib.hid (expand_walk w3 B O3 gt gb g _ most out pl r3 gbk ks kd zs ds HA3.out.st (hb3.at fun i hi => by
                rcases hi with hi | hi | hi
                · exact .inl hi
                · exact .inr (HA.out.st.lt3 i (.inr (.inl hi))).2
                · exact .inr (HA.out.st.lt3 i (.inr (.inr hi))).2) (by have := HA3.out.lt; have := HB.out; omega))
              clear ho3 hs3 hg3 hb3 HDY
              go_wp2_with fail
              refine HSW.out.mono ?_
              rintro e w5 ⟨ho5, hp5⟩
              clear HSW
              cases hst : Inf.body zs ds most (r3.length + 1) out r3 with
              | error er =>
                rw [hst] at hp5 HE1
                have HE2 : Hid (R0 = .error er) := Lib.hid HE1.out
                have HOE := Lib.hid (HA3.out.only.trans' ho5 (fun i hi => HA3.out.grew i hi))
                simp only at hp5
                subst hp5
                clear hst ho5 HE1
                go_wp2_with fail
                exact ⟨rfl, HOE.out, by rw [HE2.out]⟩
              | ok p5 =>
                obtain ⟨out5, r5⟩ := p5
                rw [hst] at hp5 HE1
                simp only at hp5
                obtain ⟨rfl, O5, ov5, hs5, hg5⟩ := hp5
                have HE2 : Hid (R0 = .ok (({ kind := k, last := decide (l = 1), from_ := out.length, to := out5.length }, out5), r5)) := Lib.hid HE1.out
                have HA5 := Lib.hid (HA3.out.go ho5 hs5 hg5)
                have c3 := hs5.c3
                obtain ⟨po5, co5, hsho5⟩ := (own_toV hs5.own).shape
                rw [bl_length] at hsho5
                subst hsho5
                obtain ⟨n5, hn5⟩ : ∃ n5, n5 = out5.length := ⟨_, rfl⟩
                rw [← hn5] at c3
                have HN5 := Lib.hid hn5
                have hres := HA5.out.res
                have cr0 := cell_of_row _ _ 0 _ _ _ hres
                have fr0 := frozen_of_row _ _ 0 _ _ hres
                have cr1 := cell_of_row _ _ 1 _ _ _ hres
                have fr1 := frozen_of_row _ _ 1 _ _ hres
                have cr2 := cell_of_row _ _ 2 _ _ _ hres
                have fr2 := frozen_of_row _ _ 2 _ _ hres
                have cr3 := cell_of_row _ _ 3 _ _ _ hres
                have fr3 := frozen_of_row _ _ 3 _ _ hres
                clear hst ho5 HE1 hs5 hg5 hn5 hres
                have HC5 := Lib.hid (And.intro cr0 cr1)
                go_wp2_with fail
                exact blk_ret HA5.out HNL.out HN5.out HE2.out
          · have hk2i : ((k : Int) == 2) = false := beq_eq_false_iff_ne.2 (by omega)
            have HE1 : Hid (R0 = .error 20) := Lib.hid (by rw [HE.out]; unfold kindB; rw [if_neg hk0, if_neg hk1, if_neg hk2]; rfl)
            clear HE hk0 hk1 hk2
            go_wp2_with fail
            exact ⟨rfl, HA.out.only, by rw [HE1.out]⟩
end Go.Proofs.YtefeilgbofphjaaDoor
/-
  handed, begun: a stream at its beginning.
-/
namespace Go.Proofs.YtefeilgbofphjaaDoor
open Go.RowKit
theorem handed_walk (w : World) (g : Nat) :
    Calls Tryd.prog 39 #[.pointer (some ⟨g, 0, none⟩)] w fun e w' => e = .returned (hand w.heap.size) ∧ w' = w.alloc (.cells #[.pointer (some ⟨g, 0, none⟩)] 65) := by
  go_enter Tryd.func39, Tryd.ntmps39
  go_wp2_with fail
  go_ret
  exact ⟨rfl, rfl⟩
set_option maxRecDepth 100000 in
set_option maxHeartbeats 1000000 in
/-- A source that was made anew, over a lower base. -/
theorem sourceOf_walk0 (w : World) (B0 : Nat) (hB0 : B0 ≤ w.heap.size) (v : Value) (b : List UInt8) (hv : SlV w v (bl b)) (hlen : b.length ≤ 1099511627776) (hbl : ∀ p m cap, v = .slice (some p) m cap → 0 < m → p.block < B0) :
    Calls Tryd.prog 38 #[v] w fun e w' => ∃ g, e = .returned (.pointer (some ⟨g, 0, none⟩)) ∧ Below w.heap.size w w' ∧ SrcAt w' B0 (fun i => w.heap.size ≤ i ∧ i < w'.heap.size) g (Inf.bits b) := by
  have HV := Lib.hid hv
  have HL := Lib.hid hlen
  have HB := Lib.hid hbl
  obtain ⟨pz, cz, rfl⟩ := hv.shape
  clear hv hlen hbl
  rw [bl_length] at *
  go_enter Tryd.func38, Tryd.ntmps38
  go_wp2_with fail
  refine (newreader_walk w (.slice none 0 0) [] (SlV.nil _ _) (by simp)).mono ?_
  rintro e w1 ⟨gp, pv, rfl, hb, hr, hg, hpv⟩
  have HQ : Hid (∃ g, (.returned (.pointer (some ⟨w1.heap.size, 0, none⟩)) : Ending) = .returned (.pointer (some ⟨g, 0, none⟩)) ∧ Below w.heap.size w (w1.alloc (.cells #[.pointer (some ⟨gp, 0, none⟩), .slice pz b.length cz] 84)) ∧ SrcAt (w1.alloc (.cells #[.pointer (some ⟨gp, 0, none⟩), .slice pz b.length cz] 84)) B0 (fun i => w.heap.size ≤ i ∧ i < (w1.alloc (.cells #[.pointer (some ⟨gp, 0, none⟩), .slice pz b.length cz] 84)).heap.size) g (Inf.bits b)) := Lib.hid (by
    have hs := hb.size
    have hlt := hr.lt
    have ha : OnlyS (fun _ => False) w1 (w1.alloc (.cells #[.pointer (some ⟨gp, 0, none⟩), .slice pz b.length cz] 84)) := OnlyS.alloc _ _
    refine ⟨w1.heap.size, rfl, hb.alloc hs _, gp, pv, [], 0, .slice pz b.length cz, b, ⟨heap_alloc_new _ _, hr.only ha (fun h => h) (fun _ _ _ _ _ h => h), ?_, HL.out, ⟨hs, by simp⟩, ⟨hg, by simp; omega⟩, by omega, ?_, HB.out, fun i hi => ⟨Nat.le_trans hB0 hi.1, hi.2⟩⟩, ?_⟩
    · exact slv_heap (HV.out.below hb (Nat.le_refl _)) ha
    · intro p m cap e h0
      have hb0 := hr.sl
      rw [e] at hb0
      have := hb0.len
      simp at this; omega
    · simp [left, Inf.bits])
  clear hb hr hg hpv HV HL HB
  go_wp2_with fail
  go_ret
  exact HQ.out
def BegunPost (B0 most : Nat) (b : List UInt8) (w : World) (e : Ending) (w' : World) : Prop :=
  ∃ gt gb g O, e = .returned (.pointer (some ⟨gt, 0, none⟩)) ∧ Below w.heap.size w w' ∧ StAt w' B0 O gt gb g (.slice none 0 0) most [] (.pointer none) (Inf.bits b) ∧ (∀ i, own3 O gt (.slice none 0 0) i → w.heap.size ≤ i) ∧ w.heap.size ≤ gb
set_option maxRecDepth 100000 in
set_option maxHeartbeats 1000000 in
theorem begun_walk (w : World) (B0 : Nat) (hB0 : B0 ≤ w.heap.size) (v : Value) (b : List UInt8) (most : Nat) (hv : SlV w v (bl b)) (hlen : b.length ≤ 1099511627776) (hbl : ∀ p m cap, v = .slice (some p) m cap → 0 < m → p.block < B0) (hm : most ≤ 1073741824) :
    Calls Tryd.prog 30 #[v, .int .i64 (most : Int)] w (BegunPost B0 most b w) := by
  have HS := Lib.hid (sourceOf_walk0 w B0 hB0 v b hv hlen hbl)
  have HM := Lib.hid hm
  obtain ⟨pz, cz, rfl⟩ := hv.shape
  clear hv hlen hbl hm
  rw [bl_length] at *
  go_enter Tryd.func30, Tryd.ntmps30
  go_wp2_with fail
  refine HS.out.mono ?_
  rintro e w1 ⟨g, rfl, hb, hs⟩
  have HB := Lib.hid hb
  have HSS := Lib.hid hs
  clear hb hs
  go_wp2_with fail
  refine (handed_walk _ _).mono ?_
  rintro e w2 ⟨rfl, hw2⟩
  have HW2 := Lib.hid hw2
  clear hw2
  unfold hand
  go_wp2_with fail
  go_ret
  have hw2 := HW2.out
  have ha2 : OnlyS (fun _ => False) w1 w2 := by rw [hw2]; exact OnlyS.alloc _ _
  have hbox : BoxAt w2 w1.heap.size (.pointer (some ⟨g, 0, none⟩)) 65 := by rw [hw2]; exact BoxAt.new _ _ _
  have hz2 : w2.heap.size = w1.heap.size + 1 := by rw [hw2]; simp
  have hle := HB.out.size
  have ha3 : OnlyS (fun _ => False) w2 (w2.alloc (.cells #[.pointer (some ⟨g, 0, none⟩), .func (.func 56) #[] #[.pointer (some ⟨w1.heap.size, 0, none⟩)], .int .i64 (most : Int), .slice none 0 0, .pointer none] 69)) := OnlyS.alloc _ _
  have hrow := heap_alloc_new w2 (.cells #[.pointer (some ⟨g, 0, none⟩), .func (.func 56) #[] #[.pointer (some ⟨w1.heap.size, 0, none⟩)], .int .i64 (most : Int), .slice none 0 0, .pointer none] 69)
  have hbel : Below w.heap.size w (w2.alloc (.cells #[.pointer (some ⟨g, 0, none⟩), .func (.func 56) #[] #[.pointer (some ⟨w1.heap.size, 0, none⟩)], .int .i64 (most : Int), .slice none 0 0, .pointer none] 69)) := by
    rw [hw2]
    exact (HB.out.alloc HB.out.size _).alloc (by have := HB.out.size; simp; omega) _
  generalize (w2.alloc (.cells #[.pointer (some ⟨g, 0, none⟩), .func (.func 56) #[] #[.pointer (some ⟨w1.heap.size, 0, none⟩)], .int .i64 (most : Int), .slice none 0 0, .pointer none] 69)) = w3 at *
  refine ⟨w2.heap.size, w1.heap.size, g, fun i => w.heap.size ≤ i ∧ i < w1.heap.size, rfl, hbel, ?_, ?_, hle⟩
  rotate_left
  · intro i hi
    rcases hi with hi | hi | hi
    · exact hi.1
    · omega
    · simp [Value.ownBlock] at hi
  have hh : HandAt w3 B0 (fun i => w.heap.size ≤ i ∧ i < w1.heap.size) w1.heap.size g (Inf.bits b) :=
    ⟨hbox.only ha3 (fun h => h), fun h => by omega, Nat.le_trans hB0 hle, HSS.out.only (ha2.trans ha3) (fun _ h => h.elim)⟩
  exact ⟨⟨cell_of_row _ _ _ _ _ _ hrow, cell_of_row _ _ _ _ _ _ hrow, fun h => by omega, by omega, hh⟩, hrow, World.ownsRow_nil _ _ _ _, fun j hj => by simp [Value.ownBlock] at hj, by omega, Nat.zero_le _, HM.out⟩
end Go.Proofs.YtefeilgbofphjaaDoor
/-
  The deferred closure that recovers.
-/
namespace Go.Proofs.YtefeilgbofphjaaDoor
open Go.RowKit
theorem caught_idle (a b : Addr) (w : World) :
    CallsD Tryd.prog 29 #[.pointer (some a), .pointer (some b)] .returning w fun e u' w' => e = .returned (.tuple #[]) ∧ u' = .returning ∧ w' = w := by
  refine callsD_of_wpS Tryd.func29 rfl fun c₀ cs hu => ?_
  apply wpS_seq
  apply wpS_region
  simp [wpOpsS, go_sem, recoverD, hu, Tryd.ntmps29, Exit.thenS]
  apply wpS_seq
  refine wpS_of_wp ?_
  go_wp2_with fail
  simp only [Exit.thenS]
  refine wpS_cond (t := false) (by simp [Act.eval, Array.replicate]) ?_
  simp only [Bool.false_eq_true, if_false]
  refine wpS_of_wp (wp_skip ?_)
  cases c₀
  simp_all [bodyPostS, results, Tryd.results29]
theorem run_assert26 (v : Value) (w : World) : (Instr.typeAssert (.iface 26 v) 20 26 false).run Tryd.prog w = .ok v w := by
  simp [Instr.typeAssert, run_underlying Tryd.underlying26]
def CatchPost (g6 g7 : Nat) (er : Int) (older : List PanicEntry) (w : World) (e : Ending) (u' : FrameMode) (w' : World) : Prop :=
  e = .returned (.tuple #[]) ∧ u' = .panicking ({ v := .iface 26 (.int .i64 er), recovered := true } :: older) ∧ w'.heap[g6]? = some (.cells #[.pointer none] 61 (0, 0)) ∧ w'.heap[g7]? = some (.cells #[.int .i64 er] 26 (0, 0)) ∧ OnlyS (fun i => i = g6 ∨ i = g7) w w'
theorem caught_pan (g6 g7 : Nat) (x y : Value) (er : Int) (older : List PanicEntry) (w : World) (h6 : w.heap[g6]? = some (.cells #[x] 61 (0, 0))) (h7 : w.heap[g7]? = some (.cells #[y] 26 (0, 0))) (hne : g6 ≠ g7) :
    CallsD Tryd.prog 29 #[.pointer (some ⟨g6, 0, none⟩), .pointer (some ⟨g7, 0, none⟩)] (.panicking ({ v := .iface 26 (.int .i64 er), recovered := false } :: older)) w (CatchPost g6 g7 er older w) := by
  have c6 := cell_of_row _ _ 0 _ _ _ h6
  have f6 := frozen_of_row _ _ 0 _ _ h6
  have c7 := cell_of_row _ _ 0 _ _ _ h7
  have f7 := frozen_of_row _ _ 0 _ _ h7
  have hta := run_assert26 (.int .i64 er)
  have hr6 : ((w.setCell ⟨g6, 0, none⟩ (.pointer none)).setCell ⟨g7, 0, none⟩ (.int .i64 er)).drew.heap[g6]? = some (.cells #[.pointer none] 61 (0, 0)) := (heap_setCell_other _ _ _ _ hne).trans ((heap_setCell_same _ _ _ _ _ _ h6).trans rfl)
  have hr7 : ((w.setCell ⟨g6, 0, none⟩ (.pointer none)).setCell ⟨g7, 0, none⟩ (.int .i64 er)).drew.heap[g7]? = some (.cells #[.int .i64 er] 26 (0, 0)) := (heap_setCell_same _ _ _ _ _ _ ((heap_setCell_other _ _ _ _ (Ne.symm hne)).trans h7)).trans rfl
  have ho : OnlyS (fun i => i = g6 ∨ i = g7) w ((w.setCell ⟨g6, 0, none⟩ (.pointer none)).setCell ⟨g7, 0, none⟩ (.int .i64 er)).drew := ((OnlyS.setCell _ _ _ _ (.inl rfl)).trans (OnlyS.setCell _ _ _ _ (.inr rfl))).trans (OnlyS.drew _)
  have hc6 : w.cell? ⟨g6, 0, none⟩ = some x := c6
  have hc7 : w.cell? ⟨g7, 0, none⟩ = some y := c7
  refine callsD_of_wpS Tryd.func29 rfl fun c₀ cs hu => ?_
  apply wpS_seq
  apply wpS_region
  simp [wpOpsS, go_sem, recoverD, hu, Tryd.ntmps29, Exit.thenS]
  apply wpS_seq
  refine wpS_of_wp ?_
  go_wp2_with fail
  simp only [Exit.thenS]
  refine wpS_cond (t := true) (by simp [Act.eval, Array.replicate]) ?_
  simp only [if_true]
  refine wpS_of_wp ?_
  simp [Array.replicate]
  go_region_law (fail)
  all_goals simp [bodyPostS, results, Tryd.results29]
  all_goals exact ⟨rfl, rfl, hr6, hr7, ho⟩
end Go.Proofs.YtefeilgbofphjaaDoor
/-
  What a block takes: fewer bits are left.
-/
namespace Go.Proofs.YtefeilgbofphjaaDoor
theorem body_less (zs ds : List Int) (most : Nat) : ∀ (f : Nat) (out out' : List UInt8) (r r' : List Bool), Inf.body zs ds most f out r = .ok (out', r') → r'.length ≤ r.length
  | 0, out, out', r, r', h => by rw [Inf.body] at h; cases h
  | f + 1, out, out', r, r', h => by
    rw [Inf.body] at h
    cases hs : Inf.symb zs r with
    | error e => rw [hs] at h; cases h
    | ok p =>
      obtain ⟨s, r1⟩ := p
      have h1 := symb_less hs
      rw [hs] at h
      simp only at h
      split at h
      · split at h
        · cases h
        · have := body_less zs ds most f _ _ _ _ h; omega
      · split at h
        · cases h; omega
        · cases hl : Inf.long s r1 with
          | error e => rw [hl] at h; cases h
          | ok p =>
            obtain ⟨n, r2⟩ := p
            have h2 := (long_less hl).1
            rw [hl] at h
            simp only at h
            cases hb : Inf.back ds most n out r2 with
            | error e => rw [hb] at h; cases h
            | ok p =>
              obtain ⟨o2, r3⟩ := p
              have h3 := back_less hb
              rw [hb] at h
              have := body_less zs ds most f _ _ _ _ h
              omega
theorem teller_less : ∀ (n : Nat) (lens l : List Int) (k : Nat) (r r' : List Bool), Inf.teller n lens k r = .ok (l, r') → r'.length ≤ r.length
  | 0, lens, l, k, r, r', h => by rw [Inf.teller] at h; cases h; exact Nat.le_refl _
  | n + 1, lens, l, k, r, r', h => by
    rw [Inf.teller] at h
    cases hn : Inf.numb 3 r with
    | error e => rw [hn] at h; cases h
    | ok p =>
      obtain ⟨x, r1⟩ := p
      have h1 := numb_less hn
      rw [hn] at h
      have := teller_less n _ _ _ _ _ h
      omega
theorem run_less {zs ahead : List Int} {r r' : List Bool} {x : Int × Nat} (h : Inf.run zs ahead r = .ok (x, r')) : r'.length ≤ r.length := by
  unfold Inf.run at h
  cases hs : Inf.symb zs r with
  | error e => rw [hs] at h; cases h
  | ok p =>
    obtain ⟨s, r1⟩ := p
    have h1 := symb_less hs
    rw [hs] at h
    simp only at h
    have key : ∀ m {y : Nat} {r2 : List Bool}, Inf.numb m r1 = .ok (y, r2) → r2.length ≤ r.length := fun m y r2 hn => by have := numb_less hn; omega
    split at h
    · cases hn : Inf.numb 2 r1 with
      | error e => rw [hn] at h; cases h
      | ok p =>
        obtain ⟨y, r2⟩ := p
        rw [hn] at h
        simp only at h
        split at h
        · cases h
        · cases h; exact key 2 hn
    · split at h
      · cases hn : Inf.numb 3 r1 with
        | error e => rw [hn] at h; cases h
        | ok p => obtain ⟨y, r2⟩ := p; rw [hn] at h; cases h; exact key 3 hn
      · split at h
        · cases hn : Inf.numb 7 r1 with
          | error e => rw [hn] at h; cases h
          | ok p => obtain ⟨y, r2⟩ := p; rw [hn] at h; cases h; exact key 7 hn
        · cases h; omega
theorem lens_less (zs : List Int) (many : Nat) : ∀ (f : Nat) (ahead l : List Int) (r r' : List Bool), Inf.lens zs many f ahead r = .ok (l, r') → r'.length ≤ r.length
  | 0, ahead, l, r, r', h => by rw [Inf.lens] at h; cases h
  | f + 1, ahead, l, r, r', h => by
    rw [Inf.lens] at h
    split at h
    · cases hr : Inf.run zs ahead r with
      | error e => rw [hr] at h; cases h
      | ok p =>
        obtain ⟨⟨z, t⟩, r2⟩ := p
        have h1 := run_less hr
        rw [hr] at h
        have := lens_less zs many f _ l r2 r' h
        omega
    · split at h
      · cases h
      · cases h; exact Nat.le_refl _
theorem heads_less {r r' : List Bool} {p : List Int × List Int} (h : Inf.heads r = .ok (p, r')) : r'.length ≤ r.length := by
  rw [heads_eq] at h
  cases h1 : Inf.numb 5 r with
  | error e => rw [h1] at h; cases h
  | ok q =>
    obtain ⟨l, r1⟩ := q
    rw [h1] at h
    simp only at h
    cases h2 : Inf.numb 5 r1 with
    | error e => rw [h2] at h; cases h
    | ok q =>
      obtain ⟨d, r2⟩ := q
      rw [h2] at h
      simp only at h
      cases h3 : Inf.numb 4 r2 with
      | error e => rw [h3] at h; cases h
      | ok q =>
        obtain ⟨c, r3⟩ := q
        rw [h3] at h
        simp only [headB] at h
        have e1 := numb_less h1
        have e2 := numb_less h2
        have e3 := numb_less h3
        split at h
        · cases h
        · unfold telB tellR at h
          cases h4 : Inf.teller (4 + c) (List.replicate 19 0) 0 r3 with
          | error e => rw [h4] at h; cases h
          | ok q =>
            obtain ⟨zs, r4⟩ := q
            have e4 := teller_less _ _ _ _ _ _ h4
            rw [h4] at h
            simp only [telFin] at h
            cases h5 : Inf.book zs with
            | error e => rw [h5] at h; cases h
            | ok _ =>
              rw [h5] at h
              simp only [lenB] at h
              cases h6 : Inf.lens zs (257 + l + (1 + d)) (257 + l + (1 + d) + 1) [] r4 with
              | error e => rw [h6] at h; cases h
              | ok q =>
                obtain ⟨all, r5⟩ := q
                have e6 := lens_less _ _ _ _ _ _ _ h6
                rw [h6] at h
                simp only [finB] at h
                split at h
                · cases h
                · cases h7 : Inf.book (all.take (257 + l)) with
                  | error e => rw [h7] at h; cases h
                  | ok _ =>
                    rw [h7] at h
                    simp only at h
                    cases h8 : Inf.book (all.drop (257 + l)) with
                    | error e => rw [h8] at h; cases h
                    | ok _ => rw [h8] at h; cases h; omega
theorem stored_less {most : Nat} {out out' : List UInt8} {r r' : List Bool} (h : Inf.stored most out r = .ok (out', r')) : r'.length ≤ r.length := by
  unfold Inf.stored at h
  cases h1 : Inf.numb 16 (r.drop (r.length % 8)) with
  | error e => rw [h1] at h; cases h
  | ok q =>
    obtain ⟨n, r1⟩ := q
    have e1 := numb_less h1
    rw [List.length_drop] at e1
    rw [h1] at h
    simp only at h
    cases h2 : Inf.numb 16 r1 with
    | error e => rw [h2] at h; cases h
    | ok q =>
      obtain ⟨m, r2⟩ := q
      have e2 := numb_less h2
      rw [h2] at h
      simp only at h
      split at h
      · cases h
      · unfold Inf.take at h
        split at h
        · cases h
        split at h
        · cases h
        · cases h
          rw [List.length_drop]
          omega
theorem block_less {most : Nat} {out out' : List UInt8} {r r' : List Bool} {k : Inf.Blk} (h : Inf.block most out r = .ok ((k, out'), r')) : r'.length < r.length := by
  rw [block_eq] at h
  cases h1 : Inf.numb 1 r with
  | error e => rw [h1] at h; cases h
  | ok q =>
    obtain ⟨l, r1⟩ := q
    have e1 := numb_less h1
    rw [h1] at h
    simp only at h
    cases h2 : Inf.numb 2 r1 with
    | error e => rw [h2] at h; cases h
    | ok q =>
      obtain ⟨kk, r2⟩ := q
      have e2 := numb_less h2
      rw [h2] at h
      simp only at h
      have key : ∀ R : Inf.Res (List UInt8), R = kindB most out kk r2 → ∀ o3 r3, R = .ok (o3, r3) → r3.length ≤ r2.length := by
        intro R hR o3 r3 h3
        rw [h3] at hR
        unfold kindB at hR
        split at hR
        · exact stored_less hR.symm
        split at hR
        · exact body_less _ _ _ _ _ _ _ _ hR.symm
        split at hR
        · cases h4 : Inf.heads r2 with
          | error e => rw [h4] at hR; cases hR
          | ok q =>
            obtain ⟨⟨zs, ds⟩, r4⟩ := q
            have e4 := heads_less h4
            rw [h4] at hR
            have := body_less _ _ _ _ _ _ _ _ hR.symm
            omega
        · cases hR
      cases h3 : kindB most out kk r2 with
      | error e => rw [h3] at h; cases h
      | ok q =>
        obtain ⟨o3, r3⟩ := q
        have e3 := key _ rfl _ _ h3
        rw [h3] at h
        cases h
        omega
end Go.Proofs.YtefeilgbofphjaaDoor
