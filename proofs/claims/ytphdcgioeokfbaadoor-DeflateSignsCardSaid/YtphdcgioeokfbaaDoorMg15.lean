/-
  Merged, in the order in which they build: Strm.
-/
import Derived.Test.YtphdcgioeokfbaaDoorMg14
/-
  Blocks, streams that are written, and how they are read back; bytes of bits.
-/
namespace Go.Proofs.YtphdcgioeokfbaaDoor
open Hf

theorem testBit_val : ∀ (L : List Bool) (i : Nat), (Inf.val L).testBit i = L.getD i false
  | [], i => by simp [Inf.val]
  | b :: t, 0 => by
    rw [Inf.val, Nat.testBit_zero, List.getD_cons_zero]
    cases b <;> simp <;> omega
  | b :: t, i + 1 => by
    rw [Inf.val, Nat.testBit_succ, List.getD_cons_succ, ← testBit_val t i]
    congr 1
    cases b <;> simp <;> omega
theorem num_val (L : List Bool) (k : Nat) (h : k ≤ L.length) : num (Inf.val L) k = L.take k := by
  apply List.ext_getElem
  · simp; omega
  · intro i h1 h2
    simp only [num, List.getElem_map, List.getElem_range, testBit_val, List.getElem_take]
    simp at h1
    simp [show i < L.length by omega]
theorem val_pad (L : List Bool) : ∀ k, Inf.val (L ++ List.replicate k false) = Inf.val L := by
  intro k
  induction k with
  | zero => simp
  | succ k ih => rw [List.replicate_succ', ← List.append_assoc, Inf.val_snoc, ih]; simp
theorem bit8_num (x : UInt8) : Inf.bit8 x = num x.toNat 8 := rfl
theorem bits_cons8 (x : UInt8) (b : List UInt8) : Inf.bits (x :: b) = num x.toNat 8 ++ Inf.bits b := rfl
theorem val8 (L : List Bool) (h : L.length ≤ 8) : (UInt8.ofNat (Inf.val L)).toNat = Inf.val L := by
  rw [UInt8.toNat_ofNat']
  have h1 := Inf.val_lt L
  have h2 : 2 ^ L.length ≤ 2 ^ 8 := Nat.pow_le_pow_right (by decide) h
  exact Nat.mod_eq_of_lt (by omega)
/-- The bits of bytes out of bits. -/
theorem bits_byts : ∀ (n : Nat) (r : List Bool), 8 * n ≤ r.length → Inf.bits (Inf.byts n r) = r.take (8 * n)
  | 0, r, _ => by simp [Inf.byts, Inf.bits]
  | n + 1, r, h => by
    rw [Inf.byts, bits_cons8, val8 _ (by simp; omega), num_val _ 8 (by simp; omega), bits_byts n _ (by simp; omega), List.take_take, Nat.min_self, show 8 * (n + 1) = 8 + 8 * n by omega, List.take_add]
theorem byts_all : ∀ (b : List UInt8) (r : List Bool), Inf.byts b.length (Inf.bits b ++ r) = b
  | [], r => rfl
  | x :: b, r => by
    rw [List.length_cons, Inf.byts, bits_cons8, List.append_assoc, List.take_append_of_le_length (by simp), List.drop_append_of_le_length (by simp), List.take_of_length_le (by simp), List.drop_of_length_le (by simp), List.nil_append, byts_all b r, val_num, Nat.mod_eq_of_lt (by have := x.toNat_lt; omega), UInt8.ofNat_toNat]
theorem byts_pad : ∀ (n : Nat) (r : List Bool) (k : Nat), Inf.byts n (r ++ List.replicate k false) = Inf.byts n r
  | 0, r, k => rfl
  | n + 1, r, k => by
    rw [Inf.byts, Inf.byts]
    have e1 : Inf.val ((r ++ List.replicate k false).take 8) = Inf.val (r.take 8) := by
      rw [List.take_append, List.take_replicate, val_pad]
    have e2 : ∃ j, (r ++ List.replicate k false).drop 8 = r.drop 8 ++ List.replicate j false := ⟨k - (8 - r.length), by rw [List.drop_append, List.drop_replicate]⟩
    obtain ⟨j, e2⟩ := e2
    rw [e1, e2, byts_pad n]
/-- Bits in bytes. -/
def pack (L : List Bool) : List UInt8 := Inf.byts ((L.length + 7) / 8) L
theorem pack_length (L : List Bool) : (pack L).length = (L.length + 7) / 8 := Inf.byts_length _ _
theorem bits_pack (L : List Bool) : Inf.bits (pack L) = L ++ List.replicate (8 * ((L.length + 7) / 8) - L.length) false := by
  unfold pack
  rw [← byts_pad _ L (8 * ((L.length + 7) / 8) - L.length), bits_byts _ _ (by simp; omega), List.take_of_length_le (by simp; omega)]
/-- The bits of what a stream lacks its last byte. -/
theorem bits_less (L : List Bool) (h : 0 < L.length) : Inf.bits ((pack L).take ((pack L).length - 1)) = L.take (8 * ((pack L).length - 1)) := by
  have hn : ∃ n, (L.length + 7) / 8 = n + 1 := ⟨(L.length + 7) / 8 - 1, by omega⟩
  obtain ⟨n, hn⟩ := hn
  rw [pack_length, hn, Nat.add_sub_cancel]
  have e : (pack L).take n = Inf.byts n L := by
    unfold pack
    rw [hn, Inf.byts_add n 1, List.take_append_of_le_length (by rw [Inf.byts_length]; exact Nat.le_refl _), List.take_of_length_le (by rw [Inf.byts_length]; exact Nat.le_refl _)]
  rw [e, bits_byts _ _ (by omega)]
theorem byts_getD : ∀ (n : Nat) (r : List Bool) (j : Nat), j < n → (Inf.byts n r).getD j 0 = UInt8.ofNat (Inf.val ((r.drop (8 * j)).take 8))
  | 0, r, j, h => by omega
  | n + 1, r, 0, _ => by rw [Inf.byts, List.getD_cons_zero]; simp
  | n + 1, r, j + 1, h => by rw [Inf.byts, List.getD_cons_succ, byts_getD n _ j (by omega), List.drop_drop, show 8 + 8 * j = 8 * (j + 1) by omega]
/-- One bit more. -/
theorem pack_more (L : List Bool) (b : Bool) (q : List UInt8) (hq : q = if L.length % 8 = 0 then pack L ++ [0] else pack L) : pack (L ++ [b]) = q.set (L.length / 8) (q.getD (L.length / 8) 0 ||| UInt8.ofNat (b.toNat * 2 ^ (L.length % 8))) ∧ L.length / 8 < q.length := by
  have hl : q.length = L.length / 8 + 1 := by
    subst hq
    split
    · rw [List.length_append, pack_length, List.length_singleton]; omega
    · rw [pack_length]; omega
  have hg : ∀ j, j ≤ L.length / 8 → q.getD j 0 = UInt8.ofNat (Inf.val ((L.drop (8 * j)).take 8)) := by
    intro j hj
    subst hq
    split
    · rename_i h8
      rcases Nat.lt_or_ge j (L.length / 8) with h | h
      · have : (pack L ++ [0]).getD j 0 = (pack L).getD j 0 := by
          simp only [List.getD_eq_getElem?_getD]
          rw [List.getElem?_append_left (by rw [pack_length]; omega)]
        rw [this]
        exact byts_getD _ _ _ (by omega)
      · obtain rfl : j = L.length / 8 := by omega
        have hd : L.drop (8 * (L.length / 8)) = [] := List.drop_of_length_le (by omega)
        have hp : (pack L).length = L.length / 8 := by rw [pack_length]; omega
        rw [hd]
        simp only [List.getD_eq_getElem?_getD]
        rw [List.getElem?_append_right (by omega), hp]
        simp [Inf.val]
    · exact byts_getD _ _ _ (by omega)
  refine ⟨?_, by omega⟩
  have hpl : (pack (L ++ [b])).length = L.length / 8 + 1 := by rw [pack_length, List.length_append, List.length_singleton]; omega
  apply List.ext_getElem
  · rw [List.length_set, hpl, hl]
  · intro j h1 h2
    have e1 : ∀ (l : List UInt8) (h : j < l.length), l[j] = l.getD j 0 := fun l h => by simp [h]
    rw [e1 _ h1, e1 _ h2]
    have ep : (pack (L ++ [b])).getD j 0 = UInt8.ofNat (Inf.val (((L ++ [b]).drop (8 * j)).take 8)) := byts_getD _ _ _ (by rw [pack_length] at h1; exact h1)
    rw [ep]
    have es : (q.set (L.length / 8) (q.getD (L.length / 8) 0 ||| UInt8.ofNat (b.toNat * 2 ^ (L.length % 8)))).getD j 0 = if j = L.length / 8 then q.getD (L.length / 8) 0 ||| UInt8.ofNat (b.toNat * 2 ^ (L.length % 8)) else q.getD j 0 := by
      simp only [List.getD_eq_getElem?_getD, List.getElem?_set]
      by_cases e : L.length / 8 = j
      · rw [if_pos e, if_pos (by omega), if_pos e.symm]; rfl
      · rw [if_neg e, if_neg (fun h => e h.symm)]
    rw [es]
    rw [hpl] at h1
    by_cases e : j = L.length / 8
    · rw [if_pos e, hg _ (Nat.le_refl _), e]
      have hdl : (L.drop (8 * (L.length / 8))).length = L.length % 8 := by rw [List.length_drop]; omega
      have hd2 : (L ++ [b]).drop (8 * (L.length / 8)) = L.drop (8 * (L.length / 8)) ++ [b] := List.drop_append_of_le_length (by omega)
      rw [hd2, List.take_of_length_le (by rw [List.length_append, hdl, List.length_singleton]; omega), List.take_of_length_le (by omega), Inf.val_snoc, hdl]
      have hv := Inf.val_lt (L.drop (8 * (L.length / 8)))
      rw [hdl] at hv
      have hb : b.toNat ≤ 1 := by cases b <;> decide
      have hp8 : 2 ^ (L.length % 8) ≤ 2 ^ 7 := Nat.pow_le_pow_right (by decide) (by omega)
      have hb2 : b.toNat * 2 ^ (L.length % 8) ≤ 1 * 2 ^ (L.length % 8) := Nat.mul_le_mul_right _ hb
      have hor := or_add (Inf.val (L.drop (8 * (L.length / 8)))) (L.length % 8) b.toNat hv
      generalize Inf.val (L.drop (8 * (L.length / 8))) = v at hv hor ⊢
      generalize b.toNat * 2 ^ (L.length % 8) = y at hb2 hor ⊢
      generalize 2 ^ (L.length % 8) = z at hv hp8 hb2
      have m1 : (v + y) % 2 ^ 8 = v + y := Nat.mod_eq_of_lt (by omega)
      have m2 : v % 2 ^ 8 = v := Nat.mod_eq_of_lt (by omega)
      have m3 : y % 2 ^ 8 = y := Nat.mod_eq_of_lt (by omega)
      apply UInt8.toNat_inj.1
      rw [UInt8.toNat_or, UInt8.toNat_ofNat', UInt8.toNat_ofNat', UInt8.toNat_ofNat', m1, m2, m3, hor]
    · rw [if_neg e, hg j (by omega)]
      have : ((L ++ [b]).drop (8 * j)).take 8 = (L.drop (8 * j)).take 8 := by
        rw [List.drop_append_of_le_length (by omega), List.take_append_of_le_length (by rw [List.length_drop]; omega)]
      rw [this]
/-- What a block of a kind has, that is written: behind p bits, from what went out to what did then. -/
structure KindW (p kind : Nat) (M : List Bool) (out out2 : List UInt8) : Prop where
  go : ∀ most, out2.length ≤ most → GetsA p (fun r => kindB most out kind r) M out2
  cap : ∀ most, out.length ≤ most → most < out2.length → Caps p (fun r => kindB most out kind r) M
  le : out.length ≤ out2.length
theorem kindw_fixed {zs ds : List Int} {ts : List Tok} {out : List UInt8} (p : Nat) (ez : zs = Inf.fixS) (ed : ds = Inf.fixD) (hz : Coded zs) (hd : Coded ds) (hs : 0 < zs.getD 256 0) (ho : oks ts out) (hh : ∀ t ∈ ts, t.has zs ds) : KindW p 1 (body zs ds ts) out (effs ts out) := by
  have e : ∀ most r, kindB most out 1 r = Inf.body zs ds most (r.length + 1) out r := fun most r => by unfold kindB; rw [if_neg (by decide), if_pos rfl, ez, ed]
  refine ⟨fun most hm => ⟨fun r _ => ?_, fun P t he ht _ => ?_⟩, fun most hle hm r _ => ?_, effs_le _ _⟩
  · rw [e]; exact body_go hz hd hs ts out _ r ho hh hm (by omega)
  · rw [e]; exact body_few hz hd hs ts out _ P t ho hh hm he ht (by omega)
  · refine (e _ _).trans ?_; exact body_cap hz hd ts out _ r ho hh hm hle (by omega)
theorem kindw_dyn {a b first : List Int} {c : Nat} {gs : List Sg} {ts : List Tok} {out : List UInt8} (p : Nat) (h : HeadOk a b first c gs) (ha : kr a ≤ 32768) (hb : kr b ≤ 32768) (hs : 0 < a.getD 256 0) (ho : oks ts out) (hh : ∀ t ∈ ts, t.has a b) : KindW p 2 (headBits a b first c gs ++ body a b ts) out (effs ts out) := by
  have hz : Coded a := ⟨may_good h.am, ha⟩
  have hd : Coded b := ⟨may_good h.bm, hb⟩
  have e : ∀ most r, kindB most out 2 r = match Inf.heads r with | .ok ((zs, ds), r) => Inf.body zs ds most (r.length + 1) out r | .error e => .error e := fun most r => by unfold kindB; rw [if_neg (by decide), if_neg (by decide), if_pos rfl]; cases Inf.heads r with | error e => rfl | ok p => rfl
  have e1 : ∀ most r r', Inf.heads r = .ok ((a, b), r') → kindB most out 2 r = Inf.body a b most (r'.length + 1) out r' := fun most r r' hr => by rw [e, hr]
  have e2 : ∀ most r e', Inf.heads r = .error e' → kindB most out 2 r = .error e' := fun most r e' hr => by rw [e, hr]
  refine ⟨fun most hm => ?_, fun most hle hm => ?_, effs_le _ _⟩
  · exact ((gets_heads h).at p).bnd (g := fun r => Inf.body a b most (r.length + 1) out r) ⟨fun r _ => body_go hz hd hs ts out _ r ho hh hm (by omega), fun P t he ht _ => body_few hz hd hs ts out _ P t ho hh hm he ht (by omega)⟩ (e1 most) (e2 most)
  · exact ((gets_heads h).at p).caps (g := fun r => Inf.body a b most (r.length + 1) out r) (fun r _ => body_cap hz hd ts out _ r ho hh hm hle (by omega)) (e1 most)
theorem xor_16 (n : Nat) (h : n < 65536) : n ^^^ 65535 = 65535 - n := by
  apply Nat.eq_of_testBit_eq
  intro i
  have e : (65535 : Nat) - n = 2 ^ 16 - (n + 1) := by omega
  rw [Nat.testBit_xor, e, Nat.testBit_two_pow_sub_succ (by omega : n < 2 ^ 16), show (65535 : Nat) = 2 ^ 16 - 1 by decide, Nat.testBit_two_pow_sub_one]
  by_cases hi : i < 16
  · simp [hi]
  · simp [hi]
    exact Nat.testBit_lt_two_pow (Nat.lt_of_lt_of_le h (by have := Nat.pow_le_pow_right (show 0 < 2 by decide) (show 16 ≤ i by omega); omega))
theorem kindw_stored (p : Nat) (pad : List Bool) (bs out : List UInt8) (hp : pad.length < 8) (hpp : (p + pad.length) % 8 = 0) (hb : bs.length ≤ 65535) : KindW p 0 (pad ++ (num bs.length 16 ++ (num (65535 - bs.length) 16 ++ Inf.bits bs))) out (out ++ bs) := by
  have e : ∀ most r, kindB most out 0 r = Inf.stored most out r := fun most r => by unfold kindB; rw [if_pos rfl]
  have hbl : (Inf.bits bs).length = 8 * bs.length := bits_length bs
  have n1 : ∀ r, Inf.numb 16 (num bs.length 16 ++ r) = .ok (bs.length, r) := (gets_numb bs.length 16 (by omega)).go
  have n2 : ∀ r, Inf.numb 16 (num (65535 - bs.length) 16 ++ r) = .ok (65535 - bs.length, r) := (gets_numb (65535 - bs.length) 16 (by omega)).go
  have hs : ∀ most r r', r = pad ++ r' → (p + r.length) % 8 = 0 → Inf.stored most out r = match Inf.numb 16 r' with
    | .ok (n, r) => (match Inf.numb 16 r with | .ok (m, r) => if m ≠ 65535 - n then .error 20 else Inf.take most n out r | .error e => .error e)
    | .error e => .error e := by
    intro most r r' hr ha
    have h1 : r.length % 8 = pad.length := by
      have := congrArg List.length hr
      rw [List.length_append] at this
      omega
    unfold Inf.stored
    rw [h1, hr, List.drop_left]
    cases Inf.numb 16 r' with
    | error e => rfl
    | ok p =>
      obtain ⟨n, r2⟩ := p
      simp only
      cases Inf.numb 16 r2 with
      | error e => rfl
      | ok p => rfl
  have hgo : ∀ most r, (p + (pad ++ (num bs.length 16 ++ (num (65535 - bs.length) 16 ++ Inf.bits bs))).length + r.length) % 8 = 0 → Inf.stored most out (pad ++ (num bs.length 16 ++ (num (65535 - bs.length) 16 ++ Inf.bits bs)) ++ r) = Inf.take most bs.length out (Inf.bits bs ++ r) := by
    intro most r ha
    rw [hs most _ (num bs.length 16 ++ (num (65535 - bs.length) 16 ++ (Inf.bits bs ++ r))) (by simp only [List.append_assoc]) (by rw [List.length_append]; omega), n1]
    simp only
    rw [n2]
    simp only
    rw [if_neg (by simp)]
  have hdiv : ∀ r : List Bool, (Inf.bits bs ++ r).length / 8 = bs.length + r.length / 8 := fun r => by rw [List.length_append, hbl]; omega
  refine ⟨fun most hm => ⟨fun r hr => ?_, fun P t he ht hr => ?_⟩, fun most hle hm r hr => ?_, by rw [List.length_append]; omega⟩
  · rw [List.length_append] at hm
    rw [e, hgo most r hr]
    unfold Inf.take
    rw [hdiv, Nat.min_eq_left (by omega), if_neg (by omega), if_neg (by omega), byts_all]
    rw [show 8 * bs.length = (Inf.bits bs).length from hbl.symm, List.drop_left]
  · rw [List.length_append] at hm
    rw [e]
    have hlen := congrArg List.length he
    simp only [List.length_append, num_length, hbl] at hlen
    have htl : 0 < t.length := List.length_pos_iff.2 ht
    rcases List.append_eq_append_iff.1 he with ⟨a, h1, h2⟩ | ⟨a, h1, h2⟩
    · rw [hs most P a h1 hr]
      rcases List.append_eq_append_iff.1 h2 with ⟨c, h3, h4⟩ | ⟨c, h3, h4⟩
      · rw [h3, n1]
        simp only
        rcases List.append_eq_append_iff.1 h4 with ⟨d, h5, h6⟩ | ⟨d, h5, h6⟩
        · rw [h5, n2]
          simp only
          rw [if_neg (by simp)]
          have hl6 := congrArg List.length h6
          rw [hbl, List.length_append] at hl6
          unfold Inf.take
          rw [if_neg (by omega), if_pos (by omega)]
        · have hl5 := congrArg List.length h5
          rw [num_length, List.length_append] at hl5
          rcases List.eq_nil_or_concat d with hd | hd
          · subst hd
            rw [List.append_nil] at h5
            rw [← h5]
            have := n2 []
            rw [List.append_nil] at this
            rw [this]
            simp only
            rw [if_neg (by simp)]
            have hl6 := congrArg List.length h6
            rw [List.nil_append, hbl] at hl6
            unfold Inf.take
            rw [if_neg (by simp), if_pos (by simp; omega)]
          · rw [(gets_numb (65535 - bs.length) 16 (by omega)).few c d h5 (by obtain ⟨x, y, rfl⟩ := hd; simp)]
      · rcases List.eq_nil_or_concat c with hc | hc
        · subst hc
          rw [List.append_nil] at h3
          rw [← h3]
          have := n1 []
          rw [List.append_nil] at this
          rw [this]
          rfl
        · rw [(gets_numb bs.length 16 (by omega)).few a c h3 (by obtain ⟨x, y, rfl⟩ := hc; simp)]
    · rcases List.eq_nil_or_concat a with ha | ha
      · subst ha
        rw [List.append_nil] at h1
        rw [hs most P [] (by rw [h1, List.append_nil]) hr]
        rfl
      · exfalso
        have hl1 := congrArg List.length h1
        have : 0 < a.length := by obtain ⟨x, y, rfl⟩ := ha; simp
        rw [List.length_append] at hl1
        omega
  · rw [List.length_append] at hm
    refine (e _ _).trans ?_
    rw [hgo most r hr]
    unfold Inf.take
    rw [hdiv, Nat.min_eq_left (by omega), if_pos (by omega)]
/-- A block that is written. -/
structure BlkW (p : Nat) (M : List Bool) (out out2 : List UInt8) (k : Inf.Blk) : Prop where
  go : ∀ most, out2.length ≤ most → GetsA p (Inf.block most out) M (k, out2)
  cap : ∀ most, out.length ≤ most → most < out2.length → Caps p (Inf.block most out) M
  pos : 0 < M.length
  le : out.length ≤ out2.length
theorem num_bit (l : Bool) : num l.toNat 1 = [l] := by cases l <;> rfl
theorem blkw_of {p kind : Nat} {M : List Bool} {out out2 : List UInt8} (l : Bool) (hk : kind < 4) (h : KindW (p + 3) kind M out out2) : BlkW p (l :: (num kind 2 ++ M)) out out2 ⟨kind, l, out.length, out2.length⟩ := by
  have e1 : (l :: (num kind 2 ++ M)) = num l.toNat 1 ++ (num kind 2 ++ M) := by rw [num_bit]; rfl
  have hl : l.toNat < 2 := by cases l <;> decide
  have hd : decide (l.toNat = 1) = l := by cases l <;> rfl
  have a1 : ∀ most r r', Inf.numb 1 r = .ok (l.toNat, r') → Inf.block most out r = match Inf.numb 2 r' with | .ok (k, r) => finK k l.toNat out.length (kindB most out k r) | .error e => .error e := fun most r r' hr => by
    rw [block_eq, hr]
    simp only
    cases Inf.numb 2 r' with
    | error e => rfl
    | ok p => rfl
  have a2 : ∀ most r e, Inf.numb 1 r = .error e → Inf.block most out r = .error e := fun most r e hr => by rw [block_eq, hr]
  have b1 : ∀ most (r r' : List Bool), Inf.numb 2 r = .ok (kind, r') → (match Inf.numb 2 r with | .ok (k, r) => finK k l.toNat out.length (kindB most out k r) | .error e => .error e) = finK kind l.toNat out.length (kindB most out kind r') := fun most r r' hr => by simp only [hr]
  have b2 : ∀ most (r : List Bool) e, Inf.numb 2 r = .error e → (match Inf.numb 2 r with | .ok (k, r) => finK k l.toNat out.length (kindB most out k r) | .error e => .error e) = .error e := fun most r e hr => by simp only [hr]
  rw [e1]
  refine ⟨fun most hm => ?_, fun most hle hm => ?_, by simp; omega, h.le⟩
  · refine ((gets_numb l.toNat 1 hl).at p).bnd ?_ (a1 most) (a2 most)
    refine ((gets_numb kind 2 hk).at _).bnd ?_ (b1 most) (b2 most)
    have hg := h.go most hm
    rw [num_length, num_length]
    refine ⟨fun r hr => ?_, fun P t he ht hr => ?_⟩
    · have := hg.go r (by omega)
      rw [this]
      simp only [finK, hd]
    · have := hg.few P t he ht (by omega)
      rw [this]
      rfl
  · have hcap := h.cap most hle hm
    refine ((gets_numb l.toNat 1 hl).at p).caps ?_ (a1 most)
    refine ((gets_numb kind 2 hk).at _).caps ?_ (b1 most)
    intro r hr
    rw [num_length, num_length] at hr
    have := hcap r (by omega)
    simp only at this ⊢
    rw [this]
    rfl
/-- Blocks that are written, none of which is the last one. -/
structure StrW (L : List Bool) (out : List UInt8) (ks : List Inf.Blk) : Prop where
  go : ∀ most f r, out.length ≤ most → (L.length + r.length) % 8 = 0 → L.length + r.length < f → ∃ f', r.length < f' ∧ Inf.blocks most f [] [] (L ++ r) = Inf.blocks most f' ks out r
  few : ∀ most f P t, L = P ++ t → t ≠ [] → out.length ≤ most → P.length % 8 = 0 → P.length < f → Inf.blocks most f [] [] P = .error 4
  cap : ∀ most f r, most < out.length → (L.length + r.length) % 8 = 0 → L.length + r.length < f → Inf.blocks most f [] [] (L ++ r) = .error 22
/-- A whole stream. -/
structure StrE (L : List Bool) (out : List UInt8) (ks : List Inf.Blk) : Prop where
  go : ∀ most f r, out.length ≤ most → (L.length + r.length) % 8 = 0 → L.length + r.length < f → Inf.blocks most f [] [] (L ++ r) = .ok ((ks, out), r)
  few : ∀ most f P t, L = P ++ t → t ≠ [] → out.length ≤ most → P.length % 8 = 0 → P.length < f → Inf.blocks most f [] [] P = .error 4
  cap : ∀ most f r, most < out.length → (L.length + r.length) % 8 = 0 → L.length + r.length < f → Inf.blocks most f [] [] (L ++ r) = .error 22
  pos : 0 < L.length
theorem strw_nil : StrW [] [] [] :=
  ⟨fun most f r _ _ h => ⟨f, by simpa using h, rfl⟩, fun most f P t he ht => absurd (List.append_eq_nil_iff.1 he.symm).2 ht, fun most f r h => absurd h (by simp)⟩
theorem blocks_succ (most f : Nat) (ks : List Inf.Blk) (out : List UInt8) (r : List Bool) : Inf.blocks most (f + 1) ks out r = match Inf.block most out r with
  | .ok ((k, out), r) => if k.last then .ok ((ks ++ [k], out), r) else Inf.blocks most f (ks ++ [k]) out r
  | .error e => .error e := by
  rw [Inf.blocks]
  cases Inf.block most out r with
  | error e => rfl
  | ok p => rfl
theorem StrW.few_more {L M : List Bool} {out out2 : List UInt8} {ks : List Inf.Blk} {k : Inf.Blk} (h : StrW L out ks) (hb : BlkW L.length M out out2 k) (most f : Nat) (P t : List Bool) (he : L ++ M = P ++ t) (ht : t ≠ []) (hm : out2.length ≤ most) (hp : P.length % 8 = 0) (hf : P.length < f) : Inf.blocks most f [] [] P = .error 4 := by
  have hle := hb.le
  have key : ∀ a, P = L ++ a → M = a ++ t → Inf.blocks most f [] [] P = .error 4 := by
    intro a h1 h2
    have hl := congrArg List.length h1
    rw [List.length_append] at hl
    obtain ⟨f', hf', e⟩ := h.go most f a (by omega) (by omega) (by omega)
    obtain ⟨f2, rfl⟩ : ∃ f2, f' = f2 + 1 := ⟨f' - 1, by omega⟩
    rw [h1, e, blocks_succ, (hb.go most hm).few a t h2 ht (by omega)]
  rcases List.append_eq_append_iff.1 he with ⟨a, h1, h2⟩ | ⟨a, h1, h2⟩
  · exact key a h1 h2
  · rcases List.eq_nil_or_concat a with ha | ha
    · subst ha
      exact key [] (by rw [List.append_nil] at h1 ⊢; exact h1.symm) (by rw [List.nil_append] at h2 ⊢; exact h2.symm)
    · exact h.few most f P a h1 (by obtain ⟨x, y, rfl⟩ := ha; simp) (by omega) hp hf
theorem StrW.cap_more {L M : List Bool} {out out2 : List UInt8} {ks : List Inf.Blk} {k : Inf.Blk} (h : StrW L out ks) (hb : BlkW L.length M out out2 k) (most f : Nat) (r : List Bool) (hm : most < out2.length) (hr : ((L ++ M).length + r.length) % 8 = 0) (hf : (L ++ M).length + r.length < f) : Inf.blocks most f [] [] (L ++ M ++ r) = .error 22 := by
  rw [List.length_append] at hr hf
  rw [List.append_assoc]
  rcases Nat.lt_or_ge most out.length with h1 | h1
  · exact h.cap most f (M ++ r) h1 (by rw [List.length_append]; omega) (by rw [List.length_append]; omega)
  · obtain ⟨f', hf', e⟩ := h.go most f (M ++ r) h1 (by rw [List.length_append]; omega) (by rw [List.length_append]; omega)
    obtain ⟨f2, rfl⟩ : ∃ f2, f' = f2 + 1 := ⟨f' - 1, by omega⟩
    rw [e, blocks_succ, hb.cap most h1 hm r (by omega)]
theorem StrW.more {L M : List Bool} {out out2 : List UInt8} {ks : List Inf.Blk} {k : Inf.Blk} (h : StrW L out ks) (hb : BlkW L.length M out out2 k) (hk : k.last = false) : StrW (L ++ M) out2 (ks ++ [k]) where
  go most f r hm hr hf := by
    have hle := hb.le
    have hpos := hb.pos
    rw [List.length_append] at hr hf
    obtain ⟨f', hf', e⟩ := h.go most f (M ++ r) (by omega) (by rw [List.length_append]; omega) (by rw [List.length_append]; omega)
    obtain ⟨f2, rfl⟩ : ∃ f2, f' = f2 + 1 := ⟨f' - 1, by omega⟩
    rw [List.length_append] at hf'
    refine ⟨f2, by omega, ?_⟩
    rw [List.append_assoc, e, blocks_succ, (hb.go most hm).go r (by omega)]
    simp only
    rw [hk, if_neg (by decide)]
  few most f P t he ht hm hp hf := h.few_more hb most f P t he ht hm hp hf
  cap most f r hm hr hf := h.cap_more hb most f r hm hr hf
theorem StrW.last {L M : List Bool} {out out2 : List UInt8} {ks : List Inf.Blk} {k : Inf.Blk} (h : StrW L out ks) (hb : BlkW L.length M out out2 k) (hk : k.last = true) : StrE (L ++ M) out2 (ks ++ [k]) where
  go most f r hm hr hf := by
    have hle := hb.le
    have hpos := hb.pos
    rw [List.length_append] at hr hf
    obtain ⟨f', hf', e⟩ := h.go most f (M ++ r) (by omega) (by rw [List.length_append]; omega) (by rw [List.length_append]; omega)
    obtain ⟨f2, rfl⟩ : ∃ f2, f' = f2 + 1 := ⟨f' - 1, by omega⟩
    rw [List.append_assoc, e, blocks_succ, (hb.go most hm).go r (by omega)]
    simp only
    rw [hk, if_pos rfl]
  few most f P t he ht hm hp hf := h.few_more hb most f P t he ht hm hp hf
  cap most f r hm hr hf := h.cap_more hb most f r hm hr hf
  pos := by have := hb.pos; rw [List.length_append]; omega
/-- A stream in bytes, anything behind it. -/
theorem StrE.all {L : List Bool} {out : List UInt8} {ks : List Inf.Blk} (h : StrE L out ks) (behind : List UInt8) (most : Nat) (hm : out.length ≤ most) : ∃ r, Inf.all (pack L ++ behind) most = .ok ((ks, out), r) ∧ r.length / 8 = behind.length := by
  have hb : (Inf.bits behind).length = 8 * behind.length := bits_length behind
  refine ⟨List.replicate (8 * ((L.length + 7) / 8) - L.length) false ++ Inf.bits behind, ?_, ?_⟩
  · unfold Inf.all
    rw [bits_append, bits_pack, List.append_assoc]
    refine h.go most _ _ hm ?_ ?_
    · rw [List.length_append, List.length_replicate, hb]; omega
    · rw [List.length_append, List.length_append, List.length_replicate, hb, pack_length]; omega
  · rw [List.length_append, List.length_replicate, hb]; omega
theorem StrE.less {L : List Bool} {out : List UInt8} {ks : List Inf.Blk} (h : StrE L out ks) (most : Nat) (hm : out.length ≤ most) : Inf.all ((pack L).take ((pack L).length - 1)) most = .error 4 := by
  have hp := h.pos
  have hpl := pack_length L
  unfold Inf.all
  rw [bits_less L hp]
  refine h.few most _ _ (L.drop (8 * ((pack L).length - 1))) (List.take_append_drop _ _).symm ?_ hm ?_ ?_
  · intro e
    have := congrArg List.length e
    rw [List.length_drop, hpl] at this
    simp at this; omega
  · rw [List.length_take]; omega
  · rw [List.length_take, List.length_take]; omega
theorem StrE.caps {L : List Bool} {out : List UInt8} {ks : List Inf.Blk} (h : StrE L out ks) (behind : List UInt8) (most : Nat) (hm : most < out.length) : Inf.all (pack L ++ behind) most = .error 22 := by
  have hb : (Inf.bits behind).length = 8 * behind.length := bits_length behind
  unfold Inf.all
  rw [bits_append, bits_pack, List.append_assoc]
  refine h.cap most _ _ hm ?_ ?_
  · rw [List.length_append, List.length_replicate, hb]; omega
  · rw [List.length_append, List.length_append, List.length_replicate, hb, pack_length]; omega
end Go.Proofs.YtphdcgioeokfbaaDoor
