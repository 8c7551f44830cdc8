/-
  A record's bytes cut off, or with one byte turned, say no record: plain mathematics.
-/
import Derived.Test.YticmjdblcomecaaGreatQGet
namespace Go.Proofs.YticmjdblcomecaaGreat
open Go.RowKit Go.Maps

theorem take_pre {a b : List UInt8} {k : Nat} (h : a.length = k) : (a ++ b).take k = a := List.take_left' h
theorem drop_pre {a b : List UInt8} {k : Nat} (h : a.length = k) : (a ++ b).drop k = b := List.drop_left' h
theorem drop_more {l a b : List UInt8} {i k j : Nat} (h : l.drop i = a ++ b) (ha : a.length = k) (hj : i + k = j) : l.drop j = b := by
  rw [← hj, ← List.drop_drop, h, drop_pre ha]
theorem val_be (k n : Nat) (h : n < 256 ^ k) : valL (beK k n) = n := by rw [valL_beK, Nat.mod_eq_of_lt h]

theorem span_dec (b o : Int) (old new : List UInt8) (wo : Bool) (hb0 : 0 ≤ b) (hb1 : b < 65536) (ho0 : 0 ≤ o) (ho1 : o ≤ 512) (hn : new.length ≤ 512) (hw : old.length = if wo = true then new.length else 0) :
    spanD (beK 4 b.toNat ++ (beK 2 o.toNat ++ (beK 2 new.length ++ (old ++ new)))) wo = some (b.toNat, o.toNat, old, new) := by
  obtain ⟨l, hl⟩ : ∃ l, l = beK 4 b.toNat ++ (beK 2 o.toNat ++ (beK 2 new.length ++ (old ++ new))) := ⟨_, rfl⟩
  have d4 : l.drop 4 = beK 2 o.toNat ++ (beK 2 new.length ++ (old ++ new)) := by rw [hl]; exact drop_pre (beK_length _ _)
  have d6 := drop_more d4 (beK_length _ _) (show 4 + 2 = 6 by omega)
  have d8 := drop_more d6 (beK_length _ _) (show 6 + 2 = 8 by omega)
  have t4 : l.take 4 = beK 4 b.toNat := by rw [hl]; exact take_pre (beK_length _ _)
  have hlen : l.length = 8 + (old.length + new.length) := by rw [hl]; simp [beK_length]; omega
  have v6 : valL ((l.drop 6).take 2) = new.length := by rw [d6, take_pre (beK_length _ _), val_be 2 _ (by omega)]
  rw [← hl]
  unfold spanD
  rw [if_neg (by omega), v6, d4, d8, t4, take_pre (beK_length _ _), val_be 4 _ (by omega), val_be 2 o.toNat (by omega)]
  rw [if_neg (by rw [hlen, ← hw]; omega), ← hw, take_pre rfl, drop_pre rfl]

theorem toI_place {x : Int} (h : placeB x = true) : toI (valL (beK 8 x.toNat)) = x := by
  simp only [placeB, Bool.and_eq_true, decide_eq_true_eq] at h
  rw [val_be 8 _ (by omega), toI_small _ (by omega)]
  omega

theorem body_dec (r : Rec) (h : rightB r = true) : bodyD (bodyL r) r.lsn r.turn = some r := by
  obtain ⟨l0, l1, u0, u1, ht, hp, -⟩ := right_facts h
  have hb3 : ∀ t : List UInt8, (b3L r ++ t).take 1 = beK 1 r.kind ∧ ((b3L r ++ t).drop 1).take 8 = beK 8 r.tx.toNat ∧ ((b3L r ++ t).drop 9).take 8 = beK 8 r.prev.toNat ∧ (b3L r ++ t).drop 17 = t := by
    intro t
    have e : b3L r ++ t = beK 1 r.kind ++ (beK 8 r.tx.toNat ++ (beK 8 r.prev.toNat ++ t)) := by simp [b3L]
    have d1 : (b3L r ++ t).drop 1 = beK 8 r.tx.toNat ++ (beK 8 r.prev.toNat ++ t) := by rw [e]; exact drop_pre (beK_length _ _)
    have d9 := drop_more d1 (beK_length _ _) (show 1 + 8 = 9 by omega)
    have d17 := drop_more d9 (beK_length _ _) (show 9 + 8 = 17 by omega)
    exact ⟨by rw [e]; exact take_pre (beK_length _ _), by rw [d1]; exact take_pre (beK_length _ _), by rw [d9]; exact take_pre (beK_length _ _), d17⟩
  have hlen := bodyL_length r
  rcases right_kinds h with ⟨hk, hn, b0, b1, o0, n0, o1, on⟩ | ⟨hk, hn, b0, b1, o0, n0, o1, on⟩ | ⟨hk, hn, b0, o0, on, nn⟩
  · have e : bodyL r = b3L r ++ (beK 4 r.block.toNat ++ (beK 2 r.off.toNat ++ (beK 2 r.new.length ++ (r.old ++ r.new)))) := by
      unfold bodyL b4L
      rw [if_neg (by omega), if_neg (by omega)]
      simp
    obtain ⟨h1, h2, h3, h4⟩ := hb3 (beK 4 r.block.toNat ++ (beK 2 r.off.toNat ++ (beK 2 r.new.length ++ (r.old ++ r.new))))
    rw [if_neg (by omega), if_neg (by omega)] at hlen
    unfold bodyD
    rw [if_neg (by omega), e, h1, h2, h3, h4, val_be 1 _ (by omega), if_pos hk, span_dec _ _ _ _ true b0 b1 o0 (by omega) (by omega) (by simpa using on), toI_place ht, toI_place hp]
    obtain ⟨lsn, turn, kind, tx, prev, next, block, off, old, new⟩ := r
    dsimp only at *
    subst hk hn
    simp only [Option.map_some, Option.some.injEq, Rec.mk.injEq, true_and, and_true]
    omega
  · have e : bodyL r = b3L r ++ (beK 8 r.next.toNat ++ (beK 4 r.block.toNat ++ (beK 2 r.off.toNat ++ (beK 2 r.new.length ++ (r.old ++ r.new))))) := by
      unfold bodyL b4L
      rw [if_neg (by omega), if_pos (by omega)]
      simp
    obtain ⟨h1, h2, h3, h4⟩ := hb3 (beK 8 r.next.toNat ++ (beK 4 r.block.toNat ++ (beK 2 r.off.toNat ++ (beK 2 r.new.length ++ (r.old ++ r.new)))))
    have h5 := drop_more h4 (beK_length _ _) (show 17 + 8 = 25 by omega)
    rw [if_pos (by omega), if_neg (by omega)] at hlen
    unfold bodyD
    rw [if_neg (by omega), if_neg (by omega : ¬ (bodyL r).length < 25), e, h1, h2, h3, h5, h4, val_be 1 _ (by omega), if_neg (by omega), if_pos hk, take_pre (beK_length _ _), span_dec _ _ _ _ false b0 b1 o0 (by omega) (by omega) (by simpa using on), toI_place ht, toI_place hp, toI_place hn]
    obtain ⟨lsn, turn, kind, tx, prev, next, block, off, old, new⟩ := r
    dsimp only at *
    subst hk
    simp only [Option.map_some, Option.some.injEq, Rec.mk.injEq, true_and, and_true]
    omega
  · have e : bodyL r = b3L r ++ [] := by
      unfold bodyL b4L
      rw [if_pos (by omega), if_neg (by omega)]
      simp
    obtain ⟨h1, h2, h3, h4⟩ := hb3 []
    rw [if_neg (by omega), if_pos (by omega)] at hlen
    unfold bodyD
    rw [if_neg (by omega), if_pos (by omega : (bodyL r).length = 17), e, h1, h2, h3, val_be 1 _ (by omega), if_neg (by omega), if_neg (by omega), toI_place ht, toI_place hp]
    obtain ⟨lsn, turn, kind, tx, prev, next, block, off, old, new⟩ := r
    dsimp only at *
    have eo : old = [] := List.eq_nil_of_length_eq_zero on
    have en : new = [] := List.eq_nil_of_length_eq_zero nn
    subst hn b0 o0 eo en
    rfl

/-- What is put is got. -/
theorem dec_enc (r : Rec) (h : rightB r = true) (t : List UInt8) : decR (encL r ++ t) = some (r, (encL r).length) := by
  obtain ⟨l0, l1, u0, u1, -, -, -⟩ := right_facts h
  obtain ⟨n0, n1⟩ := body_bounds h
  obtain ⟨l, hl⟩ : ∃ l, l = encL r ++ t := ⟨_, rfl⟩
  have e0 : l = beK 8 r.lsn.toNat ++ (beK 4 r.turn.toNat ++ (beK 2 (bodyL r).length ++ (beK 4 (crc (headL r ++ bodyL r)) ++ (bodyL r ++ t)))) := by rw [hl]; simp [encL, headL]
  have e14 : l = headL r ++ (beK 4 (crc (headL r ++ bodyL r)) ++ (bodyL r ++ t)) := by rw [hl]; simp [encL]
  have d8 : l.drop 8 = beK 4 r.turn.toNat ++ (beK 2 (bodyL r).length ++ (beK 4 (crc (headL r ++ bodyL r)) ++ (bodyL r ++ t))) := by rw [e0]; exact drop_pre (beK_length _ _)
  have d12 := drop_more d8 (beK_length _ _) (show 8 + 4 = 12 by omega)
  have d14 := drop_more d12 (beK_length _ _) (show 12 + 2 = 14 by omega)
  have d18 := drop_more d14 (beK_length _ _) (show 14 + 4 = 18 by omega)
  have t8 : l.take 8 = beK 8 r.lsn.toNat := by rw [e0]; exact take_pre (beK_length _ _)
  have t14 : l.take 14 = headL r := by rw [e14]; exact take_pre (headL_length r)
  have hlen : l.length = 18 + (bodyL r).length + t.length := by rw [hl, List.length_append, encL_length]
  have v12 : valL ((l.drop 12).take 2) = (bodyL r).length := by rw [d12, take_pre (beK_length _ _), val_be 2 _ (by omega)]
  have v14 : valL ((l.drop 14).take 4) = crc (headL r ++ bodyL r) := by rw [d14, take_pre (beK_length _ _), val_be 4 _ (by have := crc_lt (headL r ++ bodyL r); omega)]
  have v8 : (valL ((l.drop 8).take 4) : Int) = r.turn := by rw [d8, take_pre (beK_length _ _), val_be 4 _ (by omega)]; omega
  have v0 : toI (valL (l.take 8)) = r.lsn := by rw [t8, val_be 8 _ (by omega), toI_small _ (by omega)]; omega
  rw [← hl]
  unfold decR
  rw [if_neg (by omega), v12, if_neg (by omega), v14, t14, d18, take_pre rfl, if_neg (fun h => h rfl), v0, v8, body_dec r h, encL_length]
  show (if rightB r = true then _ else _) = _
  rw [if_pos h]

/-! ### what is got was put -/
theorem be_val (k : Nat) (l : List UInt8) (h : l.length = k) : beK k (valL l) = l := by rw [← h]; exact beK_valL l
theorem cut_at (l : List UInt8) (i k j : Nat) (h : i + k = j) : (l.drop i).take k ++ l.drop j = l.drop i := by
  rw [← h, ← List.drop_drop, List.take_append_drop]
theorem len_cut (l : List UInt8) (i k : Nat) (h : i + k ≤ l.length) : ((l.drop i).take k).length = k := by rw [List.length_take, List.length_drop]; omega
theorem val_cut_lt (l : List UInt8) (i k : Nat) (h : i + k ≤ l.length) : valL ((l.drop i).take k) < 256 ^ k := by
  have := valL_lt ((l.drop i).take k)
  rwa [len_cut l i k h] at this
theorem toI_pos {n : Nat} (h : n < 18446744073709551616) (h0 : 0 ≤ toI n) : (toI n).toNat = n ∧ toI n = n := by
  unfold toI wrap64 at *
  omega

theorem span_inv {l : List UInt8} {wo : Bool} {q : Nat × Nat × List UInt8 × List UInt8} (h : spanD l wo = some q) (hn : q.2.2.2.length < 65536) :
    beK 4 q.1 ++ (beK 2 q.2.1 ++ (beK 2 q.2.2.2.length ++ (q.2.2.1 ++ q.2.2.2))) = l ∧ 8 ≤ l.length := by
  unfold spanD at h
  by_cases h1 : l.length < 8
  · rw [if_pos h1] at h; cases h
  rw [if_neg h1] at h
  obtain ⟨x, hx⟩ : ∃ x, x = (if wo = true then valL ((l.drop 6).take 2) else 0) := ⟨_, rfl⟩
  rw [← hx] at h
  by_cases h2 : l.length - 8 ≠ x + valL ((l.drop 6).take 2)
  · rw [if_pos h2] at h; cases h
  rw [if_neg h2] at h
  cases h
  dsimp only at hn ⊢
  have hl : ((l.drop 8).drop x).length = valL ((l.drop 6).take 2) := by rw [List.length_drop, List.length_drop]; omega
  refine ⟨?_, by omega⟩
  rw [hl, List.take_append_drop, be_val 2 _ (len_cut l 6 2 (by omega)), be_val 2 _ (len_cut l 4 2 (by omega)), be_val 4 (l.take 4) (by rw [List.length_take]; omega), cut_at l 6 2 8 rfl, cut_at l 4 2 6 rfl, List.take_append_drop]

theorem body_inv {l : List UInt8} {lsn turn : Int} {r : Rec} (h : bodyD l lsn turn = some r) (hr : rightB r = true) : bodyL r = l ∧ r.lsn = lsn ∧ r.turn = turn := by
  obtain ⟨l0, l1, u0, u1, ht, hp, -⟩ := right_facts hr
  have hkd := right_kinds hr
  unfold bodyD at h
  by_cases h17 : l.length < 17
  · rw [if_pos h17] at h; cases h
  rw [if_neg h17] at h
  have hb3 : beK 1 (valL (l.take 1)) ++ (beK 8 (valL ((l.drop 1).take 8)) ++ (beK 8 (valL ((l.drop 9).take 8)) ++ l.drop 17)) = l := by
    rw [be_val 1 _ (by rw [List.length_take]; omega), be_val 8 _ (len_cut l 1 8 (by omega)), be_val 8 _ (len_cut l 9 8 (by omega)), cut_at l 9 8 17 rfl, cut_at l 1 8 9 rfl, List.take_append_drop]
  have hv1 := val_cut_lt l 1 8 (by omega)
  have hv9 := val_cut_lt l 9 8 (by omega)
  simp only [placeB, Bool.and_eq_true, decide_eq_true_eq] at ht hp
  by_cases k1 : valL (l.take 1) = 1
  · rw [if_pos k1] at h
    cases hs : spanD (l.drop 17) true with
    | none => rw [hs] at h; cases h
    | some q =>
      rw [hs] at h
      cases h
      dsimp only at *
      have hq : q.2.2.2.length ≤ 512 := by rcases hkd with h | h | h <;> omega
      obtain ⟨e1, -⟩ := span_inv hs (by omega)
      have t1 := (toI_pos (by simpa using hv1) ht.1).1
      have t9 := (toI_pos (by simpa using hv9) hp.1).1
      refine ⟨?_, rfl, rfl⟩
      unfold bodyL b4L b3L
      dsimp only
      rw [if_neg (by rcases hkd with h | h | h <;> omega), if_neg (by omega), t1, t9, Int.toNat_natCast, Int.toNat_natCast]
      rw [k1, ← e1] at hb3
      simpa using hb3
  rw [if_neg k1] at h
  by_cases k2 : valL (l.take 1) = 2
  · rw [if_pos k2] at h
    by_cases h25 : l.length < 25
    · rw [if_pos h25] at h; cases h
    rw [if_neg h25] at h
    cases hs : spanD (l.drop 25) false with
    | none => rw [hs] at h; cases h
    | some q =>
      rw [hs] at h
      cases h
      dsimp only at *
      have hq : q.2.2.2.length ≤ 512 := by rcases hkd with h | h | h <;> omega
      have hnx : placeB (toI (valL ((l.drop 17).take 8))) = true := by
        rcases hkd with h | h | h
        · omega
        · exact h.2.1
        · omega
      have hv17 := val_cut_lt l 17 8 (by omega)
      simp only [placeB, Bool.and_eq_true, decide_eq_true_eq] at hnx
      obtain ⟨e1, -⟩ := span_inv hs (by omega)
      have t1 := (toI_pos (by simpa using hv1) ht.1).1
      have t9 := (toI_pos (by simpa using hv9) hp.1).1
      have t17 := (toI_pos (by simpa using hv17) hnx.1).1
      have e17 : beK 8 (valL ((l.drop 17).take 8)) ++ l.drop 25 = l.drop 17 := by rw [be_val 8 _ (len_cut l 17 8 (by omega)), cut_at l 17 8 25 rfl]
      refine ⟨?_, rfl, rfl⟩
      unfold bodyL b4L b3L
      dsimp only
      rw [if_neg (by rcases hkd with h | h | h <;> omega), if_pos rfl, t1, t9, t17, Int.toNat_natCast, Int.toNat_natCast]
      rw [k2, ← e17, ← e1] at hb3
      simpa using hb3
  rw [if_neg k2] at h
  by_cases k17 : l.length = 17
  · rw [if_pos k17] at h
    cases h
    dsimp only at *
    have t1 := (toI_pos (by simpa using hv1) ht.1).1
    have t9 := (toI_pos (by simpa using hv9) hp.1).1
    refine ⟨?_, rfl, rfl⟩
    unfold bodyL b4L b3L
    dsimp only
    rw [if_pos List.length_nil, if_neg k2, t1, t9]
    rw [List.drop_eq_nil_of_le (by omega : l.length ≤ 17)] at hb3
    simpa using hb3
  · rw [if_neg k17] at h; cases h

/-- What is got was put. -/
theorem dec_inv {l : List UInt8} {r : Rec} {n : Nat} (h : decR l = some (r, n)) : rightB r = true ∧ n = (encL r).length ∧ encL r = l.take n ∧ n ≤ l.length := by
  unfold decR at h
  by_cases h18 : l.length < 18
  · rw [if_pos h18] at h; cases h
  rw [if_neg h18] at h
  obtain ⟨N, hN⟩ : ∃ N, valL ((l.drop 12).take 2) = N := ⟨_, rfl⟩
  rw [hN] at h
  by_cases hb : l.length - 18 < N
  · rw [if_pos hb] at h; cases h
  rw [if_neg hb] at h
  by_cases hc : valL ((l.drop 14).take 4) ≠ crc (l.take 14 ++ (l.drop 18).take N)
  · rw [if_pos hc] at h; cases h
  rw [if_neg hc] at h
  have hc' : valL ((l.drop 14).take 4) = crc (l.take 14 ++ (l.drop 18).take N) := Decidable.not_not.1 hc
  cases hbd : bodyD ((l.drop 18).take N) (toI (valL (l.take 8))) (valL ((l.drop 8).take 4)) with
  | none => rw [hbd] at h; cases h
  | some r2 =>
    rw [hbd] at h
    by_cases hr : rightB r2 = true
    · have h2 : some (r2, 18 + N) = some (r, n) := by
        have h3 : (if rightB r2 = true then some (r2, 18 + N) else none) = some (r, n) := h
        rwa [if_pos hr] at h3
      cases h2
      obtain ⟨e1, e2, e3⟩ := body_inv hbd hr
      obtain ⟨l0, l1, u0, u1, -, -, -⟩ := right_facts hr
      have hlB : (bodyL r).length = N := by rw [e1, len_cut l 18 N (by omega)]
      have hv0 := val_cut_lt l 0 8 (by omega)
      rw [List.drop_zero] at hv0
      have t0 : r.lsn.toNat = valL (l.take 8) := by
        rw [e2] at l0 ⊢
        exact (toI_pos (by simpa using hv0) (by omega)).1
      have hh : headL r = l.take 14 := by
        unfold headL
        rw [t0, e3, hlB, Int.toNat_natCast, be_val 8 _ (by rw [List.length_take]; omega), be_val 4 _ (len_cut l 8 4 (by omega)), ← hN, be_val 2 _ (len_cut l 12 2 (by omega))]
        have a1 : (l.drop 8).take 4 ++ (l.drop 12).take 2 = (l.drop 8).take 6 := by
          rw [show (6 : Nat) = 4 + 2 from rfl, List.take_add, List.drop_drop]
        rw [List.append_assoc, a1, show (14 : Nat) = 8 + 6 from rfl, List.take_add]
      refine ⟨hr, by rw [encL_length, hlB], ?_, by omega⟩
      unfold encL
      rw [hh, e1, ← hc', be_val 4 _ (len_cut l 14 4 (by omega)), show 18 + N = 14 + (4 + N) by omega, List.take_add, List.take_add, List.drop_drop, List.append_assoc]
    · have h3 : (if rightB r2 = true then some (r2, 18 + N) else none) = some (r, n) := h
      rw [if_neg hr] at h3
      cases h3

end Go.Proofs.YticmjdblcomecaaGreat

namespace Go.Proofs.YticmjdblcomecaaGreat
open Go.RowKit Go.Maps

/-- How long the bytes say that the body is. -/
def sayN (l : List UInt8) : Nat := valL ((l.drop 12).take 2)
/-- A number in the bytes. -/
def numAt (l : List UInt8) (i k : Nat) : Nat := valL ((l.drop i).take k)
/-- The record that the bytes would say, its span at a place. -/
def candSp (l : List UInt8) (at' : Nat) (r : Rec) : Rec :=
  if 18 + sayN l < at' + 8 then r
  else
    if r.kind = 1 ∧ at' + 8 + 2 * numAt l (at' + 6) 2 = 18 + sayN l then
      { r with block := numAt l at' 4, off := numAt l (at' + 4) 2, old := (l.drop (at' + 8)).take (numAt l (at' + 6) 2), new := (l.drop (at' + 8 + numAt l (at' + 6) 2)).take (numAt l (at' + 6) 2) }
    else if at' + 8 + numAt l (at' + 6) 2 = 18 + sayN l then
      { r with block := numAt l at' 4, off := numAt l (at' + 4) 2, new := (l.drop (at' + 8)).take (numAt l (at' + 6) 2) }
    else { r with block := numAt l at' 4, off := numAt l (at' + 4) 2 }
def candH (l : List UInt8) : Rec := ⟨toI (numAt l 0 8), numAt l 8 4, numAt l 18 1, toI (numAt l 19 8), toI (numAt l 27 8), 0, 0, 0, [], []⟩
def candR (l : List UInt8) : Rec :=
  if numAt l 18 1 = 2 then
    if 25 ≤ sayN l then candSp l 43 { candH l with next := toI (numAt l 35 8) } else candSp l 35 (candH l)
  else if numAt l 18 1 = 1 then candSp l 35 (candH l)
  else candH l
/-- What the document gets. -/
def getR (l : List UInt8) : Option (Rec × Nat) :=
  if l.length < 35 then none
  else if sayN l < 17 ∨ l.length < 18 + sayN l then none
  else if rightB (candR l) = true ∧ encL (candR l) = l.take (18 + sayN l) then some (candR l, 18 + sayN l) else none

theorem num_of {l a b : List UInt8} {i k : Nat} (h : l.drop i = a ++ b) (ha : a.length = k) : numAt l i k = valL a := by
  unfold numAt
  rw [h, take_pre ha]

theorem cand_enc (r : Rec) (h : rightB r = true) (t : List UInt8) : candR (encL r ++ t) = r ∧ sayN (encL r ++ t) = (bodyL r).length := by
  obtain ⟨l0, l1, u0, u1, ht, hp, -⟩ := right_facts h
  obtain ⟨n0, n1⟩ := body_bounds h
  obtain ⟨l, hl⟩ : ∃ l, l = encL r ++ t := ⟨_, rfl⟩
  have d0 : l.drop 0 = beK 8 r.lsn.toNat ++ (beK 4 r.turn.toNat ++ (beK 2 (bodyL r).length ++ (beK 4 (crc (headL r ++ bodyL r)) ++ (bodyL r ++ t)))) := by rw [hl]; simp [encL, headL]
  have d8 := drop_more d0 (beK_length _ _) (show 0 + 8 = 8 by omega)
  have d12 := drop_more d8 (beK_length _ _) (show 8 + 4 = 12 by omega)
  have d14 := drop_more d12 (beK_length _ _) (show 12 + 2 = 14 by omega)
  have d18 := drop_more d14 (beK_length _ _) (show 14 + 4 = 18 by omega)
  have hN : sayN l = (bodyL r).length := by
    show numAt l 12 2 = _
    rw [num_of d12 (beK_length _ _), val_be 2 _ (by omega)]
  have v0 : toI (numAt l 0 8) = r.lsn := by rw [num_of d0 (beK_length _ _), val_be 8 _ (by omega), toI_small _ (by omega)]; omega
  have v8 : (numAt l 8 4 : Int) = r.turn := by rw [num_of d8 (beK_length _ _), val_be 4 _ (by omega)]; omega
  obtain ⟨b, hbd⟩ : ∃ b, bodyL r = b3L r ++ b ∧ (b = (bodyL r).drop 17) := by
    refine ⟨(bodyL r).drop 17, ?_, rfl⟩
    have hp : ∃ b, bodyL r = b3L r ++ b := by
      unfold bodyL b4L
      split <;> split <;> simp
    obtain ⟨b, e⟩ := hp
    rw [e, drop_pre (b3L_length r)]
  have d18' : l.drop 18 = beK 1 r.kind ++ (beK 8 r.tx.toNat ++ (beK 8 r.prev.toNat ++ (b ++ t))) := by rw [d18, hbd.1]; simp [b3L]
  have d19 := drop_more d18' (beK_length _ _) (show 18 + 1 = 19 by omega)
  have d27 := drop_more d19 (beK_length _ _) (show 19 + 8 = 27 by omega)
  have d35 := drop_more d27 (beK_length _ _) (show 27 + 8 = 35 by omega)
  have hlen := bodyL_length r
  have hkk : r.kind < 256 := by rcases right_kinds h with h | h | h <;> omega
  have v18 : numAt l 18 1 = r.kind := by rw [num_of d18' (beK_length _ _), val_be 1 _ (by omega)]
  have v19 : toI (numAt l 19 8) = r.tx := by rw [num_of d19 (beK_length _ _), toI_place ht]
  have v27 : toI (numAt l 27 8) = r.prev := by rw [num_of d27 (beK_length _ _), toI_place hp]
  have hH : candH l = ⟨r.lsn, r.turn, r.kind, r.tx, r.prev, 0, 0, 0, [], []⟩ := by unfold candH; rw [v0, v8, v18, v19, v27]
  rw [← hl]
  refine ⟨?_, hN⟩
  unfold candR
  rw [v18, hH]
  rcases right_kinds h with ⟨hk, hn, b0, b1, o0, m0, o1, on⟩ | ⟨hk, hn, b0, b1, o0, m0, o1, on⟩ | ⟨hk, hn, b0, o0, on, nn⟩
  · rw [if_neg (by omega), if_neg (by omega)] at hlen
    have e : b = beK 4 r.block.toNat ++ (beK 2 r.off.toNat ++ (beK 2 r.new.length ++ (r.old ++ r.new))) := by
      have e1 : b3L r ++ b = b3L r ++ (beK 4 r.block.toNat ++ (beK 2 r.off.toNat ++ (beK 2 r.new.length ++ (r.old ++ r.new)))) := by
        rw [← hbd.1]
        unfold bodyL b4L
        rw [if_neg (by omega), if_neg (by omega)]
        simp
      exact List.append_cancel_left e1
    have d35' : l.drop 35 = beK 4 r.block.toNat ++ (beK 2 r.off.toNat ++ (beK 2 r.new.length ++ (r.old ++ (r.new ++ t)))) := by rw [d35, e]; simp
    have d39 := drop_more d35' (beK_length _ _) (show 35 + 4 = 39 by omega)
    have d41 := drop_more d39 (beK_length _ _) (show 39 + 2 = 41 by omega)
    have d43 := drop_more d41 (beK_length _ _) (show 41 + 2 = 43 by omega)
    have dn := drop_more d43 rfl (show 43 + r.old.length = 43 + r.new.length by omega)
    have vm : numAt l (35 + 6) 2 = r.new.length := by rw [num_of d41 (beK_length _ _), val_be 2 _ (by omega)]
    have vb : (numAt l 35 4 : Int) = r.block := by rw [num_of d35' (beK_length _ _), val_be 4 _ (by omega)]; omega
    have vo : (numAt l (35 + 4) 2 : Int) = r.off := by rw [num_of d39 (beK_length _ _), val_be 2 _ (by omega)]; omega
    rw [if_neg (by omega), if_pos hk]
    unfold candSp
    rw [hN, vm, vb, vo, if_neg (by omega), if_pos ⟨hk, by omega⟩]
    rw [show (35 + 8 : Nat) = 43 from rfl, d43, dn, take_pre on, take_pre rfl]
    obtain ⟨lsn, turn, kind, tx, prev, next, block, off, old, new⟩ := r
    dsimp only at *
    subst hn
    rfl
  · rw [if_pos (by omega), if_neg (by omega)] at hlen
    have e : b = beK 8 r.next.toNat ++ (beK 4 r.block.toNat ++ (beK 2 r.off.toNat ++ (beK 2 r.new.length ++ (r.old ++ r.new)))) := by
      have e1 : b3L r ++ b = b3L r ++ (beK 8 r.next.toNat ++ (beK 4 r.block.toNat ++ (beK 2 r.off.toNat ++ (beK 2 r.new.length ++ (r.old ++ r.new))))) := by
        rw [← hbd.1]
        unfold bodyL b4L
        rw [if_neg (by omega), if_pos (by omega)]
        simp
      exact List.append_cancel_left e1
    have eo : r.old = [] := List.eq_nil_of_length_eq_zero on
    have d35' : l.drop 35 = beK 8 r.next.toNat ++ (beK 4 r.block.toNat ++ (beK 2 r.off.toNat ++ (beK 2 r.new.length ++ (r.new ++ t)))) := by rw [d35, e, eo]; simp
    have d43 := drop_more d35' (beK_length _ _) (show 35 + 8 = 43 by omega)
    have d47 := drop_more d43 (beK_length _ _) (show 43 + 4 = 47 by omega)
    have d49 := drop_more d47 (beK_length _ _) (show 47 + 2 = 49 by omega)
    have d51 := drop_more d49 (beK_length _ _) (show 49 + 2 = 51 by omega)
    have vx : toI (numAt l 35 8) = r.next := by rw [num_of d35' (beK_length _ _), toI_place hn]
    have vm : numAt l (43 + 6) 2 = r.new.length := by rw [num_of d49 (beK_length _ _), val_be 2 _ (by omega)]
    have vb : (numAt l 43 4 : Int) = r.block := by rw [num_of d43 (beK_length _ _), val_be 4 _ (by omega)]; omega
    have vo : (numAt l (43 + 4) 2 : Int) = r.off := by rw [num_of d47 (beK_length _ _), val_be 2 _ (by omega)]; omega
    rw [if_pos hk, if_pos (by omega), vx]
    unfold candSp
    rw [hN, vm, vb, vo, if_neg (by omega), if_neg (fun hh => by have := hh.1; dsimp only at this; omega), if_pos (by omega)]
    rw [show (43 + 8 : Nat) = 51 from rfl, d51, take_pre rfl]
    obtain ⟨lsn, turn, kind, tx, prev, next, block, off, old, new⟩ := r
    dsimp only at *
    subst eo
    rfl
  · rw [if_neg (by omega), if_neg (by omega)]
    obtain ⟨lsn, turn, kind, tx, prev, next, block, off, old, new⟩ := r
    dsimp only at *
    have eo : old = [] := List.eq_nil_of_length_eq_zero on
    have en : new = [] := List.eq_nil_of_length_eq_zero nn
    subst hn b0 o0 eo en
    rfl

/-- The document's way and the program's get the same. -/
theorem getR_eq (l : List UInt8) : getR l = decR l := by
  cases hd : decR l with
  | some q =>
    obtain ⟨r, m⟩ := q
    obtain ⟨hr, hm, he, hle⟩ := dec_inv hd
    obtain ⟨n0, n1⟩ := body_bounds hr
    have hl : l = encL r ++ l.drop m := by rw [he, List.take_append_drop]
    obtain ⟨c1, c2⟩ := cand_enc r hr (l.drop m)
    rw [← hl] at c1 c2
    rw [encL_length] at hm
    unfold getR
    rw [c1, c2, if_neg (by omega), if_neg (by omega), if_pos ⟨hr, by rw [← hm]; exact he⟩, hm]
  | none =>
    unfold getR
    by_cases h1 : l.length < 35
    · rw [if_pos h1]
    rw [if_neg h1]
    by_cases h2 : sayN l < 17 ∨ l.length < 18 + sayN l
    · rw [if_pos h2]
    rw [if_neg h2]
    by_cases h3 : rightB (candR l) = true ∧ encL (candR l) = l.take (18 + sayN l)
    · have hl : l = encL (candR l) ++ l.drop (18 + sayN l) := by rw [h3.2, List.take_append_drop]
      have := dec_enc (candR l) h3.1 (l.drop (18 + sayN l))
      rw [← hl, hd] at this
      cases this
    · rw [if_neg h3]

end Go.Proofs.YticmjdblcomecaaGreat

namespace Go.Proofs.YticmjdblcomecaaGreat
open Go.RowKit Go.Maps

theorem enc_inj {r r' : Rec} {t : List UInt8} (h : rightB r = true) (h' : rightB r' = true) (e : encL r = encL r' ++ t) : (encL r').length = (encL r).length := by
  have h1 := dec_enc r h []
  have h2 := dec_enc r' h' t
  rw [List.append_nil, e, h2] at h1
  simp only [Option.some.injEq, Prod.mk.injEq] at h1
  rw [h1.2, e]
theorem cut_none (r : Rec) (h : rightB r = true) (k : Nat) (hk : k < (encL r).length) : decR ((encL r).take k) = none := by
  cases hd : decR ((encL r).take k) with
  | none => rfl
  | some q =>
    obtain ⟨r', n⟩ := q
    obtain ⟨hr, hn, he, hle⟩ := dec_inv hd
    rw [List.length_take] at hle
    rw [List.take_take, Nat.min_eq_left (by omega)] at he
    have e : encL r = encL r' ++ (encL r).drop n := by rw [he, List.take_append_drop]
    have := enc_inj h hr e
    omega

theorem enc_split (r : Rec) : encL r = headL r ++ (beK 4 (crc (headL r ++ bodyL r)) ++ bodyL r) := by simp [encL]
theorem enc_drop12 (r : Rec) : (encL r).drop 12 = beK 2 (bodyL r).length ++ (beK 4 (crc (headL r ++ bodyL r)) ++ bodyL r) := by
  rw [enc_split]
  unfold headL
  rw [List.append_assoc, drop_pre (by simp [beK_length])]
theorem enc_drop14 (r : Rec) : (encL r).drop 14 = beK 4 (crc (headL r ++ bodyL r)) ++ bodyL r := by
  rw [enc_split, drop_pre (headL_length r)]
theorem enc_drop18 (r : Rec) : (encL r).drop 18 = bodyL r := by
  have h := enc_drop14 r
  have h2 : (encL r).drop 18 = ((encL r).drop 14).drop 4 := by rw [List.drop_drop]
  rw [h2, h, drop_pre (beK_length _ _)]
theorem enc_take14 (r : Rec) : (encL r).take 14 = headL r := by rw [enc_split, take_pre (headL_length r)]
theorem say_enc (r : Rec) (h : rightB r = true) : numAt (encL r) 12 2 = (bodyL r).length := by
  have := body_bounds h
  rw [num_of (enc_drop12 r) (beK_length _ _), val_be 2 _ (by omega)]
theorem sum_enc (r : Rec) : numAt (encL r) 14 4 = crc (headL r ++ bodyL r) := by
  have := crc_lt (headL r ++ bodyL r)
  rw [num_of (enc_drop14 r) (beK_length _ _), val_be 4 _ (by omega)]

/-- How long a body is stands in it. -/
theorem body_says (r : Rec) (h : rightB r = true) :
    numAt (encL r) 18 1 = r.kind ∧ (r.kind = 1 → numAt (encL r) 41 2 = r.new.length ∧ (bodyL r).length = 25 + (r.new.length + r.new.length) ∧ 0 < r.new.length) ∧ (r.kind = 2 → numAt (encL r) 49 2 = r.new.length ∧ (bodyL r).length = 33 + r.new.length ∧ 0 < r.new.length) ∧ (r.kind ≠ 1 → r.kind ≠ 2 → (bodyL r).length = 17) := by
  have d18 := enc_drop18 r
  have hkk : r.kind < 256 := by rcases right_kinds h with h | h | h <;> omega
  have hlen := bodyL_length r
  have h3 : ∃ b, bodyL r = b3L r ++ b := by
    unfold bodyL b4L
    split <;> split <;> simp
  refine ⟨?_, ?_, ?_, ?_⟩
  · obtain ⟨b, hb⟩ := h3
    have d : (encL r).drop 18 = beK 1 r.kind ++ (beK 8 r.tx.toNat ++ (beK 8 r.prev.toNat ++ b)) := by rw [d18, hb]; simp [b3L]
    rw [num_of d (beK_length _ _), val_be 1 _ (by omega)]
  · intro hk
    rcases right_kinds h with ⟨_, hn, b0, b1, o0, m0, o1, on⟩ | ⟨hk', _⟩ | ⟨hk', _⟩
    · rw [if_neg (by omega), if_neg (by omega)] at hlen
      have e : (encL r).drop 18 = (b3L r ++ beK 4 r.block.toNat ++ beK 2 r.off.toNat) ++ (beK 2 r.new.length ++ (r.old ++ r.new)) := by
        rw [d18]
        unfold bodyL b4L
        rw [if_neg (by omega), if_neg (by omega)]
        simp
      have d := drop_more e (show _ = 23 by simp [b3L_length, beK_length]) (show 18 + 23 = 41 by omega)
      refine ⟨?_, by omega, by omega⟩
      rw [num_of d (beK_length _ _), val_be 2 _ (by omega)]
    · omega
    · omega
  · intro hk
    rcases right_kinds h with ⟨hk', _⟩ | ⟨_, hn, b0, b1, o0, m0, o1, on⟩ | ⟨hk', _⟩
    · omega
    · rw [if_pos (by omega), if_neg (by omega)] at hlen
      have e : (encL r).drop 18 = (b3L r ++ beK 8 r.next.toNat ++ beK 4 r.block.toNat ++ beK 2 r.off.toNat) ++ (beK 2 r.new.length ++ (r.old ++ r.new)) := by
        rw [d18]
        unfold bodyL b4L
        rw [if_neg (by omega), if_pos (by omega)]
        simp
      have d := drop_more e (show _ = 31 by simp [b3L_length, beK_length]) (show 18 + 31 = 49 by omega)
      refine ⟨?_, by omega, by omega⟩
      rw [num_of d (beK_length _ _), val_be 2 _ (by omega)]
    · omega
  · intro k1 k2
    rcases right_kinds h with ⟨hk', _⟩ | ⟨hk', _⟩ | ⟨hk, hn, b0, o0, on, nn⟩
    · omega
    · omega
    · rw [if_neg (by omega), if_pos nn] at hlen
      omega

theorem num_set {l : List UInt8} {b : UInt8} {n k i m : Nat} (hm : i + m ≤ n) (hk : k < i ∨ i + m ≤ k) : numAt ((l.set k b).take n) i m = numAt l i m := by
  unfold numAt
  congr 1
  refine List.ext_getElem? fun j => ?_
  rw [List.getElem?_take, List.getElem?_take, List.getElem?_drop, List.getElem?_drop]
  split
  · rw [List.getElem?_take, if_pos (by omega), List.getElem?_set]
    rw [if_neg (by omega)]
  · rfl

theorem turn_none (r : Rec) (h : rightB r = true) (k : Nat) (b : UInt8) (hk : k < (encL r).length) (hb : byteAt (encL r) k ≠ b) : decR ((encL r).set k b) = none := by
  cases hd : decR ((encL r).set k b) with
  | none => rfl
  | some q =>
    exfalso
    obtain ⟨r', n⟩ := q
    obtain ⟨hr, hn, he, hle⟩ := dec_inv hd
    obtain ⟨n0, n1⟩ := body_bounds h
    obtain ⟨n0', n1'⟩ := body_bounds hr
    rw [List.length_set] at hle
    have hl := encL_length r
    have hl' := encL_length r'
    have hbk : (encL r)[k]? ≠ some b := by
      rw [List.getElem?_eq_getElem hk]
      rw [byteAt_lt hk] at hb
      simpa using hb
    by_cases hkn : n ≤ k
    · rw [List.take_set_of_le (by omega)] at he
      have e : encL r = encL r' ++ (encL r).drop n := by rw [he, List.take_append_drop]
      have := enc_inj h hr e
      omega
    have hk' : (encL r')[k]? = some b := by
      rw [he, List.getElem?_take, if_pos (by omega), List.getElem?_set, if_pos rfl, if_pos hk]
    -- the lengths are the same
    have hlen : (bodyL r').length = (bodyL r).length := by
      by_cases h1213 : k = 12 ∨ k = 13
      · obtain ⟨kd, a1, a2, a3⟩ := body_says r h
        obtain ⟨kd', a1', a2', a3'⟩ := body_says r' hr
        rw [he, num_set (by omega) (by omega), kd] at kd'
        by_cases c1 : r.kind = 1
        · obtain ⟨m1, m2, m3⟩ := a1 c1
          obtain ⟨m1', m2', m3'⟩ := a1' (by omega)
          rw [he, num_set (by omega) (by omega)] at m1'
          omega
        by_cases c2 : r.kind = 2
        · obtain ⟨m1, m2, m3⟩ := a2 c2
          obtain ⟨m1', m2', m3'⟩ := a2' (by omega)
          rw [he, num_set (by omega) (by omega)] at m1'
          omega
        have := a3 c1 c2
        have := a3' (by omega) (by omega)
        omega
      · have e1 := say_enc r h
        have e2 := say_enc r' hr
        rw [he, num_set (by omega) (by omega)] at e2
        omega
    have hnn : n = (encL r).length := by omega
    have he' : encL r' = (encL r).set k b := by rw [he, List.take_of_length_le (by rw [List.length_set]; omega)]
    -- the sums
    by_cases hs : 14 ≤ k ∧ k < 18
    · have e1 : headL r' = headL r := by
        rw [← enc_take14, ← enc_take14, he', List.take_set_of_le (by omega)]
      have e2 : bodyL r' = bodyL r := by
        rw [← enc_drop18, ← enc_drop18, he', List.drop_set_of_lt (by omega)]
      have e3 : encL r' = encL r := by rw [enc_split, enc_split, e1, e2]
      rw [e3] at hk'
      exact hbk hk'
    · have s1 := sum_enc r
      have s2 := sum_enc r'
      have hset : (encL r).set k b = ((encL r).set k b).take (encL r).length := by rw [List.take_of_length_le (by rw [List.length_set]; omega)]
      rw [he', hset, num_set (by omega) (by omega), s1] at s2
      have hc : headL r' ++ bodyL r' = (headL r ++ bodyL r).set (if k < 14 then k else k - 4) b := by
        rw [← enc_take14 r', ← enc_drop18 r', ← enc_take14 r, ← enc_drop18 r, he']
        have ht : ((encL r).take 14).length = 14 := by rw [List.length_take]; omega
        split
        · rw [List.drop_set_of_lt (by omega), List.set_append_left _ _ (by omega), List.take_set]
        · rw [List.take_set_of_le (by omega), List.set_append_right _ _ (by omega), ht, List.drop_set, if_neg (by omega)]
          congr 2
      rw [hc] at s2
      obtain ⟨K, hK⟩ : ∃ K, (if k < 14 then k else k - 4) = K := ⟨_, rfl⟩
      rw [hK] at s2 hc
      have hKl : K < (headL r ++ bodyL r).length := by
        rw [List.length_append, headL_length, ← hK]
        split <;> omega
      have p1 : headL r ++ bodyL r = (headL r ++ bodyL r).take K ++ (headL r ++ bodyL r)[K] :: (headL r ++ bodyL r).drop (K + 1) := by
        rw [List.getElem_cons_drop, List.take_append_drop]
      have p2 : (headL r ++ bodyL r).set K b = (headL r ++ bodyL r).take K ++ b :: (headL r ++ bodyL r).drop (K + 1) := List.set_eq_take_append_cons_drop .. |>.trans (by rw [if_pos hKl])
      rw [p2] at s2
      have s3 : crc ((headL r ++ bodyL r).take K ++ (headL r ++ bodyL r)[K] :: (headL r ++ bodyL r).drop (K + 1)) = crc ((headL r ++ bodyL r).take K ++ b :: (headL r ++ bodyL r).drop (K + 1)) := by
        rw [← p1]
        exact s2
      have hbb := crc_turn _ _ _ _ s3
      apply hbk
      have hg : (headL r ++ bodyL r)[K]? = some b := by rw [List.getElem?_eq_getElem hKl, hbb]
      rw [← hg, ← hK]
      split
      · rename_i h14
        rw [List.getElem?_append_left (by rw [headL_length]; omega), enc_split, List.getElem?_append_left (by rw [headL_length]; omega)]
      · rw [List.getElem?_append_right (by rw [headL_length]; omega), headL_length, ← enc_drop18, List.getElem?_drop]
        congr 1
        omega

end Go.Proofs.YticmjdblcomecaaGreat

