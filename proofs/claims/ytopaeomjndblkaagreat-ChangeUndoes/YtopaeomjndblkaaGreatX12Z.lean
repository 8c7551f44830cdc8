/-
  The pool's frames sorted by their pages: slices.SortFunc.
-/
import Derived.Test.YtopaeomjndblkaaGreatQGet
import Derived.Test.YtopaeomjndblkaaGreatX07Z
import Derived.Test.YtopaeomjndblkaaGreatX11Z
import Derived.Shelf.Small.Bits
import Derived.Shelf.Strconv.Itoa0
import Derived.Shelf.SlSortCmp.Whole1
import Derived.Ground.SlsfProg
import Derived.Shelf.SlGeneric
import Derived.Test.YtopaeomjndblkaaGreatProg
namespace Go.Proofs.YtopaeomjndblkaaGreat
open Go.RowKit Go.Maps

theorem take_pre {a b : List UInt8} {k : Nat} (h : a.length = k) : (a ++ b).take k = a := List.take_left' h
theorem drop_pre {a b : List UInt8} {k : Nat} (h : a.length = k) : (a ++ b).drop k = b := List.drop_left' h
theorem drop_more {l a b : List UInt8} {i k j : Nat} (h : l.drop i = a ++ b) (ha : a.length = k) (hj : i + k = j) : l.drop j = b := by
  rw [← hj, ← List.drop_drop, h, drop_pre ha]
theorem val_be (k n : Nat) (h : n < 256 ^ k) : valL (beK k n) = n := by rw [valL_beK, Nat.mod_eq_of_lt h]

theorem span_dec (b o : Int) (old new : List UInt8) (wo : Bool) (hb0 : 0 ≤ b) (hb1 : b < 65536) (ho0 : 0 ≤ o) (ho1 : o ≤ 512) (hn : new.length ≤ 512) (hw : old.length = if wo = true then new.length else 0) :
    spanD (beK 4 b.toNat ++ (beK 2 o.toNat ++ (beK 2 new.length ++ (old ++ new)))) wo = some (b.toNat, o.toNat, old, new) := by
  obtain ⟨l, hl⟩ : ∃ l, l = beK 4 b.toNat ++ (beK 2 o.toNat ++ (beK 2 new.length ++ (old ++ new))) := ⟨_, rfl⟩
  have d4 : l.drop 4 = beK 2 o.toNat ++ (beK 2 new.length ++ (old ++ new)) := by rw [hl]; exact drop_pre (beK_length _ _)
  have d6 := drop_more d4 (beK_length _ _) (show 4 + 2 = 6 by omega)
  have d8 := drop_more d6 (beK_length _ _) (show 6 + 2 = 8 by omega)
  have t4 : l.take 4 = beK 4 b.toNat := by rw [hl]; exact take_pre (beK_length _ _)
  have hlen : l.length = 8 + (old.length + new.length) := by rw [hl]; simp [beK_length]; omega
  have v6 : valL ((l.drop 6).take 2) = new.length := by rw [d6, take_pre (beK_length _ _), val_be 2 _ (by omega)]
  rw [← hl]
  unfold spanD
  rw [if_neg (by omega), v6, d4, d8, t4, take_pre (beK_length _ _), val_be 4 _ (by omega), val_be 2 o.toNat (by omega)]
  rw [if_neg (by rw [hlen, ← hw]; omega), ← hw, take_pre rfl, drop_pre rfl]

theorem toI_place {x : Int} (h : placeB x = true) : toI (valL (beK 8 x.toNat)) = x := by
  simp only [placeB, Bool.and_eq_true, decide_eq_true_eq] at h
  rw [val_be 8 _ (by omega), toI_small _ (by omega)]
  omega

theorem body_dec (r : Rec) (h : rightB r = true) : bodyD (bodyL r) r.lsn r.turn = some r := by
  obtain ⟨l0, l1, u0, u1, ht, hp, -⟩ := right_facts h
  have hb3 : ∀ t : List UInt8, (b3L r ++ t).take 1 = beK 1 r.kind ∧ ((b3L r ++ t).drop 1).take 8 = beK 8 r.tx.toNat ∧ ((b3L r ++ t).drop 9).take 8 = beK 8 r.prev.toNat ∧ (b3L r ++ t).drop 17 = t := by
    intro t
    have e : b3L r ++ t = beK 1 r.kind ++ (beK 8 r.tx.toNat ++ (beK 8 r.prev.toNat ++ t)) := by simp [b3L]
    have d1 : (b3L r ++ t).drop 1 = beK 8 r.tx.toNat ++ (beK 8 r.prev.toNat ++ t) := by rw [e]; exact drop_pre (beK_length _ _)
    have d9 := drop_more d1 (beK_length _ _) (show 1 + 8 = 9 by omega)
    have d17 := drop_more d9 (beK_length _ _) (show 9 + 8 = 17 by omega)
    exact ⟨by rw [e]; exact take_pre (beK_length _ _), by rw [d1]; exact take_pre (beK_length _ _), by rw [d9]; exact take_pre (beK_length _ _), d17⟩
  have hlen := bodyL_length r
  rcases right_kinds h with ⟨hk, hn, b0, b1, o0, n0, o1, on⟩ | ⟨hk, hn, b0, b1, o0, n0, o1, on⟩ | ⟨hk, hn, b0, o0, on, nn⟩
  · have e : bodyL r = b3L r ++ (beK 4 r.block.toNat ++ (beK 2 r.off.toNat ++ (beK 2 r.new.length ++ (r.old ++ r.new)))) := by
      unfold bodyL b4L
      rw [if_neg (by omega), if_neg (by omega)]
      simp
    obtain ⟨h1, h2, h3, h4⟩ := hb3 (beK 4 r.block.toNat ++ (beK 2 r.off.toNat ++ (beK 2 r.new.length ++ (r.old ++ r.new))))
    rw [if_neg (by omega), if_neg (by omega)] at hlen
    unfold bodyD
    rw [if_neg (by omega), e, h1, h2, h3, h4, val_be 1 _ (by omega), if_pos hk, span_dec _ _ _ _ true b0 b1 o0 (by omega) (by omega) (by simpa using on), toI_place ht, toI_place hp]
    obtain ⟨lsn, turn, kind, tx, prev, next, block, off, old, new⟩ := r
    dsimp only at *
    subst hk hn
    simp only [Option.map_some, Option.some.injEq, Rec.mk.injEq, true_and, and_true]
    omega
  · have e : bodyL r = b3L r ++ (beK 8 r.next.toNat ++ (beK 4 r.block.toNat ++ (beK 2 r.off.toNat ++ (beK 2 r.new.length ++ (r.old ++ r.new))))) := by
      unfold bodyL b4L
      rw [if_neg (by omega), if_pos (by omega)]
      simp
    obtain ⟨h1, h2, h3, h4⟩ := hb3 (beK 8 r.next.toNat ++ (beK 4 r.block.toNat ++ (beK 2 r.off.toNat ++ (beK 2 r.new.length ++ (r.old ++ r.new)))))
    have h5 := drop_more h4 (beK_length _ _) (show 17 + 8 = 25 by omega)
    rw [if_pos (by omega), if_neg (by omega)] at hlen
    unfold bodyD
    rw [if_neg (by omega), if_neg (by omega : ¬ (bodyL r).length < 25), e, h1, h2, h3, h5, h4, val_be 1 _ (by omega), if_neg (by omega), if_pos hk, take_pre (beK_length _ _), span_dec _ _ _ _ false b0 b1 o0 (by omega) (by omega) (by simpa using on), toI_place ht, toI_place hp, toI_place hn]
    obtain ⟨lsn, turn, kind, tx, prev, next, block, off, old, new⟩ := r
    dsimp only at *
    subst hk
    simp only [Option.map_some, Option.some.injEq, Rec.mk.injEq, true_and, and_true]
    omega
  · have e : bodyL r = b3L r ++ [] := by
      unfold bodyL b4L
      rw [if_pos (by omega), if_neg (by omega)]
      simp
    obtain ⟨h1, h2, h3, h4⟩ := hb3 []
    rw [if_neg (by omega), if_pos (by omega)] at hlen
    unfold bodyD
    rw [if_neg (by omega), if_pos (by omega : (bodyL r).length = 17), e, h1, h2, h3, val_be 1 _ (by omega), if_neg (by omega), if_neg (by omega), toI_place ht, toI_place hp]
    obtain ⟨lsn, turn, kind, tx, prev, next, block, off, old, new⟩ := r
    dsimp only at *
    have eo : old = [] := List.eq_nil_of_length_eq_zero on
    have en : new = [] := List.eq_nil_of_length_eq_zero nn
    subst hn b0 o0 eo en
    rfl

/-- What is put is got. -/
theorem dec_enc (r : Rec) (h : rightB r = true) (t : List UInt8) : decR (encL r ++ t) = some (r, (encL r).length) := by
  obtain ⟨l0, l1, u0, u1, -, -, -⟩ := right_facts h
  obtain ⟨n0, n1⟩ := body_bounds h
  obtain ⟨l, hl⟩ : ∃ l, l = encL r ++ t := ⟨_, rfl⟩
  have e0 : l = beK 8 r.lsn.toNat ++ (beK 4 r.turn.toNat ++ (beK 2 (bodyL r).length ++ (beK 4 (crc (headL r ++ bodyL r)) ++ (bodyL r ++ t)))) := by rw [hl]; simp [encL, headL]
  have e14 : l = headL r ++ (beK 4 (crc (headL r ++ bodyL r)) ++ (bodyL r ++ t)) := by rw [hl]; simp [encL]
  have d8 : l.drop 8 = beK 4 r.turn.toNat ++ (beK 2 (bodyL r).length ++ (beK 4 (crc (headL r ++ bodyL r)) ++ (bodyL r ++ t))) := by rw [e0]; exact drop_pre (beK_length _ _)
  have d12 := drop_more d8 (beK_length _ _) (show 8 + 4 = 12 by omega)
  have d14 := drop_more d12 (beK_length _ _) (show 12 + 2 = 14 by omega)
  have d18 := drop_more d14 (beK_length _ _) (show 14 + 4 = 18 by omega)
  have t8 : l.take 8 = beK 8 r.lsn.toNat := by rw [e0]; exact take_pre (beK_length _ _)
  have t14 : l.take 14 = headL r := by rw [e14]; exact take_pre (headL_length r)
  have hlen : l.length = 18 + (bodyL r).length + t.length := by rw [hl, List.length_append, encL_length]
  have v12 : valL ((l.drop 12).take 2) = (bodyL r).length := by rw [d12, take_pre (beK_length _ _), val_be 2 _ (by omega)]
  have v14 : valL ((l.drop 14).take 4) = crc (headL r ++ bodyL r) := by rw [d14, take_pre (beK_length _ _), val_be 4 _ (by have := crc_lt (headL r ++ bodyL r); omega)]
  have v8 : (valL ((l.drop 8).take 4) : Int) = r.turn := by rw [d8, take_pre (beK_length _ _), val_be 4 _ (by omega)]; omega
  have v0 : toI (valL (l.take 8)) = r.lsn := by rw [t8, val_be 8 _ (by omega), toI_small _ (by omega)]; omega
  rw [← hl]
  unfold decR
  rw [if_neg (by omega), v12, if_neg (by omega), v14, t14, d18, take_pre rfl, if_neg (fun h => h rfl), v0, v8, body_dec r h, encL_length]
  show (if rightB r = true then _ else _) = _
  rw [if_pos h]

/-! ### what is got was put -/
theorem be_val (k : Nat) (l : List UInt8) (h : l.length = k) : beK k (valL l) = l := by rw [← h]; exact beK_valL l
theorem cut_at (l : List UInt8) (i k j : Nat) (h : i + k = j) : (l.drop i).take k ++ l.drop j = l.drop i := by
  rw [← h, ← List.drop_drop, List.take_append_drop]
theorem len_cut (l : List UInt8) (i k : Nat) (h : i + k ≤ l.length) : ((l.drop i).take k).length = k := by rw [List.length_take, List.length_drop]; omega
theorem val_cut_lt (l : List UInt8) (i k : Nat) (h : i + k ≤ l.length) : valL ((l.drop i).take k) < 256 ^ k := by
  have := valL_lt ((l.drop i).take k)
  rwa [len_cut l i k h] at this
theorem toI_pos {n : Nat} (h : n < 18446744073709551616) (h0 : 0 ≤ toI n) : (toI n).toNat = n ∧ toI n = n := by
  unfold toI wrap64 at *
  omega

theorem span_inv {l : List UInt8} {wo : Bool} {q : Nat × Nat × List UInt8 × List UInt8} (h : spanD l wo = some q) (hn : q.2.2.2.length < 65536) :
    beK 4 q.1 ++ (beK 2 q.2.1 ++ (beK 2 q.2.2.2.length ++ (q.2.2.1 ++ q.2.2.2))) = l ∧ 8 ≤ l.length := by
  unfold spanD at h
  by_cases h1 : l.length < 8
  · rw [if_pos h1] at h; cases h
  rw [if_neg h1] at h
  obtain ⟨x, hx⟩ : ∃ x, x = (if wo = true then valL ((l.drop 6).take 2) else 0) := ⟨_, rfl⟩
  rw [← hx] at h
  by_cases h2 : l.length - 8 ≠ x + valL ((l.drop 6).take 2)
  · rw [if_pos h2] at h; cases h
  rw [if_neg h2] at h
  cases h
  dsimp only at hn ⊢
  have hl : ((l.drop 8).drop x).length = valL ((l.drop 6).take 2) := by rw [List.length_drop, List.length_drop]; omega
  refine ⟨?_, by omega⟩
  rw [hl, List.take_append_drop, be_val 2 _ (len_cut l 6 2 (by omega)), be_val 2 _ (len_cut l 4 2 (by omega)), be_val 4 (l.take 4) (by rw [List.length_take]; omega), cut_at l 6 2 8 rfl, cut_at l 4 2 6 rfl, List.take_append_drop]

theorem body_inv {l : List UInt8} {lsn turn : Int} {r : Rec} (h : bodyD l lsn turn = some r) (hr : rightB r = true) : bodyL r = l ∧ r.lsn = lsn ∧ r.turn = turn := by
  obtain ⟨l0, l1, u0, u1, ht, hp, -⟩ := right_facts hr
  have hkd := right_kinds hr
  unfold bodyD at h
  by_cases h17 : l.length < 17
  · rw [if_pos h17] at h; cases h
  rw [if_neg h17] at h
  have hb3 : beK 1 (valL (l.take 1)) ++ (beK 8 (valL ((l.drop 1).take 8)) ++ (beK 8 (valL ((l.drop 9).take 8)) ++ l.drop 17)) = l := by
    rw [be_val 1 _ (by rw [List.length_take]; omega), be_val 8 _ (len_cut l 1 8 (by omega)), be_val 8 _ (len_cut l 9 8 (by omega)), cut_at l 9 8 17 rfl, cut_at l 1 8 9 rfl, List.take_append_drop]
  have hv1 := val_cut_lt l 1 8 (by omega)
  have hv9 := val_cut_lt l 9 8 (by omega)
  simp only [placeB, Bool.and_eq_true, decide_eq_true_eq] at ht hp
  by_cases k1 : valL (l.take 1) = 1
  · rw [if_pos k1] at h
    cases hs : spanD (l.drop 17) true with
    | none => rw [hs] at h; cases h
    | some q =>
      rw [hs] at h
      cases h
      dsimp only at *
      have hq : q.2.2.2.length ≤ 512 := by rcases hkd with h | h | h <;> omega
      obtain ⟨e1, -⟩ := span_inv hs (by omega)
      have t1 := (toI_pos (by simpa using hv1) ht.1).1
      have t9 := (toI_pos (by simpa using hv9) hp.1).1
      refine ⟨?_, rfl, rfl⟩
      unfold bodyL b4L b3L
      dsimp only
      rw [if_neg (by rcases hkd with h | h | h <;> omega), if_neg (by omega), t1, t9, Int.toNat_natCast, Int.toNat_natCast]
      rw [k1, ← e1] at hb3
      simpa using hb3
  rw [if_neg k1] at h
  by_cases k2 : valL (l.take 1) = 2
  · rw [if_pos k2] at h
    by_cases h25 : l.length < 25
    · rw [if_pos h25] at h; cases h
    rw [if_neg h25] at h
    cases hs : spanD (l.drop 25) false with
    | none => rw [hs] at h; cases h
    | some q =>
      rw [hs] at h
      cases h
      dsimp only at *
      have hq : q.2.2.2.length ≤ 512 := by rcases hkd with h | h | h <;> omega
      have hnx : placeB (toI (valL ((l.drop 17).take 8))) = true := by
        rcases hkd with h | h | h
        · omega
        · exact h.2.1
        · omega
      have hv17 := val_cut_lt l 17 8 (by omega)
      simp only [placeB, Bool.and_eq_true, decide_eq_true_eq] at hnx
      obtain ⟨e1, -⟩ := span_inv hs (by omega)
      have t1 := (toI_pos (by simpa using hv1) ht.1).1
      have t9 := (toI_pos (by simpa using hv9) hp.1).1
      have t17 := (toI_pos (by simpa using hv17) hnx.1).1
      have e17 : beK 8 (valL ((l.drop 17).take 8)) ++ l.drop 25 = l.drop 17 := by rw [be_val 8 _ (len_cut l 17 8 (by omega)), cut_at l 17 8 25 rfl]
      refine ⟨?_, rfl, rfl⟩
      unfold bodyL b4L b3L
      dsimp only
      rw [if_neg (by rcases hkd with h | h | h <;> omega), if_pos rfl, t1, t9, t17, Int.toNat_natCast, Int.toNat_natCast]
      rw [k2, ← e17, ← e1] at hb3
      simpa using hb3
  rw [if_neg k2] at h
  by_cases k17 : l.length = 17
  · rw [if_pos k17] at h
    cases h
    dsimp only at *
    have t1 := (toI_pos (by simpa using hv1) ht.1).1
    have t9 := (toI_pos (by simpa using hv9) hp.1).1
    refine ⟨?_, rfl, rfl⟩
    unfold bodyL b4L b3L
    dsimp only
    rw [if_pos List.length_nil, if_neg k2, t1, t9]
    rw [List.drop_eq_nil_of_le (by omega : l.length ≤ 17)] at hb3
    simpa using hb3
  · rw [if_neg k17] at h; cases h

/-- What is got was put. -/
theorem dec_inv {l : List UInt8} {r : Rec} {n : Nat} (h : decR l = some (r, n)) : rightB r = true ∧ n = (encL r).length ∧ encL r = l.take n ∧ n ≤ l.length := by
  unfold decR at h
  by_cases h18 : l.length < 18
  · rw [if_pos h18] at h; cases h
  rw [if_neg h18] at h
  obtain ⟨N, hN⟩ : ∃ N, valL ((l.drop 12).take 2) = N := ⟨_, rfl⟩
  rw [hN] at h
  by_cases hb : l.length - 18 < N
  · rw [if_pos hb] at h; cases h
  rw [if_neg hb] at h
  by_cases hc : valL ((l.drop 14).take 4) ≠ crc (l.take 14 ++ (l.drop 18).take N)
  · rw [if_pos hc] at h; cases h
  rw [if_neg hc] at h
  have hc' : valL ((l.drop 14).take 4) = crc (l.take 14 ++ (l.drop 18).take N) := Decidable.not_not.1 hc
  cases hbd : bodyD ((l.drop 18).take N) (toI (valL (l.take 8))) (valL ((l.drop 8).take 4)) with
  | none => rw [hbd] at h; cases h
  | some r2 =>
    rw [hbd] at h
    by_cases hr : rightB r2 = true
    · have h2 : some (r2, 18 + N) = some (r, n) := by
        have h3 : (if rightB r2 = true then some (r2, 18 + N) else none) = some (r, n) := h
        rwa [if_pos hr] at h3
      cases h2
      obtain ⟨e1, e2, e3⟩ := body_inv hbd hr
      obtain ⟨l0, l1, u0, u1, -, -, -⟩ := right_facts hr
      have hlB : (bodyL r).length = N := by rw [e1, len_cut l 18 N (by omega)]
      have hv0 := val_cut_lt l 0 8 (by omega)
      rw [List.drop_zero] at hv0
      have t0 : r.lsn.toNat = valL (l.take 8) := by
        rw [e2] at l0 ⊢
        exact (toI_pos (by simpa using hv0) (by omega)).1
      have hh : headL r = l.take 14 := by
        unfold headL
        rw [t0, e3, hlB, Int.toNat_natCast, be_val 8 _ (by rw [List.length_take]; omega), be_val 4 _ (len_cut l 8 4 (by omega)), ← hN, be_val 2 _ (len_cut l 12 2 (by omega))]
        have a1 : (l.drop 8).take 4 ++ (l.drop 12).take 2 = (l.drop 8).take 6 := by
          rw [show (6 : Nat) = 4 + 2 from rfl, List.take_add, List.drop_drop]
        rw [List.append_assoc, a1, show (14 : Nat) = 8 + 6 from rfl, List.take_add]
      refine ⟨hr, by rw [encL_length, hlB], ?_, by omega⟩
      unfold encL
      rw [hh, e1, ← hc', be_val 4 _ (len_cut l 14 4 (by omega)), show 18 + N = 14 + (4 + N) by omega, List.take_add, List.take_add, List.drop_drop, List.append_assoc]
    · have h3 : (if rightB r2 = true then some (r2, 18 + N) else none) = some (r, n) := h
      rw [if_neg hr] at h3
      cases h3

end Go.Proofs.YtopaeomjndblkaaGreat

namespace Go.Proofs.YtopaeomjndblkaaGreat
open Go.RowKit Go.Maps

/-- A step of a log. -/
structure LStep (w w' : World) (y y' : Lo) : Prop where
  at' : LoAt w' y'
  fr : Fr y.own w w'
  ow : ∀ k ∈ y'.own, k ∈ y.own ∨ w.heap.size ≤ k
theorem LStep.trans {w w1 w2 : World} {y y1 y2 : Lo} (h : LStep w w1 y y1) (k : LStep w1 w2 y1 y2) : LStep w w2 y y2 :=
  ⟨k.at', h.fr.then k.fr (fun i hi hm => (h.ow i hm).resolve_right (by omega)), fun i hi => (k.ow i hi).elim (fun h1 => h.ow i h1) (fun h1 => Or.inr (Nat.le_trans h.fr.size h1))⟩
theorem LStep.quiet {w w' : World} {y : Lo} (h : LoAt w y) (f : Fr [] w w') : LStep w w' y y := ⟨h.kept f (by simp), f.mono (fun _ _ e => nomatch e), fun k hk => Or.inl hk⟩
/-- What a log is behind whatever append1 does: it has grown, and outside its area the device is as it was. -/
structure Grew (y y' : Lo) : Prop where
  d : y'.d = y.d
  bs : y'.bs = y.bs
  bo : y'.bo = y.bo
  nb : y'.nb = y.nb
  p : y'.p = y.p
  first : y'.first = y.first
  count : y'.count = y.count
  T : y'.T = y.T
  E : y.E ≤ y'.E
  E2 : y'.E ≤ y.E + 1067
  P : y.P ≤ y'.P
  out : Outside y.first y.count y.S y.O y'.S y'.O
  lw : y'.lw = y.lw
theorem LoAt.lsl {w : World} {y : Lo} (h : LoAt w y) : y.ls.length = y.n2 := by
  have h1 := h.lsA.1
  simpa [lsV] using h1
def fitP (blk off : Int) (n : Nat) : Bool := fitsB blk off n
/-- The record of a span. -/
def recS (blk off : Int) (l : List UInt8) : Rec := ⟨0, 0, 1, 1, 0, 0, blk, off, l, l⟩
def recC : Rec := ⟨0, 0, 3, 1, 0, 0, 0, 0, [], []⟩
theorem recS_right (blk off : Int) (l : List UInt8) {E T : Nat} (hE : E ≤ 400000) (hT : T < 2147483648) (hT0 : 1 ≤ T) : rightB { recS blk off l with lsn := (E : Int) + 1, turn := (T : Int) } = fitsB blk off l.length := by
  simp [rightB, headB, kindB, recS, placeB]
  intro h
  omega
theorem recC_right {E T : Nat} (hE : E ≤ 400000) (hT : T < 2147483648) (hT0 : 1 ≤ T) : rightB { recC with lsn := (E : Int) + 1, turn := (T : Int) } = true := by
  simp [rightB, headB, kindB, recC, placeB]
  omega
/-- What append1 leaves. -/
def App1 (w w' : World) (y : Lo) (fit : Bool) (lsn : Nat) : Prop := ∃ y', LStep w w' y y' ∧ Grew y y' ∧ lsn ≤ y'.E ∧ (fit = true → 1 ≤ lsn)
end Go.Proofs.YtopaeomjndblkaaGreat

namespace Go.Proofs.YtopaeomjndblkaaGreat
open Go.RowKit Go.Maps

/-- A log that was opened on a device without anything. -/
def lo0 (d bs bo : Nat) (nb : Int) (p : Nat) (count : Int) : Lo := ⟨d, bs, bo, nb, Dv.Tab.none, Dv.Tab.none, p, 0, count, 1, 0, 0, 0, 0, 0, 0, none, 0, 0, none, [], [], 0⟩
theorem lo0_at {w : World} {d bs bo : Nat} {nb : Int} (hd : Dv.Dev w d bs bo nb 0 false Dv.Tab.none Dv.Tab.none) {p : Nat} {count : Int} (hc : 4 ≤ count) (hn : count ≤ nb) (hb : LBox w p ⟨.pointer (some ⟨d, 0, none⟩), 0, count, 1, 1, 1, 1, .slice none 0 0, 1, .slice none 0 0⟩) : LoAt w (lo0 d bs bo nb p count) :=
  { dev := hd, box := hb, bsA := BsAt.nil w, lsA := LsAt.nil w, lbl := rfl, hn := rfl, hFP := Nat.le_refl _, hPE := Nat.le_refl _, hFA := Nat.le_refl _, hAE := Nat.le_refl _, hE := by show (0 : Nat) ≤ 400000; omega, h2 := Nat.le_refl _, hT := by show (1 : Nat) < 2147483648; omega, f0 := Int.le_refl _, f1 := by show (0 : Int) + count ≤ nb; omega, c0 := hc, hlw := Int.le_refl _ }
theorem st_none (k : Int) : stampP ((Dv.latest Dv.Tab.none Dv.Tab.none k).take 64) ≠ 1 := by
  have h : Dv.latest Dv.Tab.none Dv.Tab.none k = Dv.zeros := rfl
  rw [h]
  have h2 : stampP (Dv.zeros.take 64) = 0 := by kernel_rfl
  rw [h2]
  omega
def po0 (d bs bo : Nat) (nb : Int) (p pp rp mp start pages most : Nat) (count : Int) : Po := ⟨lo0 d bs bo nb p count, pp, rp, mp, start, pages, most, none, 0, 0, []⟩
end Go.Proofs.YtopaeomjndblkaaGreat

namespace Go.Proofs.YtopaeomjndblkaaGreat
open Go.RowKit Go.Maps

/-- A page is what its frame has, or, if it is in none, what the device has. -/
def Val (x : Po) (q : Nat) (l : List UInt8) : Prop := (∃ f ∈ x.fs, f.pg = q ∧ f.l = l) ∨ (q ∉ (ids x.fs).map (·.1) ∧ pgD x.start x.y q = l)
theorem mem_ids {fs : List Fm} {f : Fm} (h : f ∈ fs) : f.pg ∈ (ids fs).map (·.1) := List.mem_map.2 ⟨(f.pg, f.b), List.mem_map.2 ⟨f, h, rfl⟩, rfl⟩
theorem ids_mem {fs : List Fm} {q : Nat} (h : q ∈ (ids fs).map (·.1)) : ∃ f ∈ fs, f.pg = q := by
  obtain ⟨j, f, hj, hq⟩ := pg_in h
  exact ⟨f, List.mem_of_getElem? hj, hq⟩
theorem ids_pg (fs : List Fm) : (ids fs).map (·.1) = fs.map (·.pg) := by
  unfold ids
  rw [List.map_map]
  rfl
theorem pg_uniq {fs : List Fm} (hn : ((ids fs).map (·.1)).Nodup) {i j : Nat} {f g : Fm} (hi : fs[i]? = some f) (hj : fs[j]? = some g) (he : f.pg = g.pg) : i = j := by
  rw [ids_pg] at hn
  have h1 : (fs.map (·.pg))[i]? = some f.pg := by rw [List.getElem?_map, hi]; rfl
  have h2 : (fs.map (·.pg))[j]? = some f.pg := by rw [List.getElem?_map, hj, he]; rfl
  obtain ⟨hl1, e1⟩ := List.getElem?_eq_some_iff.1 h1
  obtain ⟨hl2, e2⟩ := List.getElem?_eq_some_iff.1 h2
  have hp := List.pairwise_iff_getElem.1 hn
  rcases Nat.lt_trichotomy i j with h | h | h
  · exact absurd (e1.trans e2.symm) (hp i j hl1 hl2 h)
  · exact h
  · exact absurd (e2.trans e1.symm) (hp j i hl2 hl1 h)
theorem Val.uniq {x : Po} (hn : ((ids x.fs).map (·.1)).Nodup) {q : Nat} {l l' : List UInt8} (h : Val x q l) (h' : Val x q l') : l = l' := by
  rcases h with ⟨f, hf, rfl, rfl⟩ | ⟨hq, rfl⟩ <;> rcases h' with ⟨g, hg, he, rfl⟩ | ⟨hq', rfl⟩
  · obtain ⟨i, hi⟩ := List.mem_iff_getElem?.1 hf
    obtain ⟨j, hj⟩ := List.mem_iff_getElem?.1 hg
    have := pg_uniq hn hi hj he.symm
    subst this
    rw [hi] at hj
    cases hj
    rfl
  · exact absurd (mem_ids hf) hq'
  · exact absurd (he ▸ mem_ids hg) hq
  · rfl
theorem Val.ex (x : Po) (q : Nat) : ∃ l, Val x q l := by
  by_cases h : q ∈ (ids x.fs).map (·.1)
  · obtain ⟨f, hf, hq⟩ := ids_mem h
    exact ⟨_, Or.inl ⟨f, hf, hq, rfl⟩⟩
  · exact ⟨_, Or.inr ⟨h, rfl⟩⟩
theorem Val.len {w : World} {x : Po} (h : PoAt w x) {q : Nat} {l : List UInt8} (hv : Val x q l) : l.length = 512 := by
  rcases hv with ⟨f, hf, _, rfl⟩ | ⟨_, rfl⟩
  · exact (h.rn.frames f hf).len
  · exact latest_len h.lo.dev _
/-- All pages of one pool are as those of another one. -/
def Alike (x x' : Po) : Prop := x'.start = x.start ∧ x'.pages = x.pages ∧ x'.most = x.most ∧ x'.pp = x.pp ∧ x'.mp = x.mp ∧ x'.rp = x.rp ∧ ∀ q, q < x.pages → ∀ l, Val x q l → Val x' q l
theorem Alike.refl (x : Po) : Alike x x := ⟨rfl, rfl, rfl, rfl, rfl, rfl, fun _ _ _ h => h⟩
theorem Alike.trans {x y z : Po} (h : Alike x y) (k : Alike y z) : Alike x z := ⟨k.1.trans h.1, k.2.1.trans h.2.1, k.2.2.1.trans h.2.2.1, k.2.2.2.1.trans h.2.2.2.1, k.2.2.2.2.1.trans h.2.2.2.2.1, k.2.2.2.2.2.1.trans h.2.2.2.2.2.1, fun q hq l hl => k.2.2.2.2.2.2 q (by rw [h.2.1]; exact hq) l (h.2.2.2.2.2.2 q hq l hl)⟩
theorem val_set {x : Po} {fs' : List Fm} (hp : fs'.map (·.pg) = x.fs.map (·.pg)) (hl : ∀ (i : Nat) (f : Fm), x.fs[i]? = some f → ∃ g : Fm, fs'[i]? = some g ∧ g.pg = f.pg ∧ g.l = f.l) {q : Nat} {l : List UInt8} (h : Val x q l) : Val { x with fs := fs' } q l := by
  rcases h with ⟨f, hf, rfl, rfl⟩ | ⟨hq, rfl⟩
  · obtain ⟨i, hi⟩ := List.mem_iff_getElem?.1 hf
    obtain ⟨g, hg, h1, h2⟩ := hl i f hi
    exact Or.inl ⟨g, List.mem_of_getElem? hg, h1, h2⟩
  · refine Or.inr ⟨?_, rfl⟩
    show q ∉ (ids fs').map (·.1)
    rw [ids_pg, hp, ← ids_pg]
    exact hq
theorem Fnd.alike {x x' : Po} {page : Nat} {f : Fm} (h : Fnd x x' page f) (hn : ((ids x.fs).map (·.1)).Nodup) : Alike x x' ∧ Val x page f.l ∧ f.pg = page := by
  rcases h with ⟨j, f0, hj, rfl, rfl, rfl⟩ | ⟨hno, hm, hf⟩
  · refine ⟨⟨rfl, rfl, rfl, rfl, rfl, rfl, fun q _ l hl => val_set (fs' := x.fs.set j { f0 with ask := true }) ?_ ?_ hl⟩, Or.inl ⟨f0, List.mem_of_getElem? hj, rfl, rfl⟩, rfl⟩
    · rw [← ids_pg, ids_set (f' := { f0 with ask := true }) hj rfl rfl, ids_pg]
    · intro i g hi
      by_cases e : i = j
      · subst e
        rw [hj] at hi
        cases hi
        exact ⟨_, List.getElem?_set_self (List.getElem?_eq_some_iff.1 hj).1, rfl, rfl⟩
      · exact ⟨g, by rw [List.getElem?_set_ne (fun h => e h.symm)]; exact hi, rfl, rfl⟩
  · rcases hm with ⟨_, a, c, rfl⟩ | ⟨_, y', k, j, f1, _, _, hf1, _, rfl, hk, hpq, hpf, _⟩
    · refine ⟨⟨rfl, rfl, rfl, rfl, rfl, rfl, fun q _ l hl => ?_⟩, Or.inr ⟨hno, by rw [hf]; rfl⟩, by rw [hf]; rfl⟩
      rcases hl with ⟨g, hg, h1, h2⟩ | ⟨hq, h2⟩
      · exact Or.inl ⟨g, List.mem_append_left _ hg, h1, h2⟩
      · by_cases e : q = page
        · subst e
          exact Or.inl ⟨_, List.mem_append_right _ (List.mem_singleton.2 rfl), rfl, h2⟩
        · refine Or.inr ⟨?_, h2⟩
          show q ∉ (ids (x.fs ++ [newF f.b page (pgD x.start x.y page)])).map (·.1)
          rw [ids_pg, List.map_append, List.mem_append, ← ids_pg]
          rintro (h | h)
          · exact hq h
          · simp [newF] at h
            exact e h
    · refine ⟨⟨rfl, rfl, rfl, rfl, rfl, rfl, fun q hqp l hl => ?_⟩, Or.inr ⟨hno, by rw [hf]; rfl⟩, by rw [hf]; rfl⟩
      have hlt : j < x.fs.length := (List.getElem?_eq_some_iff.1 hf1).1
      have hids : ids (turnS k (x.fs.set j { f1 with fst := 0 }, x.hand)).1 = ids x.fs := (turnS_ids _ _).trans (ids_set (f' := { f1 with fst := 0 }) hf1 rfl rfl)
      have hpgs : (ids (x.swapped y' k j f1 (newF f.b page (pgD x.start x.y page))).fs).map (·.1) = ((ids x.fs).map (·.1)).set j page := by
        show (ids ((turnS k (x.fs.set j { f1 with fst := 0 }, x.hand)).1.set j (newF f.b page (pgD x.start x.y page)))).map (·.1) = _
        rw [ids_pg, List.map_set, ← ids_pg, hids]
        rfl
      have hat : ∀ (i : Nat) (g : Fm), i ≠ j → x.fs[i]? = some g → ∃ g' : Fm, (x.swapped y' k j f1 (newF f.b page (pgD x.start x.y page))).fs[i]? = some g' ∧ g'.pg = g.pg ∧ g'.l = g.l := by
        intro i g hij hg
        have hil : i < (turnS k (x.fs.set j { f1 with fst := 0 }, x.hand)).1.length := by rw [turnS_len, List.length_set]; exact (List.getElem?_eq_some_iff.1 hg).1
        obtain ⟨g', h1, h2⟩ := turnS_at k (x.fs.set j { f1 with fst := 0 }, x.hand) i _ (List.getElem?_eq_getElem hil)
        have h3 : (x.fs.set j { f1 with fst := 0 })[i]? = some g := by rw [List.getElem?_set_ne (fun h => hij h.symm)]; exact hg
        rw [h3] at h1
        cases h1
        refine ⟨(turnS k (x.fs.set j { f1 with fst := 0 }, x.hand)).1[i], ?_, ?_⟩
        · show ((turnS k (x.fs.set j { f1 with fst := 0 }, x.hand)).1.set j _)[i]? = _
          rw [List.getElem?_set_ne (fun h => hij h.symm)]
          exact List.getElem?_eq_getElem hil
        · rcases h2 with h2 | h2 <;> rw [h2] <;> exact ⟨rfl, rfl⟩
      have hnj : (x.swapped y' k j f1 (newF f.b page (pgD x.start x.y page))).fs[j]? = some (newF f.b page (pgD x.start x.y page)) := by
        show ((turnS k (x.fs.set j { f1 with fst := 0 }, x.hand)).1.set j _)[j]? = _
        rw [List.getElem?_set_self]
        rw [turnS_len, List.length_set]
        exact hlt
      rcases hl with ⟨g, hg, h1, h2⟩ | ⟨hq, h2⟩
      · obtain ⟨i, hi⟩ := List.mem_iff_getElem?.1 hg
        by_cases e : i = j
        · subst e
          rw [hf1] at hi
          cases hi
          refine Or.inr ⟨?_, ?_⟩
          · rw [hpgs]
            intro hc
            have hmem := List.mem_iff_getElem?.1 hc
            obtain ⟨i', hi'⟩ := hmem
            by_cases e' : i' = i
            · subst e'
              rw [List.getElem?_set_self (by rw [ids_pg, List.length_map]; exact hlt)] at hi'
              cases hi'
              exact hno (h1 ▸ mem_ids hg)
            · rw [List.getElem?_set_ne (fun h => e' h.symm), ids_pg, List.getElem?_map] at hi'
              cases hg' : x.fs[i']? with
              | none => rw [hg'] at hi'; cases hi'
              | some g' =>
                rw [hg'] at hi'
                have : g'.pg = q := by simpa using hi'
                exact e' (pg_uniq hn hg' hf1 (this.trans h1.symm))
          · show pgD x.start y' q = l
            rw [← h1, hpf, h2]
        · obtain ⟨g', hg', h3, h4⟩ := hat i g e hi
          exact Or.inl ⟨g', List.mem_of_getElem? hg', h3.trans h1, h4.trans h2⟩
      · by_cases e : q = page
        · subst e
          exact Or.inl ⟨_, List.mem_of_getElem? hnj, rfl, h2⟩
        · refine Or.inr ⟨?_, ?_⟩
          · rw [hpgs]
            intro hc
            rcases List.mem_or_eq_of_mem_set hc with h | h
            · exact hq h
            · exact e h
          · show pgD x.start y' q = l
            rw [hpq q hqp (fun h => hq (h ▸ mem_ids (List.mem_of_getElem? hf1))), h2]
/-- How many frames there are. -/
theorem Fnd.length {x x' : Po} {page : Nat} {f : Fm} (h : Fnd x x' page f) : (x'.fs.length = x.fs.length ∧ (page ∈ (ids x.fs).map (·.1) ∨ x.fs.length = x.most)) ∨ (x.fs.length < x.most ∧ x'.fs.length = x.fs.length + 1 ∧ page ∉ (ids x.fs).map (·.1)) := by
  rcases h with ⟨j, f0, hj, rfl, rfl, rfl⟩ | ⟨hno, hm, hf⟩
  · exact Or.inl ⟨List.length_set, Or.inl (mem_ids (List.mem_of_getElem? hj))⟩
  · rcases hm with ⟨h1, a, c, rfl⟩ | ⟨h1, y', k, j, f1, _, _, hf1, _, rfl, hk, hpq, hpf, _⟩
    · exact Or.inr ⟨h1, by show (x.fs ++ [_]).length = _; rw [List.length_append]; rfl, hno⟩
    · refine Or.inl ⟨?_, Or.inr h1⟩
      show ((turnS k (x.fs.set j { f1 with fst := 0 }, x.hand)).1.set j _).length = _
      rw [List.length_set, turnS_len, List.length_set]
theorem Fnd.kin {x x' : Po} {page : Nat} {f : Fm} (h : Fnd x x' page f) : Kin x.y x'.y := by
  rcases h with ⟨j, f0, hj, rfl, rfl, rfl⟩ | ⟨hno, hm, hf⟩
  · exact Kin.refl _
  · rcases hm with ⟨h1, a, c, rfl⟩ | ⟨h1, y', k, j, f1, _, _, hf1, _, rfl, hk, hpq, hpf, _⟩
    · exact Kin.refl _
    · exact hk
end Go.Proofs.YtopaeomjndblkaaGreat

namespace Go.Proofs.YtopaeomjndblkaaGreat
open Go.RowKit Go.Maps

def cmpP (a b : Nat) : Int := if a < b then -1 else if b < a then 1 else 0
set_option maxHeartbeats 400000 in
theorem nanI_any (w : World) (x : Int) : Calls Tryz.prog 233 #[.int .i64 x] w fun e w' => e = .returned (.bool false) ∧ w' = w := by
  have h : (x != x) = false := by simp
  go_enter Tryz.func233, Tryz.ntmps233
  go_wp2
  go_ret
  exact ⟨rfl, rfl⟩
set_option maxHeartbeats 400000 in
theorem compare_any (w : World) (a b : Nat) : Calls Tryz.prog 190 #[.int .i64 (a : Int), .int .i64 (b : Int)] w fun e w' => e = .returned (.int .i64 (cmpP a b)) ∧ w' = w := by
  unfold cmpP
  by_cases h1 : a < b
  · have q1 : (a : Int) < (b : Int) := by omega
    rw [if_pos h1]
    go_enter Tryz.func190, Tryz.ntmps190
    go_wp2_with (go_at_call 233; refine (nanI_any _ _).mono ?_; rintro e wz ⟨rfl, hz⟩; rw [hz]; clear hz)
    go_ret
    exact ⟨rfl, rfl⟩
  · have q1 : ¬ (a : Int) < (b : Int) := by omega
    rw [if_neg h1]
    by_cases h2 : b < a
    · have q2 : (b : Int) < (a : Int) := by omega
      rw [if_pos h2]
      go_enter Tryz.func190, Tryz.ntmps190
      go_wp2_with (go_at_call 233; refine (nanI_any _ _).mono ?_; rintro e wz ⟨rfl, hz⟩; rw [hz]; clear hz)
      go_ret
      exact ⟨rfl, rfl⟩
    · have q2 : ¬ (b : Int) < (a : Int) := by omega
      rw [if_neg h2]
      go_enter Tryz.func190, Tryz.ntmps190
      go_wp2_with (go_at_call 233; refine (nanI_any _ _).mono ?_; rintro e wz ⟨rfl, hz⟩; rw [hz]; clear hz)
      go_ret
      exact ⟨rfl, rfl⟩
set_option maxHeartbeats 1000000 in
theorem rising1_any {w : World} {f g : Fm} (hf : FAt w f) (hg : FAt w g) : Calls Tryz.prog 189 #[.pointer (some ⟨f.b, 0, none⟩), .pointer (some ⟨g.b, 0, none⟩)] w fun e w' => e = .returned (.int .i64 (cmpP f.pg g.pg)) ∧ ∃ q, w' = w.drewN q := by
  have c0 := hf.c0
  have d0 := hg.c0
  clear hf hg
  go_enter Tryz.func189, Tryz.ntmps189
  go_wp2_with fail
  go_quiet ((go_at_call 190; exact Calls.quiet_of_same (compare_any _ _ _)))
  go_wp2
  go_ret
  exact ⟨rfl, _, rfl⟩
end Go.Proofs.YtopaeomjndblkaaGreat

namespace Go.Proofs
open Go.Shelf
def Tryz.laysSort_ren : Go.Shelf.Ren := ⟨fun | 6 => 188 | 15 => 232 | 14 => 231 | 28 => 275 | 29 => 276 | 20 => 267 | 21 => 268 | 22 => 269 | 23 => 270 | 24 => 271 | 25 => 272 | 26 => 273 | 27 => 274 | 46 => 285 | 47 => 286 | 48 => 287 | 49 => 288 | 50 => 289 | 57 => 290 | n => n, fun | 22 => 155 | 24 => 159 | 25 => 232 | 3 => 3 | 39 => 250 | 0 => 0 | 53 => 248 | 55 => 277 | 4 => 4 | 46 => 303 | 45 => 302 | 50 => 241 | 5 => 5 | 9 => 9 | 66 => 313 | 70 => 317 | 76 => 319 | 77 => 320 | n => n, fun | n => n⟩
theorem Tryz.laysSort : Go.Proofs.SlLaysF.n6 Tryz.prog Tryz.laysSort_ren := {
  mixed := by kernel_rfl
  f6 := ⟨Tryz.f188.name, by decide, Tryz.func188.trans (congrArg some (by kernel_rfl))⟩
  f14 := ⟨Tryz.f231.name, by decide, Tryz.func231.trans (congrArg some (by kernel_rfl))⟩
  f15 := Tryz.func232.trans (congrArg some (by kernel_rfl))
  f20 := ⟨Tryz.f267.name, by decide, Tryz.func267.trans (congrArg some (by kernel_rfl))⟩
  f21 := ⟨Tryz.f268.name, by decide, Tryz.func268.trans (congrArg some (by kernel_rfl))⟩
  f22 := ⟨Tryz.f269.name, by decide, Tryz.func269.trans (congrArg some (by kernel_rfl))⟩
  f23 := ⟨Tryz.f270.name, by decide, Tryz.func270.trans (congrArg some (by kernel_rfl))⟩
  f24 := ⟨Tryz.f271.name, by decide, Tryz.func271.trans (congrArg some (by kernel_rfl))⟩
  f25 := ⟨Tryz.f272.name, by decide, Tryz.func272.trans (congrArg some (by kernel_rfl))⟩
  f26 := ⟨Tryz.f273.name, by decide, Tryz.func273.trans (congrArg some (by kernel_rfl))⟩
  f27 := ⟨Tryz.f274.name, by decide, Tryz.func274.trans (congrArg some (by kernel_rfl))⟩
  f28 := Tryz.func275.trans (congrArg some (by kernel_rfl))
  f29 := Tryz.func276.trans (congrArg some (by kernel_rfl))
  f46 := ⟨Tryz.f285.name, by decide, Tryz.func285.trans (congrArg some (by kernel_rfl))⟩
  f47 := Tryz.func286.trans (congrArg some (by kernel_rfl))
  f48 := Tryz.func287.trans (congrArg some (by kernel_rfl))
  f49 := ⟨Tryz.f288.name, by decide, Tryz.func288.trans (congrArg some (by kernel_rfl))⟩
  f50 := ⟨Tryz.f289.name, by decide, Tryz.func289.trans (congrArg some (by kernel_rfl))⟩
  f57 := ⟨Tryz.f290.name, by decide, Tryz.func290.trans (congrArg some (by kernel_rfl))⟩
  t0 := Tryz.underlying0
  a0 := Tryz.isAgg0
  z0 := Tryz.sizeOf0
  v0 := Tryz.zeroValue0
  t3 := Tryz.underlying3
  a3 := Tryz.isAgg3
  z3 := Tryz.sizeOf3
  v3 := Tryz.zeroValue3
  t4 := Tryz.underlying4
  a4 := Tryz.isAgg4
  z4 := Tryz.sizeOf4
  v4 := Tryz.zeroValue4
  t5 := Tryz.underlying5
  a5 := Tryz.isAgg5
  z5 := Tryz.sizeOf5
  v5 := Tryz.zeroValue5
  t9 := Tryz.underlying9
  a9 := Tryz.isAgg9
  z9 := Tryz.sizeOf9
  v9 := Tryz.zeroValue9
  t22 := Tryz.underlying155
  a22 := Tryz.isAgg155
  z22 := Tryz.sizeOf155
  v22 := Tryz.zeroValue155
  a24 := Tryz.isAgg159
  z24 := Tryz.sizeOf159
  t25 := Tryz.underlying232
  a25 := Tryz.isAgg232
  z25 := Tryz.sizeOf232
  v25 := Tryz.zeroValue232
  t39 := Tryz.underlying250
  a39 := Tryz.isAgg250
  z39 := Tryz.sizeOf250
  v39 := Tryz.zeroValue250
  t45 := Tryz.underlying302
  a45 := Tryz.isAgg302
  z45 := Tryz.sizeOf302
  v45 := Tryz.zeroValue302
  t46 := Tryz.underlying303
  a46 := Tryz.isAgg303
  z46 := Tryz.sizeOf303
  v46 := Tryz.zeroValue303
  t50 := Tryz.underlying241
  a50 := Tryz.isAgg241
  z50 := Tryz.sizeOf241
  v50 := Tryz.zeroValue241
  t53 := Tryz.underlying248
  a53 := Tryz.isAgg248
  z53 := Tryz.sizeOf248
  v53 := Tryz.zeroValue248
  t55 := Tryz.underlying277
  a55 := Tryz.isAgg277
  z55 := Tryz.sizeOf277
  v55 := Tryz.zeroValue277
  t66 := Tryz.underlying313
  a66 := Tryz.isAgg313
  z66 := Tryz.sizeOf313
  v66 := Tryz.zeroValue313
  t70 := Tryz.underlying317
  a70 := Tryz.isAgg317
  z70 := Tryz.sizeOf317
  v70 := Tryz.zeroValue317
  t76 := Tryz.underlying319
  a76 := Tryz.isAgg319
  z76 := Tryz.sizeOf319
  v76 := Tryz.zeroValue319
  t77 := Tryz.underlying320
  a77 := Tryz.isAgg320
  z77 := Tryz.sizeOf320
  v77 := Tryz.zeroValue320 }
end Go.Proofs

namespace Go.Proofs.YtopaeomjndblkaaGreat
open Go.RowKit Go.Maps Go.Sort

theorem fr_sort {α : Type} [Inhabited α] (enc : α → Value) (w : World) (blk off m : Nat) (dk : Array α) (os : Array Obj) : Fr [blk] w (sortWorld enc w blk off m dk os) := by
  refine ⟨rfl, rfl, rfl, ?_, ?_⟩
  · show w.heap.size ≤ ((w.heap.modify blk _) ++ os).size
    simp
  · intro i hi hn
    show ((w.heap.modify blk _) ++ os)[i]? = w.heap[i]?
    rw [Array.getElem?_append_left (by simpa using hi), Array.getElem?_modify, if_neg (fun e => hn (by simp [e]))]
def cfP (F : Nat → Fm) (i j : Nat) : Int := cmpP (F i).pg (F j).pg
theorem lt_cfP (F : Nat → Fm) (i j : Nat) : ltOf (cfP F) i j = decide ((F i).pg < (F j).pg) := by
  unfold ltOf cfP cmpP
  by_cases h1 : (F i).pg < (F j).pg
  · simp [h1]
  · by_cases h2 : (F j).pg < (F i).pg <;> simp [h1, h2]
theorem swo_cfP (F : Nat → Fm) : SWO (ltOf (cfP F)) where
  irrefl x := by rw [lt_cfP]; simp
  trans x y z h1 h2 := by rw [lt_cfP] at *; simp at *; omega
  ntrans x y z h1 h2 := by rw [lt_cfP] at *; simp at *; omega
def encF (F : Nat → Fm) (k : Nat) : Value := .pointer (some ⟨(F k).b, 0, none⟩)
theorem sort_any {w : World} (g cap n : Nat) (ds : List Fm) (hl : ds.length = n) (h0 : 0 < n) (hn : n ≤ 1024) (cur : Array Value) (hrow : w.heap[g]? = some (.cells cur 159)) (htk : cur.toList.take n = slV ds) (hF : ∀ f ∈ ds, FAt w f) :
    Calls Tryz.prog 188 #[.slice (some ⟨g, 0, none⟩) n cap, .func (.func 189) #[] #[]] w fun e w' => e = .returned (.tuple #[]) ∧ ∃ ds' : List Fm, ds'.Perm ds ∧ ds'.Pairwise (fun a b => a.pg ≤ b.pg) ∧ (∀ (j : Nat) (f : Fm), ds'[j]? = some f → w'.cell? ⟨g, j, none⟩ = some (.pointer (some ⟨f.b, 0, none⟩))) ∧ Fr [g] w w' := by
  obtain ⟨f0, hf0⟩ : ∃ f0, ds[0]? = some f0 := ⟨_, List.getElem?_eq_getElem (by omega)⟩
  let F : Nat → Fm := fun k => (ds[k]?).getD f0
  have hFm : ∀ k, F k ∈ ds := fun k => by
    show (ds[k]?).getD f0 ∈ ds
    cases hk : ds[k]? with
    | some f => exact List.mem_of_getElem? hk
    | none => exact List.mem_of_getElem? hf0
  have hcell : ∀ j, j < n → w.cell? ⟨g, j, none⟩ = some (encF F j) := fun j hj => by
    rw [cell_of_row w g j _ _ _ hrow]
    have h1 : (cur.toList.take n)[j]? = (slV ds)[j]? := by rw [htk]
    rw [List.getElem?_take, if_pos hj] at h1
    have h2 : (slV ds)[j]? = some (encF F j) := by
      unfold slV encF
      rw [List.getElem?_map]
      show Option.map _ ds[j]? = some (Value.pointer (some ⟨((ds[j]?).getD f0).b, 0, none⟩))
      rw [List.getElem?_eq_getElem (by omega)]
      rfl
    rw [h2] at h1
    simpa using h1
  have hfr : ∀ j, w.frozen? ⟨g, j, none⟩ = false := fun j => frozen_of_row w g j _ _ hrow
  have hrg : ∀ j, j < (Array.range n).size → (Array.range n)[j]! = j := fun j hj => by
    rw [getElem!_pos (Array.range n) j hj]
    simp
  have hH : Holds (encF F) w g 0 (Array.range n) := fun j hj => by
    rw [hrg j hj, Nat.zero_add]
    exact ⟨hcell j (by simpa using hj), hfr j⟩
  have hne : ∀ f ∈ ds, f.b ∉ [g] := fun f hf e => by
    simp at e
    exact (hF f hf).tyne hrow (by decide) e
  have eg : ∀ args w, (callFunc 189 args).run Tryz.prog w = .ok (.enter 189 args) w := enters_of Tryz.func189 (by kernel_rfl) rfl
  have hcmp : CmpReads Tryz.prog 189 #[] (encF F) (cfP F) g 0 (Array.range n).size w := fun m os dk _ x y => rising1_any ((hF _ (hFm x)).kept (fr_sort _ w g 0 m dk os) (hne _ (hFm x))) ((hF _ (hFm y)).kept (fr_sort _ w g 0 m dk os) (hne _ (hFm y)))
  have hcon := Any.slices_SortFunc Tryz.laysSort (encF F) (fun _ => rfl) (cfP F) (swo_cfP F) 189 #[] g 0 cap (Array.range n) w eg hcmp.lays hH (Array.getElem?_eq_some_iff.1 hrow).1 (by simp; omega)
  change Calls Tryz.prog 188 _ _ _ at hcon
  rw [Array.size_range] at hcon
  refine hcon.mono ?_
  rintro e w' ⟨rfl, d', m, os, hp, hs, rfl⟩
  have hsz : d'.size = n := by rw [hp.1]; simp
  have hpd : d'.toList.Perm (List.range n) := by
    have h1 := hp.2.2
    have e1 : (d'.extract 0 n) = d' := by rw [← hsz]; simp
    have e2 : (Array.range n).extract 0 n = Array.range n := by
      have : n = (Array.range n).size := by simp
      conv => lhs; arg 3; rw [this]
      simp
    rw [e1, e2] at h1
    simpa using h1
  refine ⟨rfl, d'.toList.map F, ?_, ?_, ?_, fr_sort _ _ _ _ _ _ _⟩
  · have h1 := hpd.map F
    have h2 : (List.range n).map F = ds := by
      apply List.ext_getElem?
      intro i
      rw [List.getElem?_map]
      by_cases hi : i < n
      · rw [List.getElem?_range hi, List.getElem?_eq_getElem (by omega)]
        show some ((ds[i]?).getD f0) = _
        rw [List.getElem?_eq_getElem (by omega)]
        rfl
      · rw [List.getElem?_eq_none (by simpa using hi), List.getElem?_eq_none (by omega)]
        rfl
    rw [h2] at h1
    exact h1
  · rw [List.pairwise_iff_getElem]
    intro i j hi hj hij
    simp only [List.length_map, Array.length_toList] at hi hj
    have h1 := hs i j (Nat.zero_le _) hij (by omega)
    rw [lt_cfP, getElem!_pos _ _ (by omega), getElem!_pos _ _ (by omega)] at h1
    simp at h1
    simpa using h1
  · intro j f hj
    rw [List.getElem?_map] at hj
    have hjn : j < n := by
      rcases Nat.lt_or_ge j n with h | h
      · exact h
      · rw [List.getElem?_eq_none (by simp; omega)] at hj
        cases hj
    have hh : Holds (encF F) (sortWorld (encF F) w g 0 m d' os) g 0 d' := by
      unfold sortWorld
      refine holds_grow _ _ _ _ _ _ ?_ (holds_putRow _ _ _ _ (Array.range n) d' hH (by rw [hsz]; simp))
      show g < (w.heap.modify g _).size
      simpa using (Array.getElem?_eq_some_iff.1 hrow).1
    have h1 := (hh j (by omega)).1
    rw [Nat.zero_add] at h1
    rw [h1]
    rw [List.getElem?_eq_getElem (by simp; omega)] at hj
    simp at hj
    rw [getElem!_pos _ _ (by omega), ← hj]
    rfl
end Go.Proofs.YtopaeomjndblkaaGreat

