/-
  How the document gets a record: the record that the bytes would say, put again and held against them: plain mathematics.
-/
import Derived.Test.YticmjdblcomecaaQDecM
namespace Go.Proofs.Yticmjdblcomecaa
open Go.RowKit Go.Maps

/-- How long the bytes say that the body is. -/
def sayN (l : List UInt8) : Nat := valL ((l.drop 12).take 2)
/-- A number in the bytes. -/
def numAt (l : List UInt8) (i k : Nat) : Nat := valL ((l.drop i).take k)
/-- The record that the bytes would say, its span at a place. -/
def candSp (l : List UInt8) (at' : Nat) (r : Rec) : Rec :=
  if 18 + sayN l < at' + 8 then r
  else
    if r.kind = 1 ∧ at' + 8 + 2 * numAt l (at' + 6) 2 = 18 + sayN l then
      { r with block := numAt l at' 4, off := numAt l (at' + 4) 2, old := (l.drop (at' + 8)).take (numAt l (at' + 6) 2), new := (l.drop (at' + 8 + numAt l (at' + 6) 2)).take (numAt l (at' + 6) 2) }
    else if at' + 8 + numAt l (at' + 6) 2 = 18 + sayN l then
      { r with block := numAt l at' 4, off := numAt l (at' + 4) 2, new := (l.drop (at' + 8)).take (numAt l (at' + 6) 2) }
    else { r with block := numAt l at' 4, off := numAt l (at' + 4) 2 }
def candH (l : List UInt8) : Rec := ⟨toI (numAt l 0 8), numAt l 8 4, numAt l 18 1, toI (numAt l 19 8), toI (numAt l 27 8), 0, 0, 0, [], []⟩
def candR (l : List UInt8) : Rec :=
  if numAt l 18 1 = 2 then
    if 25 ≤ sayN l then candSp l 43 { candH l with next := toI (numAt l 35 8) } else candSp l 35 (candH l)
  else if numAt l 18 1 = 1 then candSp l 35 (candH l)
  else candH l
/-- What the document gets. -/
def getR (l : List UInt8) : Option (Rec × Nat) :=
  if l.length < 35 then none
  else if sayN l < 17 ∨ l.length < 18 + sayN l then none
  else if rightB (candR l) = true ∧ encL (candR l) = l.take (18 + sayN l) then some (candR l, 18 + sayN l) else none

theorem num_of {l a b : List UInt8} {i k : Nat} (h : l.drop i = a ++ b) (ha : a.length = k) : numAt l i k = valL a := by
  unfold numAt
  rw [h, take_pre ha]

theorem cand_enc (r : Rec) (h : rightB r = true) (t : List UInt8) : candR (encL r ++ t) = r ∧ sayN (encL r ++ t) = (bodyL r).length := by
  obtain ⟨l0, l1, u0, u1, ht, hp, -⟩ := right_facts h
  obtain ⟨n0, n1⟩ := body_bounds h
  obtain ⟨l, hl⟩ : ∃ l, l = encL r ++ t := ⟨_, rfl⟩
  have d0 : l.drop 0 = beK 8 r.lsn.toNat ++ (beK 4 r.turn.toNat ++ (beK 2 (bodyL r).length ++ (beK 4 (crc (headL r ++ bodyL r)) ++ (bodyL r ++ t)))) := by rw [hl]; simp [encL, headL]
  have d8 := drop_more d0 (beK_length _ _) (show 0 + 8 = 8 by omega)
  have d12 := drop_more d8 (beK_length _ _) (show 8 + 4 = 12 by omega)
  have d14 := drop_more d12 (beK_length _ _) (show 12 + 2 = 14 by omega)
  have d18 := drop_more d14 (beK_length _ _) (show 14 + 4 = 18 by omega)
  have hN : sayN l = (bodyL r).length := by
    show numAt l 12 2 = _
    rw [num_of d12 (beK_length _ _), val_be 2 _ (by omega)]
  have v0 : toI (numAt l 0 8) = r.lsn := by rw [num_of d0 (beK_length _ _), val_be 8 _ (by omega), toI_small _ (by omega)]; omega
  have v8 : (numAt l 8 4 : Int) = r.turn := by rw [num_of d8 (beK_length _ _), val_be 4 _ (by omega)]; omega
  obtain ⟨b, hbd⟩ : ∃ b, bodyL r = b3L r ++ b ∧ (b = (bodyL r).drop 17) := by
    refine ⟨(bodyL r).drop 17, ?_, rfl⟩
    have hp : ∃ b, bodyL r = b3L r ++ b := by
      unfold bodyL b4L
      split <;> split <;> simp
    obtain ⟨b, e⟩ := hp
    rw [e, drop_pre (b3L_length r)]
  have d18' : l.drop 18 = beK 1 r.kind ++ (beK 8 r.tx.toNat ++ (beK 8 r.prev.toNat ++ (b ++ t))) := by rw [d18, hbd.1]; simp [b3L]
  have d19 := drop_more d18' (beK_length _ _) (show 18 + 1 = 19 by omega)
  have d27 := drop_more d19 (beK_length _ _) (show 19 + 8 = 27 by omega)
  have d35 := drop_more d27 (beK_length _ _) (show 27 + 8 = 35 by omega)
  have hlen := bodyL_length r
  have hkk : r.kind < 256 := by rcases right_kinds h with h | h | h <;> omega
  have v18 : numAt l 18 1 = r.kind := by rw [num_of d18' (beK_length _ _), val_be 1 _ (by omega)]
  have v19 : toI (numAt l 19 8) = r.tx := by rw [num_of d19 (beK_length _ _), toI_place ht]
  have v27 : toI (numAt l 27 8) = r.prev := by rw [num_of d27 (beK_length _ _), toI_place hp]
  have hH : candH l = ⟨r.lsn, r.turn, r.kind, r.tx, r.prev, 0, 0, 0, [], []⟩ := by unfold candH; rw [v0, v8, v18, v19, v27]
  rw [← hl]
  refine ⟨?_, hN⟩
  unfold candR
  rw [v18, hH]
  rcases right_kinds h with ⟨hk, hn, b0, b1, o0, m0, o1, on⟩ | ⟨hk, hn, b0, b1, o0, m0, o1, on⟩ | ⟨hk, hn, b0, o0, on, nn⟩
  · rw [if_neg (by omega), if_neg (by omega)] at hlen
    have e : b = beK 4 r.block.toNat ++ (beK 2 r.off.toNat ++ (beK 2 r.new.length ++ (r.old ++ r.new))) := by
      have e1 : b3L r ++ b = b3L r ++ (beK 4 r.block.toNat ++ (beK 2 r.off.toNat ++ (beK 2 r.new.length ++ (r.old ++ r.new)))) := by
        rw [← hbd.1]
        unfold bodyL b4L
        rw [if_neg (by omega), if_neg (by omega)]
        simp
      exact List.append_cancel_left e1
    have d35' : l.drop 35 = beK 4 r.block.toNat ++ (beK 2 r.off.toNat ++ (beK 2 r.new.length ++ (r.old ++ (r.new ++ t)))) := by rw [d35, e]; simp
    have d39 := drop_more d35' (beK_length _ _) (show 35 + 4 = 39 by omega)
    have d41 := drop_more d39 (beK_length _ _) (show 39 + 2 = 41 by omega)
    have d43 := drop_more d41 (beK_length _ _) (show 41 + 2 = 43 by omega)
    have dn := drop_more d43 rfl (show 43 + r.old.length = 43 + r.new.length by omega)
    have vm : numAt l (35 + 6) 2 = r.new.length := by rw [num_of d41 (beK_length _ _), val_be 2 _ (by omega)]
    have vb : (numAt l 35 4 : Int) = r.block := by rw [num_of d35' (beK_length _ _), val_be 4 _ (by omega)]; omega
    have vo : (numAt l (35 + 4) 2 : Int) = r.off := by rw [num_of d39 (beK_length _ _), val_be 2 _ (by omega)]; omega
    rw [if_neg (by omega), if_pos hk]
    unfold candSp
    rw [hN, vm, vb, vo, if_neg (by omega), if_pos ⟨hk, by omega⟩]
    rw [show (35 + 8 : Nat) = 43 from rfl, d43, dn, take_pre on, take_pre rfl]
    obtain ⟨lsn, turn, kind, tx, prev, next, block, off, old, new⟩ := r
    dsimp only at *
    subst hn
    rfl
  · rw [if_pos (by omega), if_neg (by omega)] at hlen
    have e : b = beK 8 r.next.toNat ++ (beK 4 r.block.toNat ++ (beK 2 r.off.toNat ++ (beK 2 r.new.length ++ (r.old ++ r.new)))) := by
      have e1 : b3L r ++ b = b3L r ++ (beK 8 r.next.toNat ++ (beK 4 r.block.toNat ++ (beK 2 r.off.toNat ++ (beK 2 r.new.length ++ (r.old ++ r.new))))) := by
        rw [← hbd.1]
        unfold bodyL b4L
        rw [if_neg (by omega), if_pos (by omega)]
        simp
      exact List.append_cancel_left e1
    have eo : r.old = [] := List.eq_nil_of_length_eq_zero on
    have d35' : l.drop 35 = beK 8 r.next.toNat ++ (beK 4 r.block.toNat ++ (beK 2 r.off.toNat ++ (beK 2 r.new.length ++ (r.new ++ t)))) := by rw [d35, e, eo]; simp
    have d43 := drop_more d35' (beK_length _ _) (show 35 + 8 = 43 by omega)
    have d47 := drop_more d43 (beK_length _ _) (show 43 + 4 = 47 by omega)
    have d49 := drop_more d47 (beK_length _ _) (show 47 + 2 = 49 by omega)
    have d51 := drop_more d49 (beK_length _ _) (show 49 + 2 = 51 by omega)
    have vx : toI (numAt l 35 8) = r.next := by rw [num_of d35' (beK_length _ _), toI_place hn]
    have vm : numAt l (43 + 6) 2 = r.new.length := by rw [num_of d49 (beK_length _ _), val_be 2 _ (by omega)]
    have vb : (numAt l 43 4 : Int) = r.block := by rw [num_of d43 (beK_length _ _), val_be 4 _ (by omega)]; omega
    have vo : (numAt l (43 + 4) 2 : Int) = r.off := by rw [num_of d47 (beK_length _ _), val_be 2 _ (by omega)]; omega
    rw [if_pos hk, if_pos (by omega), vx]
    unfold candSp
    rw [hN, vm, vb, vo, if_neg (by omega), if_neg (fun hh => by have := hh.1; dsimp only at this; omega), if_pos (by omega)]
    rw [show (43 + 8 : Nat) = 51 from rfl, d51, take_pre rfl]
    obtain ⟨lsn, turn, kind, tx, prev, next, block, off, old, new⟩ := r
    dsimp only at *
    subst eo
    rfl
  · rw [if_neg (by omega), if_neg (by omega)]
    obtain ⟨lsn, turn, kind, tx, prev, next, block, off, old, new⟩ := r
    dsimp only at *
    have eo : old = [] := List.eq_nil_of_length_eq_zero on
    have en : new = [] := List.eq_nil_of_length_eq_zero nn
    subst hn b0 o0 eo en
    rfl

/-- The document's way and the program's get the same. -/
theorem getR_eq (l : List UInt8) : getR l = decR l := by
  cases hd : decR l with
  | some q =>
    obtain ⟨r, m⟩ := q
    obtain ⟨hr, hm, he, hle⟩ := dec_inv hd
    obtain ⟨n0, n1⟩ := body_bounds hr
    have hl : l = encL r ++ l.drop m := by rw [he, List.take_append_drop]
    obtain ⟨c1, c2⟩ := cand_enc r hr (l.drop m)
    rw [← hl] at c1 c2
    rw [encL_length] at hm
    unfold getR
    rw [c1, c2, if_neg (by omega), if_neg (by omega), if_pos ⟨hr, by rw [← hm]; exact he⟩, hm]
  | none =>
    unfold getR
    by_cases h1 : l.length < 35
    · rw [if_pos h1]
    rw [if_neg h1]
    by_cases h2 : sayN l < 17 ∨ l.length < 18 + sayN l
    · rw [if_pos h2]
    rw [if_neg h2]
    by_cases h3 : rightB (candR l) = true ∧ encL (candR l) = l.take (18 + sayN l)
    · have hl : l = encL (candR l) ++ l.drop (18 + sayN l) := by rw [h3.2, List.take_append_drop]
      have := dec_enc (candR l) h3.1 (l.drop (18 + sayN l))
      rw [← hl, hd] at this
      cases this
    · rw [if_neg h3]

end Go.Proofs.Yticmjdblcomecaa
