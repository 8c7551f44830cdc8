/-
  Pages as bytes: cells one behind the other, and noughts behind them: plain mathematics, no program.
-/
import Derived.Test.YtlfpoeimgoikkaaMath
namespace Go.Proofs.Ytlfpoeimgoikkaa

theorem u8_ofNat_toNat (n : Nat) : (UInt8.ofNat n).toNat = n % 256 := UInt8.toNat_ofNat'
theorem u8_of (b : UInt8) (n : Nat) (h : n % 256 = b.toNat) : UInt8.ofNat n = b := by
  apply UInt8.toNat_inj.1; rw [u8_ofNat_toNat]; exact h
def zs (n : Nat) : List UInt8 := List.replicate n 0
theorem zs_length (n : Nat) : (zs n).length = n := by simp [zs]
theorem zs_add (m n : Nat) : zs m ++ zs n = zs (m + n) := by simp [zs]
theorem all_zs (l : List UInt8) (h : l.all (· == 0) = true) : l = zs l.length := by
  unfold zs
  rw [List.eq_replicate_iff]
  exact ⟨rfl, fun b hb => by simpa using List.all_eq_true.1 h b hb⟩
theorem zs_all (n : Nat) : (zs n).all (· == 0) = true := by simp [zs]

/-- Two bytes that say a number, the highest first. -/
def be2 (n : Nat) : List UInt8 := [UInt8.ofNat (n / 256), UInt8.ofNat n]
def be4 (n : Nat) : List UInt8 := [UInt8.ofNat (n / 16777216), UInt8.ofNat (n / 65536), UInt8.ofNat (n / 256), UInt8.ofNat n]
theorem be2_length (n : Nat) : (be2 n).length = 2 := rfl
theorem be4_length (n : Nat) : (be4 n).length = 4 := rfl

/-- The number that two bytes of a row say. -/
def num2 (l : List UInt8) (e : Nat) : Nat := 256 * (byteAt l e).toNat + (byteAt l (e + 1)).toNat
def num4 (l : List UInt8) (e : Nat) : Nat := 16777216 * (byteAt l e).toNat + 65536 * (byteAt l (e + 1)).toNat + 256 * (byteAt l (e + 2)).toNat + (byteAt l (e + 3)).toNat
theorem num2_lt (l : List UInt8) (e : Nat) : num2 l e < 65536 := by
  unfold num2; have := (byteAt l e).toNat_lt; have := (byteAt l (e + 1)).toNat_lt; omega
theorem num4_lt (l : List UInt8) (e : Nat) : num4 l e < 4294967296 := by
  unfold num4; have := (byteAt l e).toNat_lt; have := (byteAt l (e + 1)).toNat_lt; have := (byteAt l (e + 2)).toNat_lt; have := (byteAt l (e + 3)).toNat_lt; omega
theorem byteAt_app_right (p q : List UInt8) (j : Nat) : byteAt (p ++ q) (p.length + j) = byteAt q j := by
  unfold byteAt; simp [List.getD_eq_getElem?_getD, List.getElem?_append_right]
theorem byteAt_app_left (p q : List UInt8) (j : Nat) (h : j < p.length) : byteAt (p ++ q) j = byteAt p j := by
  unfold byteAt; simp [List.getD_eq_getElem?_getD, List.getElem?_append_left h]
theorem byteAt_drop (l : List UInt8) (e j : Nat) : byteAt (l.drop e) j = byteAt l (e + j) := by
  unfold byteAt; simp [List.getD_eq_getElem?_getD, List.getElem?_drop]
theorem num2_drop (l : List UInt8) (e : Nat) : num2 (l.drop e) 0 = num2 l e := by unfold num2; rw [byteAt_drop, byteAt_drop]; rfl
theorem num2_be2 (n : Nat) (h : n < 65536) (r : List UInt8) : num2 (be2 n ++ r) 0 = n := by
  unfold num2 be2 byteAt
  simp only [List.cons_append, List.nil_append, List.getD_cons_zero, List.getD_cons_succ, u8_ofNat_toNat]
  omega
theorem be2_num2 (l : List UInt8) (e : Nat) (h : e + 2 ≤ l.length) : (l.drop e).take 2 = be2 (num2 l e) := by
  have h1 : l.drop e = l[e] :: l[e + 1] :: l.drop (e + 2) := by
    rw [List.drop_eq_getElem_cons (by omega), List.drop_eq_getElem_cons (by omega)]
  rw [h1]
  simp only [List.take_succ_cons, List.take_zero, be2]
  have b1 := byteAt_lt (l := l) (k := e) (by omega)
  have b2 := byteAt_lt (l := l) (k := e + 1) (by omega)
  have := l[e].toNat_lt
  have := l[e + 1].toNat_lt
  rw [u8_of l[e] _ (by unfold num2; rw [b1, b2]; omega), u8_of l[e + 1] _ (by unfold num2; rw [b1, b2]; omega)]
theorem num4_be4 (n : Nat) (h : n < 4294967296) (p r : List UInt8) : num4 (p ++ (be4 n ++ r)) p.length = n := by
  unfold num4
  have h0 := byteAt_app_right p (be4 n ++ r) 0
  rw [Nat.add_zero] at h0
  rw [h0, byteAt_app_right, byteAt_app_right, byteAt_app_right]
  unfold be4 byteAt
  simp only [List.cons_append, List.nil_append, List.getD_cons_zero, List.getD_cons_succ, u8_ofNat_toNat]
  omega
theorem be4_num4 (l : List UInt8) (e : Nat) (h : e + 4 ≤ l.length) : (l.drop e).take 4 = be4 (num4 l e) := by
  have h1 : l.drop e = l[e] :: l[e + 1] :: l[e + 2] :: l[e + 3] :: l.drop (e + 4) := by
    rw [List.drop_eq_getElem_cons (by omega), List.drop_eq_getElem_cons (by omega), List.drop_eq_getElem_cons (by omega), List.drop_eq_getElem_cons (by omega)]
  rw [h1]
  simp only [List.take_succ_cons, List.take_zero, be4]
  have b1 := byteAt_lt (l := l) (k := e) (by omega)
  have b2 := byteAt_lt (l := l) (k := e + 1) (by omega)
  have b3 := byteAt_lt (l := l) (k := e + 2) (by omega)
  have b4 := byteAt_lt (l := l) (k := e + 3) (by omega)
  have := l[e].toNat_lt
  have := l[e + 1].toNat_lt
  have := l[e + 2].toNat_lt
  have := l[e + 3].toNat_lt
  rw [u8_of l[e] _ (by unfold num4; rw [b1, b2, b3, b4]; omega), u8_of l[e + 1] _ (by unfold num4; rw [b1, b2, b3, b4]; omega), u8_of l[e + 2] _ (by unfold num4; rw [b1, b2, b3, b4]; omega), u8_of l[e + 3] _ (by unfold num4; rw [b1, b2, b3, b4]; omega)]

/-- Cells, one behind the other. -/
def enc : List (List UInt8) → List UInt8
  | [] => []
  | c :: r => be2 c.length ++ (c ++ enc r)
def elen (cs : List (List UInt8)) : Nat := (enc cs).length
theorem elen_nil : elen [] = 0 := rfl
theorem elen_cons (c : List UInt8) (r : List (List UInt8)) : elen (c :: r) = 2 + c.length + elen r := by
  simp [elen, enc, be2]; omega
theorem enc_append (a b : List (List UInt8)) : enc (a ++ b) = enc a ++ enc b := by
  induction a with
  | nil => rfl
  | cons c r ih => simp [enc, ih]
theorem elen_append (a b : List (List UInt8)) : elen (a ++ b) = elen a + elen b := by simp [elen, enc_append]
theorem elen_one (c : List UInt8) : elen [c] = 2 + c.length := by rw [elen_cons, elen_nil]; omega
theorem elen_ge (cs : List (List UInt8)) : 2 * cs.length ≤ elen cs := by
  induction cs with
  | nil => simp
  | cons c r ih => rw [elen_cons]; simp only [List.length_cons]; omega

/-- The place behind the cell that begins at a place. -/
def beh (l : List UInt8) (e : Nat) : Nat := e + 2 + num2 l e

/-- The cells that stand from a place on, so many, and noughts behind them. -/
def cellsAt (l : List UInt8) : Nat → Nat → Option (List (List UInt8))
  | 0, e => if (l.drop e).all (· == 0) then some [] else none
  | n + 1, e => if l.length < e + 2 then none else if l.length < beh l e then none else (cellsAt l n (beh l e)).map (((l.drop (e + 2)).take (num2 l e)) :: ·)

theorem cellsAt_some (l : List UInt8) (n e : Nat) (cs : List (List UInt8)) (he : e ≤ l.length) (h : cellsAt l n e = some cs) :
    cs.length = n ∧ e + elen cs ≤ l.length ∧ l.drop e = enc cs ++ zs (l.length - e - elen cs) := by
  induction n generalizing e cs with
  | zero =>
    unfold cellsAt at h
    split at h
    · rename_i hz
      cases h
      refine ⟨rfl, by rw [elen_nil]; omega, ?_⟩
      have := all_zs _ hz
      rw [List.length_drop] at this
      simpa [enc, elen_nil] using this
    · cases h
  | succ n ih =>
    unfold cellsAt at h
    split at h
    · cases h
    · split at h
      · cases h
      · rename_i h1 h2
        cases hc : cellsAt l n (beh l e) with
        | none => rw [hc] at h; cases h
        | some r =>
          rw [hc] at h
          simp only [Option.map_some, Option.some.injEq] at h
          subst h
          have hle : beh l e ≤ l.length := by omega
          obtain ⟨i1, i2, i3⟩ := ih (beh l e) r hle hc
          have hl : ((l.drop (e + 2)).take (num2 l e)).length = num2 l e := by
            rw [List.length_take, List.length_drop]; unfold beh at hle; omega
          refine ⟨by simp [i1], by rw [elen_cons, hl]; unfold beh at i2; omega, ?_⟩
          have e1 : l.drop e = be2 (num2 l e) ++ ((l.drop (e + 2)).take (num2 l e) ++ l.drop (beh l e)) := by
            have a1 : l.drop e = (l.drop e).take 2 ++ l.drop (e + 2) := by
              conv => lhs; rw [← List.take_append_drop 2 (l.drop e), List.drop_drop]
            have a2 : l.drop (e + 2) = (l.drop (e + 2)).take (num2 l e) ++ l.drop (beh l e) := by
              conv => lhs; rw [← List.take_append_drop (num2 l e) (l.drop (e + 2)), List.drop_drop]
              rfl
            rw [a1, be2_num2 l e (by omega)]
            conv => lhs; rw [a2]
          rw [e1, enc, hl, elen_cons, hl, i3]
          simp only [List.append_assoc]
          congr 4
          unfold beh; omega

theorem cellsAt_of (l : List UInt8) (cs : List (List UInt8)) (e : Nat) (he : e + elen cs ≤ l.length) (hs : elen cs ≤ 65535) (h : l.drop e = enc cs ++ zs (l.length - e - elen cs)) : cellsAt l cs.length e = some cs := by
  induction cs generalizing e with
  | nil =>
    simp only [enc, elen_nil, List.nil_append] at h
    show (if (l.drop e).all (· == 0) = true then some [] else none) = _
    rw [h, zs_all]; rfl
  | cons c r ih =>
    rw [elen_cons] at he hs
    have hn : num2 l e = c.length := by
      rw [← num2_drop, h, enc, List.append_assoc]
      exact num2_be2 _ (by omega) _
    have hb : beh l e = e + 2 + c.length := by unfold beh; rw [hn]
    simp only [List.length_cons]
    unfold cellsAt
    rw [if_neg (by omega), hb, if_neg (by omega)]
    have d2 : l.drop (e + 2) = c ++ (enc r ++ zs (l.length - e - elen (c :: r))) := by
      rw [← List.drop_drop, h, enc, List.append_assoc, List.append_assoc]
      rfl
    have d3 : l.drop (e + 2 + c.length) = enc r ++ zs (l.length - (e + 2 + c.length) - elen r) := by
      rw [← List.drop_drop, d2, List.drop_left, elen_cons]
      congr 2
      omega
    rw [ih _ (by omega) (by omega) d3, d2, hn, List.take_left]
    rfl

/-- A page's bytes. -/
def pgB (k : UInt8) (x : Nat) (cs : List (List UInt8)) : List UInt8 := [k, UInt8.ofNat cs.length] ++ (be4 x ++ (enc cs ++ zs (506 - elen cs)))
theorem pgB_length (k : UInt8) (x : Nat) (cs : List (List UInt8)) (h : elen cs ≤ 506) : (pgB k x cs).length = 512 := by
  have : (enc cs).length = elen cs := rfl
  simp [pgB, be4_length, zs_length]; omega
def pageOf (l : List UInt8) : Option (List (List UInt8)) := if l.length = 512 then cellsAt l (byteAt l 1).toNat 6 else none
theorem pgB_drop (k : UInt8) (x : Nat) (cs : List (List UInt8)) : (pgB k x cs).drop 6 = enc cs ++ zs (506 - elen cs) := by
  simp [pgB, be4]
theorem pgB_kind (k : UInt8) (x : Nat) (cs : List (List UInt8)) : byteAt (pgB k x cs) 0 = k := by simp [pgB, byteAt]
theorem pgB_count (k : UInt8) (x : Nat) (cs : List (List UInt8)) (h : elen cs ≤ 506) : (byteAt (pgB k x cs) 1).toNat = cs.length := by
  have := elen_ge cs
  simp [pgB, byteAt]; omega
theorem pgB_next (k : UInt8) (x : Nat) (cs : List (List UInt8)) (hx : x < 4294967296) : num4 (pgB k x cs) 2 = x := num4_be4 x hx [k, UInt8.ofNat cs.length] _
theorem pageOf_pgB (k : UInt8) (x : Nat) (cs : List (List UInt8)) (h : elen cs ≤ 506) : pageOf (pgB k x cs) = some cs := by
  unfold pageOf
  rw [if_pos (pgB_length k x cs h), pgB_count k x cs h]
  refine cellsAt_of _ cs 6 (by rw [pgB_length k x cs h]; omega) (by omega) ?_
  rw [pgB_drop, pgB_length k x cs h]
theorem pgB_of (l : List UInt8) (cs : List (List UInt8)) (h : pageOf l = some cs) : elen cs ≤ 506 ∧ l = pgB (byteAt l 0) (num4 l 2) cs := by
  unfold pageOf at h
  split at h
  · rename_i hl
    obtain ⟨h1, h2, h3⟩ := cellsAt_some l _ 6 cs (by omega) h
    refine ⟨by omega, ?_⟩
    have a1 : l = [byteAt l 0, byteAt l 1] ++ l.drop 2 := by
      rw [byteAt_lt (by omega), byteAt_lt (by omega)]
      conv => lhs; rw [← List.drop_zero (l := l), List.drop_eq_getElem_cons (by omega), List.drop_eq_getElem_cons (by omega)]
      rfl
    have a2 : l.drop 2 = (l.drop 2).take 4 ++ l.drop 6 := by
      conv => lhs; rw [← List.take_append_drop 4 (l.drop 2), List.drop_drop]
    rw [be4_num4 l 2 (by omega)] at a2
    have a3 : byteAt l 1 = UInt8.ofNat cs.length := (u8_of _ _ (by rw [h1]; have := (byteAt l 1).toNat_lt; omega)).symm
    unfold pgB
    conv => lhs; rw [a1, a2, h3, a3]
    rw [hl]
  · cases h
theorem pageOf_len (l : List UInt8) (h : l.length ≠ 512) : pageOf l = none := by unfold pageOf; rw [if_neg h]

/-! ### a cell put in, a cell taken out -/
theorem enc_split (cs : List (List UInt8)) (s : Nat) : enc cs = enc (cs.take s) ++ enc (cs.drop s) := by
  rw [← enc_append, List.take_append_drop]
theorem elen_split (cs : List (List UInt8)) (s : Nat) : elen cs = elen (cs.take s) + elen (cs.drop s) := by
  rw [← elen_append, List.take_append_drop]
def insC (cs : List (List UInt8)) (s : Nat) (c : List UInt8) : List (List UInt8) := cs.take s ++ c :: cs.drop s
theorem insC_length (cs : List (List UInt8)) (s : Nat) (c : List UInt8) (h : s ≤ cs.length) : (insC cs s c).length = cs.length + 1 := by
  simp [insC]; omega
theorem insC_elen (cs : List (List UInt8)) (s : Nat) (c : List UInt8) : elen (insC cs s c) = elen cs + 2 + c.length := by
  unfold insC; rw [elen_append, elen_cons, elen_split cs s]; omega
theorem insC_enc (cs : List (List UInt8)) (s : Nat) (c : List UInt8) : enc (insC cs s c) = enc (cs.take s) ++ (be2 c.length ++ (c ++ enc (cs.drop s))) := by
  unfold insC; rw [enc_append]; rfl
def delC (cs : List (List UInt8)) (s : Nat) : List (List UInt8) := cs.take s ++ cs.drop (s + 1)
theorem drop_at (cs : List (List UInt8)) (s : Nat) (h : s < cs.length) : cs.drop s = cs[s] :: cs.drop (s + 1) := List.drop_eq_getElem_cons h
theorem delC_length (cs : List (List UInt8)) (s : Nat) (h : s < cs.length) : (delC cs s).length + 1 = cs.length := by
  simp [delC]; omega
theorem delC_elen (cs : List (List UInt8)) (s : Nat) (h : s < cs.length) : elen (delC cs s) + 2 + cs[s].length = elen cs := by
  unfold delC; rw [elen_append, elen_split cs s, drop_at cs s h, elen_cons]; omega
/-- Where a slot begins. -/
def slotAt (cs : List (List UInt8)) (s : Nat) : Nat := 6 + elen (cs.take s)
theorem slot_succ (cs : List (List UInt8)) (s : Nat) (h : s < cs.length) : slotAt cs (s + 1) = slotAt cs s + 2 + cs[s].length := by
  unfold slotAt; rw [List.take_succ_eq_append_getElem h, elen_append, elen_one]; omega
theorem slot_le (cs : List (List UInt8)) (s : Nat) : slotAt cs s ≤ 6 + elen cs := by
  unfold slotAt; rw [elen_split cs s]; omega
theorem pgB_slot (k : UInt8) (x : Nat) (cs : List (List UInt8)) (s : Nat) : (pgB k x cs).drop (slotAt cs s) = enc (cs.drop s) ++ zs (506 - elen cs) := by
  unfold slotAt
  rw [← List.drop_drop, pgB_drop, enc_split cs s, List.append_assoc, List.drop_append_of_le_length (by unfold elen; omega)]
  unfold elen
  rw [List.drop_length]
  rfl
theorem pgB_num (k : UInt8) (x : Nat) (cs : List (List UInt8)) (s : Nat) (h : s < cs.length) (hf : elen cs ≤ 506) : num2 (pgB k x cs) (slotAt cs s) = cs[s].length := by
  have := delC_elen cs s h
  rw [← num2_drop, pgB_slot, drop_at cs s h, enc, List.append_assoc]
  exact num2_be2 _ (by omega) _
theorem pgB_cell (k : UInt8) (x : Nat) (cs : List (List UInt8)) (s : Nat) (h : s < cs.length) : ((pgB k x cs).drop (slotAt cs s + 2)).take cs[s].length = cs[s] := by
  rw [← List.drop_drop, pgB_slot, drop_at cs s h, enc, List.append_assoc, List.append_assoc]
  show (cs[s] ++ (enc (cs.drop (s + 1)) ++ _)).take _ = _
  rw [List.take_left]
end Go.Proofs.Ytlfpoeimgoikkaa
