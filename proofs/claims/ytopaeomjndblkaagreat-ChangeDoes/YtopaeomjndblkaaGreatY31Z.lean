/-
  Rows of lists of bytes, new since a world: append.
-/
import Derived.Test.YtopaeomjndblkaaGreatY29Z
import Derived.Test.YtopaeomjndblkaaGreatY30Z
import Derived.Deep.RegionLaw
import Derived.Laws.AppendOwnNone
namespace Go.Proofs.YtopaeomjndblkaaGreat.Pg

theorem u8_ofNat_toNat (n : Nat) : (UInt8.ofNat n).toNat = n % 256 := UInt8.toNat_ofNat'
theorem u8_of (b : UInt8) (n : Nat) (h : n % 256 = b.toNat) : UInt8.ofNat n = b := by
  apply UInt8.toNat_inj.1; rw [u8_ofNat_toNat]; exact h
def zs (n : Nat) : List UInt8 := List.replicate n 0
theorem zs_length (n : Nat) : (zs n).length = n := by simp [zs]
theorem all_zs (l : List UInt8) (h : l.all (· == 0) = true) : l = zs l.length := by
  unfold zs
  rw [List.eq_replicate_iff]
  exact ⟨rfl, fun b hb => by simpa using List.all_eq_true.1 h b hb⟩
theorem zs_all (n : Nat) : (zs n).all (· == 0) = true := by simp [zs]

/-- Two bytes that say a number, the highest first. -/
def be2 (n : Nat) : List UInt8 := [UInt8.ofNat (n / 256), UInt8.ofNat n]
def be4 (n : Nat) : List UInt8 := [UInt8.ofNat (n / 16777216), UInt8.ofNat (n / 65536), UInt8.ofNat (n / 256), UInt8.ofNat n]
theorem be4_length (n : Nat) : (be4 n).length = 4 := rfl

/-- The number that two bytes of a row say. -/
def num2 (l : List UInt8) (e : Nat) : Nat := 256 * (byteAt l e).toNat + (byteAt l (e + 1)).toNat
def num4 (l : List UInt8) (e : Nat) : Nat := 16777216 * (byteAt l e).toNat + 65536 * (byteAt l (e + 1)).toNat + 256 * (byteAt l (e + 2)).toNat + (byteAt l (e + 3)).toNat
theorem num4_lt (l : List UInt8) (e : Nat) : num4 l e < 4294967296 := by
  unfold num4; have := (byteAt l e).toNat_lt; have := (byteAt l (e + 1)).toNat_lt; have := (byteAt l (e + 2)).toNat_lt; have := (byteAt l (e + 3)).toNat_lt; omega
theorem byteAt_app_right (p q : List UInt8) (j : Nat) : byteAt (p ++ q) (p.length + j) = byteAt q j := by
  unfold byteAt; simp [List.getD_eq_getElem?_getD, List.getElem?_append_right]
theorem byteAt_drop (l : List UInt8) (e j : Nat) : byteAt (l.drop e) j = byteAt l (e + j) := by
  unfold byteAt; simp [List.getD_eq_getElem?_getD, List.getElem?_drop]
theorem num2_drop (l : List UInt8) (e : Nat) : num2 (l.drop e) 0 = num2 l e := by unfold num2; rw [byteAt_drop, byteAt_drop]; rfl
theorem num2_be2 (n : Nat) (h : n < 65536) (r : List UInt8) : num2 (be2 n ++ r) 0 = n := by
  unfold num2 be2 byteAt
  simp only [List.cons_append, List.nil_append, List.getD_cons_zero, List.getD_cons_succ, u8_ofNat_toNat]
  omega
theorem be2_num2 (l : List UInt8) (e : Nat) (h : e + 2 ≤ l.length) : (l.drop e).take 2 = be2 (num2 l e) := by
  have h1 : l.drop e = l[e] :: l[e + 1] :: l.drop (e + 2) := by
    rw [List.drop_eq_getElem_cons (by omega), List.drop_eq_getElem_cons (by omega)]
  rw [h1]
  simp only [List.take_succ_cons, List.take_zero, be2]
  have b1 := byteAt_lt (l := l) (k := e) (by omega)
  have b2 := byteAt_lt (l := l) (k := e + 1) (by omega)
  have := l[e].toNat_lt
  have := l[e + 1].toNat_lt
  rw [u8_of l[e] _ (by unfold num2; rw [b1, b2]; omega), u8_of l[e + 1] _ (by unfold num2; rw [b1, b2]; omega)]
theorem num4_be4 (n : Nat) (h : n < 4294967296) (p r : List UInt8) : num4 (p ++ (be4 n ++ r)) p.length = n := by
  unfold num4
  have h0 := byteAt_app_right p (be4 n ++ r) 0
  rw [Nat.add_zero] at h0
  rw [h0, byteAt_app_right, byteAt_app_right, byteAt_app_right]
  unfold be4 byteAt
  simp only [List.cons_append, List.nil_append, List.getD_cons_zero, List.getD_cons_succ, u8_ofNat_toNat]
  omega
theorem be4_num4 (l : List UInt8) (e : Nat) (h : e + 4 ≤ l.length) : (l.drop e).take 4 = be4 (num4 l e) := by
  have h1 : l.drop e = l[e] :: l[e + 1] :: l[e + 2] :: l[e + 3] :: l.drop (e + 4) := by
    rw [List.drop_eq_getElem_cons (by omega), List.drop_eq_getElem_cons (by omega), List.drop_eq_getElem_cons (by omega), List.drop_eq_getElem_cons (by omega)]
  rw [h1]
  simp only [List.take_succ_cons, List.take_zero, be4]
  have b1 := byteAt_lt (l := l) (k := e) (by omega)
  have b2 := byteAt_lt (l := l) (k := e + 1) (by omega)
  have b3 := byteAt_lt (l := l) (k := e + 2) (by omega)
  have b4 := byteAt_lt (l := l) (k := e + 3) (by omega)
  have := l[e].toNat_lt
  have := l[e + 1].toNat_lt
  have := l[e + 2].toNat_lt
  have := l[e + 3].toNat_lt
  rw [u8_of l[e] _ (by unfold num4; rw [b1, b2, b3, b4]; omega), u8_of l[e + 1] _ (by unfold num4; rw [b1, b2, b3, b4]; omega), u8_of l[e + 2] _ (by unfold num4; rw [b1, b2, b3, b4]; omega), u8_of l[e + 3] _ (by unfold num4; rw [b1, b2, b3, b4]; omega)]

/-- Cells, one behind the other. -/
def enc : List (List UInt8) → List UInt8
  | [] => []
  | c :: r => be2 c.length ++ (c ++ enc r)
def elen (cs : List (List UInt8)) : Nat := (enc cs).length
theorem elen_nil : elen [] = 0 := rfl
theorem elen_cons (c : List UInt8) (r : List (List UInt8)) : elen (c :: r) = 2 + c.length + elen r := by
  simp [elen, enc, be2]; omega
theorem elen_ge (cs : List (List UInt8)) : 2 * cs.length ≤ elen cs := by
  induction cs with
  | nil => simp
  | cons c r ih => rw [elen_cons]; simp only [List.length_cons]; omega

/-- The place behind the cell that begins at a place. -/
def beh (l : List UInt8) (e : Nat) : Nat := e + 2 + num2 l e

/-- The cells that stand from a place on, so many, and noughts behind them. -/
def cellsAt (l : List UInt8) : Nat → Nat → Option (List (List UInt8))
  | 0, e => if (l.drop e).all (· == 0) then some [] else none
  | n + 1, e => if l.length < e + 2 then none else if l.length < beh l e then none else (cellsAt l n (beh l e)).map (((l.drop (e + 2)).take (num2 l e)) :: ·)

theorem cellsAt_some (l : List UInt8) (n e : Nat) (cs : List (List UInt8)) (he : e ≤ l.length) (h : cellsAt l n e = some cs) :
    cs.length = n ∧ e + elen cs ≤ l.length ∧ l.drop e = enc cs ++ zs (l.length - e - elen cs) := by
  induction n generalizing e cs with
  | zero =>
    unfold cellsAt at h
    split at h
    · rename_i hz
      cases h
      refine ⟨rfl, by rw [elen_nil]; omega, ?_⟩
      have := all_zs _ hz
      rw [List.length_drop] at this
      simpa [enc, elen_nil] using this
    · cases h
  | succ n ih =>
    unfold cellsAt at h
    split at h
    · cases h
    · split at h
      · cases h
      · rename_i h1 h2
        cases hc : cellsAt l n (beh l e) with
        | none => rw [hc] at h; cases h
        | some r =>
          rw [hc] at h
          simp only [Option.map_some, Option.some.injEq] at h
          subst h
          have hle : beh l e ≤ l.length := by omega
          obtain ⟨i1, i2, i3⟩ := ih (beh l e) r hle hc
          have hl : ((l.drop (e + 2)).take (num2 l e)).length = num2 l e := by
            rw [List.length_take, List.length_drop]; unfold beh at hle; omega
          refine ⟨by simp [i1], by rw [elen_cons, hl]; unfold beh at i2; omega, ?_⟩
          have e1 : l.drop e = be2 (num2 l e) ++ ((l.drop (e + 2)).take (num2 l e) ++ l.drop (beh l e)) := by
            have a1 : l.drop e = (l.drop e).take 2 ++ l.drop (e + 2) := by
              conv => lhs; rw [← List.take_append_drop 2 (l.drop e), List.drop_drop]
            have a2 : l.drop (e + 2) = (l.drop (e + 2)).take (num2 l e) ++ l.drop (beh l e) := by
              conv => lhs; rw [← List.take_append_drop (num2 l e) (l.drop (e + 2)), List.drop_drop]
              rfl
            rw [a1, be2_num2 l e (by omega)]
            conv => lhs; rw [a2]
          rw [e1, enc, hl, elen_cons, hl, i3]
          simp only [List.append_assoc]
          congr 4
          unfold beh; omega

theorem cellsAt_of (l : List UInt8) (cs : List (List UInt8)) (e : Nat) (he : e + elen cs ≤ l.length) (hs : elen cs ≤ 65535) (h : l.drop e = enc cs ++ zs (l.length - e - elen cs)) : cellsAt l cs.length e = some cs := by
  induction cs generalizing e with
  | nil =>
    simp only [enc, elen_nil, List.nil_append] at h
    show (if (l.drop e).all (· == 0) = true then some [] else none) = _
    rw [h, zs_all]; rfl
  | cons c r ih =>
    rw [elen_cons] at he hs
    have hn : num2 l e = c.length := by
      rw [← num2_drop, h, enc, List.append_assoc]
      exact num2_be2 _ (by omega) _
    have hb : beh l e = e + 2 + c.length := by unfold beh; rw [hn]
    simp only [List.length_cons]
    unfold cellsAt
    rw [if_neg (by omega), hb, if_neg (by omega)]
    have d2 : l.drop (e + 2) = c ++ (enc r ++ zs (l.length - e - elen (c :: r))) := by
      rw [← List.drop_drop, h, enc, List.append_assoc, List.append_assoc]
      rfl
    have d3 : l.drop (e + 2 + c.length) = enc r ++ zs (l.length - (e + 2 + c.length) - elen r) := by
      rw [← List.drop_drop, d2, List.drop_left, elen_cons]
      congr 2
      omega
    rw [ih _ (by omega) (by omega) d3, d2, hn, List.take_left]
    rfl

/-- A page's bytes. -/
def pgB (k : UInt8) (x : Nat) (cs : List (List UInt8)) : List UInt8 := [k, UInt8.ofNat cs.length] ++ (be4 x ++ (enc cs ++ zs (506 - elen cs)))
theorem pgB_length (k : UInt8) (x : Nat) (cs : List (List UInt8)) (h : elen cs ≤ 506) : (pgB k x cs).length = 512 := by
  have : (enc cs).length = elen cs := rfl
  simp [pgB, be4_length, zs_length]; omega
def pageOf (l : List UInt8) : Option (List (List UInt8)) := if l.length = 512 then cellsAt l (byteAt l 1).toNat 6 else none
theorem pgB_drop (k : UInt8) (x : Nat) (cs : List (List UInt8)) : (pgB k x cs).drop 6 = enc cs ++ zs (506 - elen cs) := by
  simp [pgB, be4]
theorem pgB_kind (k : UInt8) (x : Nat) (cs : List (List UInt8)) : byteAt (pgB k x cs) 0 = k := by simp [pgB, byteAt]
theorem pgB_count (k : UInt8) (x : Nat) (cs : List (List UInt8)) (h : elen cs ≤ 506) : (byteAt (pgB k x cs) 1).toNat = cs.length := by
  have := elen_ge cs
  simp [pgB, byteAt]; omega
theorem pgB_next (k : UInt8) (x : Nat) (cs : List (List UInt8)) (hx : x < 4294967296) : num4 (pgB k x cs) 2 = x := num4_be4 x hx [k, UInt8.ofNat cs.length] _
theorem pageOf_pgB (k : UInt8) (x : Nat) (cs : List (List UInt8)) (h : elen cs ≤ 506) : pageOf (pgB k x cs) = some cs := by
  unfold pageOf
  rw [if_pos (pgB_length k x cs h), pgB_count k x cs h]
  refine cellsAt_of _ cs 6 (by rw [pgB_length k x cs h]; omega) (by omega) ?_
  rw [pgB_drop, pgB_length k x cs h]
theorem pgB_of (l : List UInt8) (cs : List (List UInt8)) (h : pageOf l = some cs) : elen cs ≤ 506 ∧ l = pgB (byteAt l 0) (num4 l 2) cs := by
  unfold pageOf at h
  split at h
  · rename_i hl
    obtain ⟨h1, h2, h3⟩ := cellsAt_some l _ 6 cs (by omega) h
    refine ⟨by omega, ?_⟩
    have a1 : l = [byteAt l 0, byteAt l 1] ++ l.drop 2 := by
      rw [byteAt_lt (by omega), byteAt_lt (by omega)]
      conv => lhs; rw [← List.drop_zero (l := l), List.drop_eq_getElem_cons (by omega), List.drop_eq_getElem_cons (by omega)]
      rfl
    have a2 : l.drop 2 = (l.drop 2).take 4 ++ l.drop 6 := by
      conv => lhs; rw [← List.take_append_drop 4 (l.drop 2), List.drop_drop]
    rw [be4_num4 l 2 (by omega)] at a2
    have a3 : byteAt l 1 = UInt8.ofNat cs.length := (u8_of _ _ (by rw [h1]; have := (byteAt l 1).toNat_lt; omega)).symm
    unfold pgB
    conv => lhs; rw [a1, a2, h3, a3]
    rw [hl]
  · cases h
/-! ### a cell put in, a cell taken out -/
end Go.Proofs.YtopaeomjndblkaaGreat.Pg

namespace Go.Proofs.YtopaeomjndblkaaGreat.Pg
open Go.RowKit Go.Maps

def valL (l : List UInt8) : Nat := l.foldl (fun n b => n * 256 + b.toNat) 0
theorem valL_snoc (l : List UInt8) (b : UInt8) : valL (l ++ [b]) = valL l * 256 + b.toNat := by simp [valL]
theorem valL_lt (l : List UInt8) : valL l < 256 ^ l.length := by
  suffices h : ∀ r : List UInt8, valL r.reverse < 256 ^ r.length by simpa using h l.reverse
  intro r
  induction r with
  | nil => simp [valL]
  | cons b r ih =>
    rw [List.reverse_cons, valL_snoc, List.length_cons, Nat.pow_succ]
    have := b.toNat_lt
    omega

theorem BytesAt.sub {w : World} {g o : Nat} {l : List UInt8} (h : BytesAt w (some ⟨g, o, none⟩) l) (i m : Nat) : BytesAt w (some ⟨g, o + i, none⟩) ((l.drop i).take m) := by
  intro j v hv
  have hv2 : (arr l).toList[i + j]? = some v := by
    simp only [arr, List.getElem?_map, List.getElem?_take, List.getElem?_drop] at hv ⊢
    split at hv
    · exact hv
    · cases hv
  obtain ⟨b, off, e, hc⟩ := h (i + j) v hv2
  cases e
  exact ⟨g, o + i, rfl, by rw [Nat.add_assoc]; exact hc⟩

theorem ret_int {k : IntKind} {a b : Int} (h : a = b) : Ending.returned (.int k a) = .returned (.int k b) := by rw [h]
theorem i64_or_nat (a b : Nat) (ha : a < 4611686018427387904) (hb : b < 4611686018427387904) : bits .or .i64 (a : Int) (b : Int) = ((a ||| b : Nat) : Int) := by
  have hx : a ||| b < 2 ^ 62 := Nat.or_lt_two_pow (by omega) (by omega)
  show IntKind.i64.wrap ((BitVec.ofInt 64 (a : Int) ||| BitVec.ofInt 64 (b : Int)).toNat : Int) = _
  rw [BitVec.toNat_or, ofInt_u64 a (by omega), ofInt_u64 b (by omega)]
  unfold IntKind.wrap
  simp [IntKind.signed, IntKind.bits]
  omega
/-- A slice of 512 bytes in memory. -/
structure At512 (w : World) (g o c : Nat) (l : List UInt8) : Prop where
  len : l.length = 512
  bytes : BytesAt w (some ⟨g, o, none⟩) l
  cap : 512 ≤ c
theorem At512.kept {w w' : World} {g o c : Nat} {l : List UInt8} {L : List Nat} (h : At512 w g o c l) (k : Fr L w w') (hg : g ∉ L) : At512 w' g o c l :=
  ⟨h.len, h.bytes.kept k (fun b off e => by cases e; exact hg), h.cap⟩
theorem At512.cell {w : World} {g o c : Nat} {l : List UInt8} (h : At512 w g o c l) (j : Nat) (hj : j < 512) : w.cell? ⟨g, o + j, none⟩ = some (.int .u8 (byteAt l j).toNat) := by
  obtain ⟨b, off, e, hc⟩ := h.bytes.at j (by rw [h.len]; exact hj)
  cases e
  exact hc

/-! ### measure -/
def endOf (l : List UInt8) : Nat := match pageOf l with
  | some cs => 6 + elen cs
  | none => 0
def okP (l : List UInt8) : Bool := (pageOf l).isSome

theorem okP_some {l : List UInt8} {cs : List (List UInt8)} (h : pageOf l = some cs) : okP l = true ∧ endOf l = 6 + elen cs := by
  unfold okP endOf; rw [h]; exact ⟨rfl, rfl⟩
end Go.Proofs.YtopaeomjndblkaaGreat.Pg

namespace Go.Proofs.YtopaeomjndblkaaGreat.Pg
open Go.RowKit Go.Maps

/-- The value of a slice of bytes in memory; of 512 bytes it has an address. -/
structure SlAt (w : World) (ad : Option Addr) (n c : Nat) (l : List UInt8) : Prop where
  len : l.length = n
  bytes : BytesAt w ad l
  cap : n ≤ c
theorem SlAt.kept {w w' : World} {ad : Option Addr} {n c : Nat} {l : List UInt8} {L : List Nat} (h : SlAt w ad n c l) (k : Fr L w w') (hL : ∀ b off, ad = some ⟨b, off, none⟩ → b ∉ L) : SlAt w' ad n c l :=
  ⟨h.len, h.bytes.kept k hL, h.cap⟩
/-- A right page. -/
structure Pg (l : List UInt8) (k : UInt8) (x : Nat) (cs : List (List UInt8)) : Prop where
  eq : l = pgB k x cs
  fits : elen cs ≤ 506
  nx : x < 4294967296
theorem Pg.of {l : List UInt8} {cs : List (List UInt8)} (h : pageOf l = some cs) : Pg l (byteAt l 0) (num4 l 2) cs := by
  obtain ⟨h1, h2⟩ := pgB_of l cs h
  exact ⟨h2, h1, num4_lt l 2⟩
theorem Pg.page {l : List UInt8} {k : UInt8} {x : Nat} {cs : List (List UInt8)} (h : Pg l k x cs) : pageOf l = some cs := by
  rw [h.eq]; exact pageOf_pgB k x cs h.fits
theorem Pg.len {l : List UInt8} {k : UInt8} {x : Nat} {cs : List (List UInt8)} (h : Pg l k x cs) : l.length = 512 := by rw [h.eq]; exact pgB_length k x cs h.fits
theorem Pg.ok {l : List UInt8} {k : UInt8} {x : Nat} {cs : List (List UInt8)} (h : Pg l k x cs) : okP l = true := (okP_some h.page).1
theorem Pg.end {l : List UInt8} {k : UInt8} {x : Nat} {cs : List (List UInt8)} (h : Pg l k x cs) : endOf l = 6 + elen cs := (okP_some h.page).2
theorem Pg.kind {l : List UInt8} {k : UInt8} {x : Nat} {cs : List (List UInt8)} (h : Pg l k x cs) : byteAt l 0 = k := by rw [h.eq]; exact pgB_kind k x cs
theorem Pg.count {l : List UInt8} {k : UInt8} {x : Nat} {cs : List (List UInt8)} (h : Pg l k x cs) : (byteAt l 1).toNat = cs.length := by rw [h.eq]; exact pgB_count k x cs h.fits
theorem Pg.next {l : List UInt8} {k : UInt8} {x : Nat} {cs : List (List UInt8)} (h : Pg l k x cs) : num4 l 2 = x := by rw [h.eq]; exact pgB_next k x cs h.nx
theorem Pg.few {l : List UInt8} {k : UInt8} {x : Nat} {cs : List (List UInt8)} (h : Pg l k x cs) : cs.length ≤ 253 := by have := elen_ge cs; have := h.fits; omega

def nextOf (l : List UInt8) : Nat := if okP l then num4 l 2 else 0
def cellsOf (l : List UInt8) : List (List UInt8) := (pageOf l).getD []
end Go.Proofs.YtopaeomjndblkaaGreat.Pg

namespace Go.Proofs.YtopaeomjndblkaaGreat.Pg
open Go.RowKit Go.Maps

/-- A block that begins with these bytes, of so many cells. -/
def RowB (w : World) (g c : Nat) (l : List UInt8) : Prop := ∃ tl : List Value, w.heap[g]? = some (.cells ((arr l).toList ++ tl).toArray 5) ∧ l.length + tl.length = c
theorem Blk.row {w : World} {g : Nat} {l : List UInt8} (h : Blk w g l) : RowB w g l.length l := ⟨[], by simpa [Blk] using h, by simp⟩
theorem RowB.kept {w w' : World} {g c : Nat} {l : List UInt8} {L : List Nat} (h : RowB w g c l) (k : Fr L w w') (hg : g ∉ L) : RowB w' g c l := by
  obtain ⟨tl, h1, h2⟩ := h
  exact ⟨tl, k.same hg h1, h2⟩
theorem RowB.lt {w : World} {g c : Nat} {l : List UInt8} (h : RowB w g c l) : g < w.heap.size := by
  obtain ⟨tl, h1, _⟩ := h
  exact (Array.getElem?_eq_some_iff.1 h1).1
theorem RowB.cap {w : World} {g c : Nat} {l : List UInt8} (h : RowB w g c l) : l.length ≤ c := by
  obtain ⟨tl, _, h2⟩ := h
  omega
theorem RowB.bytes {w : World} {g c : Nat} {l : List UInt8} (h : RowB w g c l) : BytesAt w (some ⟨g, 0, none⟩) l := by
  obtain ⟨tl, h1, h2⟩ := h
  intro j v hv
  refine ⟨g, 0, rfl, ?_⟩
  have hj : j < (arr l).toList.length := (List.getElem?_eq_some_iff.1 hv).1
  rw [Nat.zero_add, cell_of_row w g j _ _ _ h1, ← hv]
  rw [List.getElem?_toArray, List.getElem?_append_left hj]
theorem RowB.frozen {w : World} {g c : Nat} {l : List UInt8} (h : RowB w g c l) (j : Nat) : w.frozen? ⟨g, j, none⟩ = false := by
  obtain ⟨tl, h1, h2⟩ := h
  exact frozen_of_row w g j _ _ h1
theorem RowB.cell {w : World} {g c : Nat} {l : List UInt8} (h : RowB w g c l) (j : Nat) (hj : j < l.length) : w.cell? ⟨g, j, none⟩ = some (.int .u8 (byteAt l j).toNat) := by
  obtain ⟨b, off, e, hc⟩ := h.bytes.at j hj
  cases e
  rw [Nat.zero_add] at hc
  exact hc
theorem RowB.set {w : World} {g c : Nat} {l : List UInt8} (h : RowB w g c l) (j : Nat) (b : UInt8) (hj : j < l.length) : RowB (w.setCell ⟨g, j, none⟩ (.int .u8 b.toNat)) g c (l.set j b) := by
  obtain ⟨tl, h1, h2⟩ := h
  refine ⟨tl, ?_, by simpa using h2⟩
  rw [heap_setCell_same w g j _ _ (.int .u8 b.toNat) h1]
  congr 2
  apply Array.ext'
  simp only [Array.toList_setIfInBounds, arr, List.map_set]
  rw [List.set_append_left _ _ (by simpa using hj)]

/-- Bytes written over others, from a place on. -/
def over (p : List UInt8) (off : Nat) (l : List UInt8) : List UInt8 := p.take off ++ (l ++ p.drop (off + l.length))
theorem over_length (p : List UInt8) (off : Nat) (l : List UInt8) (h : off + l.length ≤ p.length) : (over p off l).length = p.length := by
  simp [over]; omega

section
variable {ops : Array Oper} {rest : List Oper} {o : Oper} {a : Act} {w : World} {Q : Exit → Act → World → Prop}

theorem run_copyB (g off : Nat) (dp : Option Addr) (dn dc : Nat) (ad : Option Addr) (sn sc c : Nat) (p l : List UInt8) (hg : RowB w g c p) (hl : l.length = Nat.min sn dn) (hd : 0 < l.length → dp = some ⟨g, off, none⟩) (hsrc : BytesAt w ad l) (hfit : off + l.length ≤ p.length) :
    ∃ w', (∀ ty, (Builtin.copy_ #[37, 37] ty #[.slice dp dn dc, .slice ad sn sc]).run Tryz.prog w = .ok (goInt l.length) w') ∧ RowB w' g c (over p off l) ∧ Fr [g] w w' := by
  by_cases h0 : l.length = 0
  · have e0 : l = [] := List.eq_nil_of_length_eq_zero h0
    subst e0
    refine ⟨w, ?_, by simpa [over] using hg, Fr.refl _ _⟩
    exact fun ty => run_copy_none (P := Tryz.prog) w 37 37 ty 5 dp ad dn dc sn sc Tryz.underlying37 size5 (by simpa using hl.symm)
  · obtain ⟨b0, o0, rfl, _⟩ := hsrc.at 0 (by omega)
    rw [hd (by omega)]
    obtain ⟨tl, h1, h2⟩ := hg
    have hrun := fun ty => run_copy_row Tryz.prog w 37 37 ty 5 g off dn dc ⟨b0, o0, none⟩ sn sc _ 5 (arr l).toList Tryz.underlying37 size5 h1 (by simpa [arr] using hl)
      (by
        intro j v hv
        obtain ⟨b, o', e, hc⟩ := hsrc j v hv
        cases e
        rw [Addr.add_mid]
        exact hc) (by simp [arr]; omega) (arr_one l)
    have hln : (arr l).toList.length = l.length := by simp [arr]
    simp only [hln] at hrun
    refine ⟨_, hrun, ⟨tl, ?_, by rw [over_length _ _ _ hfit]; exact h2⟩, ⟨rfl, rfl, rfl, by simp, fun i _ hn => setRow_other w g i _ (fun e => hn (by simp [e]))⟩⟩
    rw [setRow_heap w g _ _ 5 _ h1]
    refine congrArg (fun z => some (Obj.cells z 5)) (Array.ext' ?_)
    simp only [over, arr, List.toList_toArray, List.map_append, List.map_take, List.map_drop]
    rw [List.take_append_of_le_length (by simp; omega), List.drop_append_of_le_length (by simp; omega)]
    simp

theorem wp_copyB (hgd : o.guard = none) (d s : Operand) (ho : o.op = .call { callee := .builtin .copy, args := #[d, s], argTypes := #[37, 37] }) (g off : Nat) (dp : Option Addr) (dn dc : Nat) (ad : Option Addr) (sn sc c : Nat) (p l : List UInt8)
    (hd : a.eval d = .slice dp dn dc) (hs : a.eval s = .slice ad sn sc) (hg : RowB w g c p) (hl : l.length = Nat.min sn dn) (hdp : 0 < l.length → dp = some ⟨g, off, none⟩) (hsrc : BytesAt w ad l) (hfit : off + l.length ≤ p.length)
    (h : ∀ w', RowB w' g c (over p off l) → Fr [g] w w' → wpList Tryz.prog ops Q rest (a.put o.dst (goInt l.length)) w') : wpList Tryz.prog ops Q (o :: rest) a w :=
  wpList_plain hgd fun K hK => by
    obtain ⟨w', hrun, h1, h2⟩ := run_copyB g off dp dn dc ad sn sc c p l hg hl hdp hsrc hfit
    unfold Oper.wp execOp
    simp [ho, resolve, invoke, builtin, hd, hs, hrun, Result.andThen]
    exact hK _ _ (h _ h1 h2)

/-- The same as a step of a region that draws its order. -/
theorem step_copyB {K : Act → World → Prop} {E : Prop} (hgd : o.guard = none) (d s : Operand) (ho : o.op = .call { callee := .builtin .copy, args := #[d, s], argTypes := #[37, 37] }) (g off : Nat) (dp : Option Addr) (dn dc : Nat) (ad : Option Addr) (sn sc c : Nat) (p l : List UInt8)
    (hd : a.eval d = .slice dp dn dc) (hs : a.eval s = .slice ad sn sc) (hg : RowB w g c p) (hl : l.length = Nat.min sn dn) (hdp : 0 < l.length → dp = some ⟨g, off, none⟩) (hsrc : BytesAt w ad l) (hfit : off + l.length ≤ p.length)
    (h : ∀ w', RowB w' g c (over p off l) → Fr [g] w w' → K (a.put o.dst (goInt l.length)) w') :
    if Region.wanted o (yielded ops a.tmps) = true then Oper.wp Tryz.prog o a w K Q else E := by
  have hw : Region.wanted o (yielded ops a.tmps) = true := by simp [Region.wanted, hgd]
  rw [if_pos hw]
  obtain ⟨w', hrun, h1, h2⟩ := run_copyB g off dp dn dc ad sn sc c p l hg hl hdp hsrc hfit
  unfold Oper.wp
  simp [execOp, ho, resolve, invoke, builtin, hd, hs, hrun, Result.andThen]
  exact h _ h1 h2

theorem run_clearB (ty : TypeId) (ad : Option Addr) (g off n nc c : Nat) (p : List UInt8) (hg : RowB w g c p) (had : 0 < n → ad = some ⟨g, off, none⟩) (hfit : off + n ≤ p.length) :
    ∃ w', (Builtin.clear_ #[37] ty #[.slice ad n nc]).run Tryz.prog w = .ok (.tuple #[]) w' ∧ RowB w' g c (over p off (zs n)) ∧ Fr [g] w w' := by
  obtain ⟨i, hi, hz, hsz, hb⟩ := info5'
  cases n with
  | zero =>
    refine ⟨w, ?_, by simpa [over, zs] using hg, Fr.refl _ _⟩
    cases ad <;> simp [Builtin.clear_, run_underlying Tryz.underlying37]
  | succ m =>
    rw [had (by omega)]
    obtain ⟨tl, h1, h2⟩ := hg
    have hst := run_storeCells_at Tryz.prog g off 5 (arr (zs (m + 1))).toList 0 _ w h1 (by simp [arr, zs_length]; omega) (arr_one _)
    have hzc : (Builtin.zeroCells (Value.int .u8 0).cells (m + 1)).toList = (arr (zs (m + 1))).toList := by
      simp [Builtin.zeroCells, arr, zs, Value.cells]
      apply List.ext_getElem
      · simp
      · intro i h1 h2
        simp [Nat.mod_one]
    have hrun : (Builtin.clear_ #[37] ty #[.slice (some ⟨g, off, none⟩) (m + 1) nc]).run Tryz.prog w = .ok (.tuple #[]) (w.setRow g (List.take (off + 0) ((arr p).toList ++ tl).toArray.toList ++ (arr (zs (m + 1))).toList ++ List.drop (off + 0 + (arr (zs (m + 1))).toList.length) ((arr p).toList ++ tl).toArray.toList).toArray) := by
      generalize (List.take (off + 0) ((arr p).toList ++ tl).toArray.toList ++ (arr (zs (m + 1))).toList ++ List.drop (off + 0 + (arr (zs (m + 1))).toList.length) ((arr p).toList ++ tl).toArray.toList).toArray = W at hst ⊢
      simp [Builtin.clear_, run_underlying Tryz.underlying37, zeroValue, typeInfo, hi, hz, hzc, hst]
    refine ⟨_, hrun, ⟨tl, ?_, by rw [over_length _ _ _ (by rw [zs_length]; omega)]; exact h2⟩, ⟨rfl, rfl, rfl, by simp, fun i _ hn => setRow_other w g i _ (fun e => hn (by simp [e]))⟩⟩
    rw [setRow_heap w g _ _ 5 _ h1]
    refine congrArg (fun z => some (Obj.cells z 5)) (Array.ext' ?_)
    simp only [over, arr, List.toList_toArray, List.length_map, List.map_append, List.map_take, List.map_drop, Nat.add_zero]
    rw [List.take_append_of_le_length (by simp; omega), List.drop_append_of_le_length (by simp [zs_length]; omega)]
    simp

theorem wp_clearB (hgd : o.guard = none) (d : Operand) (ho : o.op = .call { callee := .builtin .clear, args := #[d], argTypes := #[37] }) (ad : Option Addr) (g off n nc c : Nat) (p : List UInt8)
    (hd : a.eval d = .slice ad n nc) (hg : RowB w g c p) (had : 0 < n → ad = some ⟨g, off, none⟩) (hfit : off + n ≤ p.length)
    (h : ∀ w', RowB w' g c (over p off (zs n)) → Fr [g] w w' → wpList Tryz.prog ops Q rest (a.put o.dst (.tuple #[])) w') : wpList Tryz.prog ops Q (o :: rest) a w :=
  wpList_plain hgd fun K hK => by
    obtain ⟨w', hrun, h1, h2⟩ := run_clearB o.type ad g off n nc c p hg had hfit
    unfold Oper.wp execOp
    simp [ho, resolve, invoke, builtin, hd, hrun, Result.andThen]
    exact hK _ _ (h _ h1 h2)
end

set_option maxHeartbeats 400000 in
set_option maxRecDepth 100000 in
theorem copied_any (w : World) (ad : Option Addr) (n c : Nat) (l : List UInt8) (hl : l.length = n) (hb : BytesAt w ad l) (hn : n ≤ 1000000) :
    Calls Tryz.prog 235 #[.slice ad n c] w fun r w' => ∃ g, r = .returned (.slice (some ⟨g, 0, none⟩) n n) ∧ Blk w' g l ∧ w.heap.size ≤ g ∧ Fr [] w w' := by
  have HL : Hid (l.length = n) := hl
  clear hl
  go_enter Tryz.func235, Tryz.ntmps235
  go_wp2_with (first
    | (refine wp_make rfl _ _ rfl n rfl rfl (by omega) ?_; intro w1 g1 hg1 b1 f1)
    | (refine wp_copyB rfl _ _ rfl g1 0 _ n n ad n c _ _ l rfl rfl b1.row (by rw [HL.out]; exact (Nat.min_self n).symm) (fun _ => rfl) (hb.kept f1 (by simp)) (by rw [HL.out]; simp) ?_; intro w2 r2 f2))
  go_ret
  refine ⟨g1, rfl, ?_, hg1, f1.then f2 (fun i hi hm => by simp at hm; omega)⟩
  obtain ⟨tl, h1, h2⟩ := r2
  rw [over_length _ _ _ (by rw [HL.out]; simp), List.length_replicate] at h2
  have : tl = [] := List.eq_nil_of_length_eq_zero (by omega)
  subst this
  unfold Blk
  rw [h1]
  simp [over, HL.out]

end Go.Proofs.YtopaeomjndblkaaGreat.Pg

namespace Go.Proofs.YtopaeomjndblkaaGreat.Pg
open Go.RowKit Go.Maps

section
variable {ops : Array Oper} {rest : List Oper} {o : Oper} {a : Act} {w : World} {Q : Exit → Act → World → Prop}
end
end Go.Proofs.YtopaeomjndblkaaGreat.Pg

namespace Go.Proofs.YtopaeomjndblkaaGreat.Pg
open Go.RowKit Go.Maps

/-- Values that lie one behind the other. -/
def ValsAt (w : World) (ad : Option Addr) (ys : List Value) : Prop := ∀ j v, ys[j]? = some v → ∃ b off, ad = some ⟨b, off, none⟩ ∧ w.cell? ⟨b, off + j, none⟩ = some v
theorem ValsAt.nil (w : World) (ad : Option Addr) : ValsAt w ad [] := fun j v hv => by simp at hv
theorem ValsAt.kept {w w' : World} {ad : Option Addr} {ys : List Value} {L : List Nat} (h : ValsAt w ad ys) (k : Fr L w w') (hL : ∀ b off, ad = some ⟨b, off, none⟩ → b ∉ L) : ValsAt w' ad ys := by
  intro j v hv
  obtain ⟨b, off, ha, hc⟩ := h j v hv
  exact ⟨b, off, ha, (World.cell?_of_block (k.block b (block_lt_of_cell hc) (hL b off ha))).trans hc⟩
theorem ValsAt.take {w : World} {ad : Option Addr} {ys : List Value} (h : ValsAt w ad ys) (m : Nat) : ValsAt w ad (ys.take m) := by
  intro j v hv
  refine h j v ?_
  rw [List.getElem?_take] at hv
  split at hv
  · exact hv
  · cases hv
theorem ValsAt.drop {w : World} {b off : Nat} {ys : List Value} (h : ValsAt w (some ⟨b, off, none⟩) ys) (m : Nat) : ValsAt w (some ⟨b, off + m, none⟩) (ys.drop m) := by
  intro j v hv
  rw [List.getElem?_drop] at hv
  obtain ⟨b', off', e, hc⟩ := h (m + j) v hv
  cases e
  exact ⟨b, off + m, rfl, by rw [Nat.add_assoc]; exact hc⟩

/-- A row of values of that kind (slices), new since w0. -/
structure OwnV (e : TypeId) (w0 w : World) (ad : Option Addr) (n cap : Nat) (xs : List Value) : Prop where
  own : w.ownsRow w0.heap.size e 1 (.slice ad n cap) n xs
  fr : Fr [] w0 w
theorem OwnV.kept {e : TypeId} {w0 w w' : World} {ad : Option Addr} {n cap : Nat} {xs : List Value} (h : OwnV e w0 w ad n cap xs) (k : Fr [] w w') : OwnV e w0 w' ad n cap xs := by
  refine ⟨?_, h.fr.trans k⟩
  obtain ⟨h1, h2⟩ := h.own
  refine ⟨h1, ?_⟩
  rcases h2 with hn | ⟨g, c, cur, hv, hb, hg, r⟩
  · exact Or.inl hn
  · exact Or.inr ⟨g, c, cur, hv, hb, k.same (by simp) hg, r⟩
/-- The same seen from an earlier world. -/
theorem OwnV.from {e : TypeId} {w1 w0 w : World} {ad : Option Addr} {n cap : Nat} {xs : List Value} (h : OwnV e w0 w ad n cap xs) (k : Fr [] w1 w0) : OwnV e w1 w ad n cap xs := by
  refine ⟨?_, k.trans h.fr⟩
  obtain ⟨h1, h2⟩ := h.own
  refine ⟨h1, ?_⟩
  rcases h2 with hn | ⟨g, c, cur, hv, hb, r⟩
  · exact Or.inl hn
  · exact Or.inr ⟨g, c, cur, hv, Nat.le_trans k.size hb, r⟩
theorem OwnV.nil {e : TypeId} {w0 w : World} (f : Fr [] w0 w) : OwnV e w0 w none 0 0 [] := ⟨World.ownsRow_nil _ _ _ _, f⟩
theorem OwnV.len {e : TypeId} {w0 w : World} {ad : Option Addr} {n cap : Nat} {xs : List Value} (h : OwnV e w0 w ad n cap xs) : xs.length = n := by have := h.own.1; omega
theorem OwnV.vals {e : TypeId} {w0 w : World} {ad : Option Addr} {n cap : Nat} {xs : List Value} (h : OwnV e w0 w ad n cap xs) : ValsAt w ad xs := by
  intro j v hv
  have hl := h.len
  have hj : j < xs.length := (List.getElem?_eq_some_iff.1 hv).1
  rcases h.own.2 with ⟨hvv, hn⟩ | ⟨g, c, cur, hvv, hb, hg, hnc, _, hcs, ht⟩
  · omega
  · cases hvv
    refine ⟨g, 0, rfl, ?_⟩
    rw [Nat.zero_add, cell_of_row w g j _ _ _ hg, ← hv, ← ht, List.getElem?_take, if_pos (by omega)]
    simp

section
variable {ops : Array Oper} {rest : List Oper} {o : Oper} {a : Act} {w : World} {Q : Exit → Act → World → Prop}

end
end Go.Proofs.YtopaeomjndblkaaGreat.Pg

