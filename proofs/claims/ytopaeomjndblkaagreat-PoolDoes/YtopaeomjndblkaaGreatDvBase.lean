/-
  Ground for the walks over the device: blocks as arrays of bytes, the two maps of a device as plain functions, what a device is in memory, what stays as it was.
-/
import Derived.Test.YtopaeomjndblkaaGreatProg
import Derived.Maps.RangeWalk
import Derived.Maps.OwnSet
import Derived.WalkKit
import Derived.WalkSpells
import Derived.WalkLawsBesides
import Derived.Laws.CopyRow
import Derived.Laws.CopyOwn
import Derived.Laws.Rows
namespace Go.Proofs.YtopaeomjndblkaaGreat.Dv
open Go.RowKit Go.Maps
open Go.WideElems (Fit rd rg rd_key rg_of)

theorem Tryz.cells180 : Tryz.prog.cellsOf 180 = 5 := by kernel_rfl
theorem Tryz.cells185 : Tryz.prog.cellsOf 185 = 512 := by kernel_rfl
theorem law3 : Keyed Tryz.prog 3 := int_keyed Tryz.underlying3

/-- The value of an array of bytes. -/
def arr (l : List UInt8) : Array Value := (l.map fun b => Value.int .u8 b.toNat).toArray

theorem arr_size (l : List UInt8) : (arr l).size = l.length := by simp [arr]

def zeros : List UInt8 := List.replicate 512 0

theorem zeros_length : zeros.length = 512 := List.length_replicate

theorem zero72 (w : World) : (zeroValue 185).run Tryz.prog w = .ok (.agg (arr zeros)) w := by kernel_rfl
theorem size72 : (Tryz.prog.info? 185).map (·.size) = some 512 := by kernel_rfl

theorem mk512 (w : World) : (Instr.makeSlice 37 (.int .i64 512) (.int .i64 512)).run Tryz.prog w = .ok (.slice (some ⟨w.heap.size, 0, none⟩) 512 512) (w.alloc (.cells (arr zeros) 5)) := by kernel_rfl
theorem run_alloc72 (w : World) : (Instr.alloc 185 true (.tuple #[])).run Tryz.prog w = .ok (.pointer (some ⟨w.heap.size, 0, none⟩)) (w.alloc (.cells (arr zeros) 185)) := by kernel_rfl

def byteOf : Value → Option UInt8
  | .int .u8 n => if 0 ≤ n ∧ n < 256 then some (UInt8.ofNat n.toNat) else none
  | _ => none

def bytesOf : List Value → Option (List UInt8)
  | [] => some []
  | v :: r => match byteOf v, bytesOf r with
    | some b, some l => some (b :: l)
    | _, _ => none

/-- How an array of 512 bytes reads, as an element of a map. -/
def rdArr (v : Value) : Option (DataW (List UInt8) × List MemPlace) :=
  match v with
  | .agg cs => match bytesOf cs.toList with
    | some l => if l.length = 512 then some (.held l, []) else none
    | none => none
  | _ => none

theorem byteOf_mk (b : UInt8) : byteOf (.int .u8 b.toNat) = some b := by
  have h : b.toNat < 256 := b.toNat_lt
  have h1 : (0 : Int) ≤ (b.toNat : Int) ∧ (b.toNat : Int) < 256 := ⟨by omega, by omega⟩
  simp only [byteOf, if_pos h1, Int.toNat_natCast, UInt8.ofNat_toNat]

theorem byteOf_inv {v : Value} {b : UInt8} (h : byteOf v = some b) : v = .int .u8 b.toNat := by
  unfold byteOf at h
  split at h
  · rename_i n
    split at h
    · rename_i hn
      simp only [Option.some.injEq] at h
      subst h
      have : ((UInt8.ofNat n.toNat).toNat : Int) = n := by
        rw [UInt8.toNat_ofNat']
        omega
      rw [this]
    · cases h
  · cases h

theorem bytesOf_mk : ∀ l : List UInt8, bytesOf (l.map fun b => Value.int .u8 b.toNat) = some l
  | [] => rfl
  | b :: r => by simp [bytesOf, byteOf_mk, bytesOf_mk r]

theorem bytesOf_inv : ∀ {vs : List Value} {l : List UInt8}, bytesOf vs = some l → vs = l.map fun b => Value.int .u8 b.toNat
  | [], l, h => by simp [bytesOf] at h; subst h; rfl
  | v :: r, l, h => by
    unfold bytesOf at h
    split at h
    · rename_i b l' hb hl
      simp only [Option.some.injEq] at h
      subst h
      rw [byteOf_inv hb, bytesOf_inv hl]
      rfl
    · cases h

theorem rdArr_mk {l : List UInt8} (h : l.length = 512) : rdArr (.agg (arr l)) = some (.held l, []) := by
  simp [rdArr, arr, bytesOf_mk, h]

theorem rdArr_inv {v : Value} {z : DataW (List UInt8) × List MemPlace} (h : rdArr v = some z) : ∃ l, l.length = 512 ∧ v = .agg (arr l) ∧ z = (.held l, []) := by
  unfold rdArr at h
  split at h
  · rename_i cs
    split at h
    · rename_i l hl
      split at h
      · rename_i hn
        simp only [Option.some.injEq] at h
        refine ⟨l, hn, ?_, h.symm⟩
        have := bytesOf_inv hl
        simp [arr, ← this]
      · cases h
    · cases h
  · cases h

/-! ### a table: a map from block numbers to arrays, as a plain function -/
abbrev Tab := Int → Option (List UInt8)

def Tab.put (S : Tab) (k : Int) (l : List UInt8) : Tab := fun j => if j = k then some l else S j
def Tab.none : Tab := fun _ => Option.none
def Tab.get (S : Tab) (k : Int) : List UInt8 := (S k).getD zeros

/-- D says what S says. -/
structure Says (D : DataW (List UInt8)) (S : Tab) : Prop where
  has : ∀ k, Maps.has D (.int .i64 k) = (S k).isSome
  at' : ∀ k l, S k = some l → ∀ z, D.atKey (.int .i64 k) z = .held l
  len : ∀ k l, S k = some l → l.length = 512
  key : ∀ k l, S k = some l → 0 ≤ k ∧ k < 65536

theorem Says.none : Says (.map []) Tab.none := ⟨fun _ => rfl, (fun _ _ h => nomatch h), (fun _ _ h => nomatch h), (fun _ _ h => nomatch h)⟩

theorem Says.put {D : DataW (List UInt8)} {S : Tab} (h : Says D S) (hD : IsMap D) {k : Int} {l : List UInt8} (hl : l.length = 512) (h0 : 0 ≤ k) (h1 : k < 65536) : Says (D.put (.int .i64 k) (.held l)) (S.put k l) := by
  have hk : WideAt.IsKeyLit (.int .i64 k) := trivial
  refine ⟨fun j => ?_, fun j m hj z => ?_, fun j m hj => ?_, fun j m hj => ?_⟩
  · by_cases e : j = k
    · subst e; rw [has_put_same hD hk]; simp [Tab.put]
    · rw [has_put_other (by simpa using e), h.has]; simp [Tab.put, e]
  · by_cases e : j = k
    · subst e; rw [atKey_put_same hD hk]; simp [Tab.put] at hj; rw [hj]
    · simp [Tab.put, e] at hj; rw [atKey_put_other (by simpa using e)]; exact h.at' j m hj z
  · by_cases e : j = k
    · subst e; simp [Tab.put] at hj; rw [← hj]; exact hl
    · simp [Tab.put, e] at hj; exact h.len j m hj
  · by_cases e : j = k
    · subst e; exact ⟨h0, h1⟩
    · simp [Tab.put, e] at hj; exact h.key j m hj

theorem Says.atKey {D : DataW (List UInt8)} {S : Tab} (h : Says D S) (k : Int) : D.atKey (.int .i64 k) (.held zeros) = .held (S.get k) := by
  unfold Tab.get
  cases e : S k with
  | none => exact atKey_of_not_has (by rw [h.has, e]; rfl) _
  | some l => exact h.at' k l e _

theorem Says.get_length {D : DataW (List UInt8)} {S : Tab} (h : Says D S) (k : Int) : (S.get k).length = 512 := by
  unfold Tab.get
  cases e : S k with
  | none => exact zeros_length
  | some l => exact h.len k l e

/-! ### how many different numbers there can be -/
theorem nodup_le : ∀ (n : Nat) (l : List Int), l.Nodup → (∀ x ∈ l, 0 ≤ x ∧ x < n) → l.length ≤ n
  | 0, l, _, h => by
    cases l with
    | nil => simp
    | cons x r => have := h x (by simp); omega
  | n + 1, l, hd, h => by
    have h1 : (l.filter (fun x => x != (n : Int))).length ≤ n :=
      nodup_le n _ (hd.filter _) (fun x hx => by
        have hx' := List.mem_filter.1 hx
        have := h x hx'.1
        have h3 : x ≠ (n : Int) := by simpa using hx'.2
        omega)
    have h2 : l.length ≤ (l.filter (fun x => x != (n : Int))).length + 1 := by
      clear h1 h
      induction l with
      | nil => simp
      | cons y r ih =>
        by_cases e : y = (n : Int)
        · have hr : r.filter (fun x => x != (n : Int)) = r := by
            rw [List.filter_eq_self]
            intro a ha
            have := (List.nodup_cons.1 hd).1
            simp
            intro e2
            exact this (e ▸ e2 ▸ ha)
          simp [e, hr]
        · have := ih (List.nodup_cons.1 hd).2
          simp [e]
          omega
    omega

/-- A table at block b. -/
def tabAt (w : World) (b : Nat) (S : Tab) : Prop := ∃ D, w.ownsMap Tryz.prog 3 rdArr b 65536 D ∧ Says D S

theorem owns_small {w : World} {b n : Nat} {D : DataW (List UInt8)} {S : Tab} (h : w.ownsMap Tryz.prog 3 rdArr b n D) (hs : Says D S) : w.ownsMap Tryz.prog 3 rdArr b 65536 D := by
  obtain ⟨D', hti, hpw⟩ := h.tidy law3
  obtain ⟨es, clock, hb, F, hn, hD⟩ := h
  refine ⟨es, clock, hb, F, ?_, hD⟩
  have hlen : es.size = D'.length := by
    have e1 : D' = ((es.toList.map (rg Tryz.prog 3 rdArr)).foldr DataW.insert []) := by
      rw [hti] at hD; exact DataW.map.inj hD
    rw [e1, length_read]
  rw [hlen]
  -- every key is an integer in range
  have hkeys : ∀ p ∈ D', ∃ x : Int, p.1 = .int .i64 x ∧ 0 ≤ x ∧ x < 65536 := by
    intro p hp
    have e1 : D' = ((es.toList.map (rg Tryz.prog 3 rdArr)).foldr DataW.insert []) := by
      rw [hti] at hD; exact DataW.map.inj hD
    have hp' : p ∈ es.toList.map (rg Tryz.prog 3 rdArr) := (WideShapes.sorted_perm _).mem_iff.1 (e1 ▸ hp)
    obtain ⟨x, hx, rfl⟩ := List.mem_map.1 hp'
    obtain ⟨y, hy⟩ := F.reads x hx
    have hk := rd_key hy
    obtain ⟨n, _, hkn, _⟩ := Maps.keyOf_int_inv Tryz.underlying3 hk
    have hrg : rg Tryz.prog 3 rdArr x = y := rg_of hy
    refine ⟨n, by rw [hrg]; exact hkn, ?_⟩
    have hhas : Maps.has D (.int .i64 n) = true := by
      rw [hti, has_eq, List.any_eq_true]
      exact ⟨_, hp, by rw [hrg, hkn]; simp [Lit.sameKey]⟩
    rw [hs.has] at hhas
    obtain ⟨l, hl⟩ := Option.isSome_iff_exists.1 hhas
    exact hs.key n l hl
  have hnum : ∀ p ∈ D', ∀ q ∈ D', p.1 ≠ q.1 → (match p.1 with | .int _ x => x | _ => 0) ≠ (match q.1 with | .int _ x => x | _ => (0 : Int)) := by
    intro p hp q hq hne
    obtain ⟨x, ex, _⟩ := hkeys p hp
    obtain ⟨y, ey, _⟩ := hkeys q hq
    rw [ex, ey] at hne ⊢
    simpa using hne
  have := nodup_le 65536 (D'.map fun p => match p.1 with | .int _ x => x | _ => 0) (by
    rw [List.Nodup, List.pairwise_map]
    exact hpw.imp_of_mem (fun hp hq hne => hnum _ hp _ hq hne)) (by
    intro x hx
    obtain ⟨p, hp, rfl⟩ := List.mem_map.1 hx
    obtain ⟨y, ey, h1, h2⟩ := hkeys p hp
    rw [ey]
    exact ⟨h1, by simpa using h2⟩)
  simpa using this


/-! ### what stays as it was -/
/-- Nothing but the listed blocks, and new ones, has turned. -/
structure Fr (L : List Nat) (w w' : World) : Prop where
  os : w'.os = w.os
  tape : w'.tape = w.tape
  output : w'.output = w.output
  size : w.heap.size ≤ w'.heap.size
  block : ∀ k, k < w.heap.size → k ∉ L → w'.heap[k]? = w.heap[k]?

theorem Fr.refl (L : List Nat) (w : World) : Fr L w w := ⟨rfl, rfl, rfl, Nat.le_refl _, fun _ _ _ => rfl⟩
theorem Fr.trans {L : List Nat} {a b c : World} (h : Fr L a b) (k : Fr L b c) : Fr L a c :=
  ⟨k.os.trans h.os, k.tape.trans h.tape, k.output.trans h.output, Nat.le_trans h.size k.size, fun i hi hn => (k.block i (Nat.lt_of_lt_of_le hi h.size) hn).trans (h.block i hi hn)⟩
theorem Fr.mono {L M : List Nat} {a b : World} (h : Fr L a b) (hs : ∀ k, k < a.heap.size → k ∈ L → k ∈ M) : Fr M a b :=
  ⟨h.os, h.tape, h.output, h.size, fun i hi hn => h.block i hi (fun e => hn (hs i hi e))⟩
/-- What comes behind may turn blocks that were not there at first. -/
theorem Fr.then {L M : List Nat} {a b c : World} (h : Fr L a b) (k : Fr M b c) (hs : ∀ i, i < a.heap.size → i ∈ M → i ∈ L) : Fr L a c :=
  ⟨k.os.trans h.os, k.tape.trans h.tape, k.output.trans h.output, Nat.le_trans h.size k.size, fun i hi hn => (k.block i (Nat.lt_of_lt_of_le hi h.size) (fun e => hn (hs i hi e))).trans (h.block i hi hn)⟩
theorem Fr.alloc {L : List Nat} {a b : World} (h : Fr L a b) (o : Obj) : Fr L a (b.alloc o) :=
  h.then (M := []) ⟨rfl, rfl, rfl, by simp, fun i hi _ => heap_alloc_old b o i hi⟩ (fun _ _ e => nomatch e)
theorem Fr.drew {L : List Nat} {a b : World} (h : Fr L a b) : Fr L a b.drew := ⟨h.os, h.tape, h.output, h.size, h.block⟩
theorem Fr.drewN {L : List Nat} {a b : World} (h : Fr L a b) (n : Nat) : Fr L a (b.drewN n) := by
  induction n with
  | zero => exact h
  | succ n ih => exact ih.drew
theorem Fr.setCell {L : List Nat} {a b : World} (h : Fr L a b) (x : Addr) (v : Value) (hx : x.block < a.heap.size → x.block ∈ L) : Fr L a (b.setCell x v) :=
  ⟨h.os, h.tape, h.output, by simpa [World.setCell] using h.size, fun i hi hn => (heap_setCell_other b x i v (fun e => hn (e ▸ hx (e ▸ hi)))).trans (h.block i hi hn)⟩
theorem Fr.grown {L : List Nat} {a b c : World} {row : Option Nat} (h : Fr L a b) (k : b.grownBy c row) (hx : ∀ j, row = some j → j < a.heap.size → j ∈ L) : Fr L a c :=
  ⟨k.os.trans h.os, k.tape.trans h.tape, k.output.trans h.output, Nat.le_trans h.size k.size, fun i hi hn => (k.block i (Nat.lt_of_lt_of_le hi h.size) (fun e => hn (hx i e.symm hi))).trans (h.block i hi hn)⟩
theorem Fr.below {L : List Nat} {B : Nat} {a b : World} (h : Fr L a b) (hB : B ≤ a.heap.size) (hL : ∀ k ∈ L, B ≤ k) : Below B a b :=
  ⟨h.os, h.tape, h.output, h.size, fun i hi => h.block i (Nat.lt_of_lt_of_le hi hB) (fun e => by have := hL i e; omega)⟩
theorem Fr.same {L : List Nat} {a b : World} (h : Fr L a b) {k : Nat} (hk : k ∉ L) {o : Obj} (ho : a.heap[k]? = some o) : b.heap[k]? = some o :=
  (h.block k (Array.getElem?_eq_some_iff.1 ho).1 hk).trans ho

theorem tabAt.lt {w : World} {b : Nat} {S : Tab} (h : tabAt w b S) : b < w.heap.size := by
  obtain ⟨D, h, _⟩ := h; exact h.lt
theorem tabAt.block {w w' : World} {b : Nat} {S : Tab} (h : tabAt w b S) (e : w'.heap[b]? = w.heap[b]?) : tabAt w' b S := by
  obtain ⟨D, ⟨es, clock, hb, r⟩, hs⟩ := h
  exact ⟨D, ⟨es, clock, e.trans hb, r⟩, hs⟩
theorem tabAt.kept {w w' : World} {b : Nat} {S : Tab} {L : List Nat} (h : tabAt w b S) (k : Fr L w w') (hb : b ∉ L) : tabAt w' b S := h.block (k.block b h.lt hb)
theorem tabAt.made (w : World) : tabAt (w.alloc (.map #[] 0)) w.heap.size Tab.none :=
  ⟨_, (World.ownsMap_made w Tryz.prog 3 rdArr).mono (by omega), Says.none⟩

/-! ### a device in memory -/
structure Dev (w : World) (p bs bo : Nat) (n a : Int) (dn : Bool) (S O : Tab) : Prop where
  cells : w.heap[p]? = some (.cells #[.int .i64 n, .bool dn, .int .i64 a, .map (some bs), .map (some bo)] 180)
  safe : tabAt w bs S
  opn : tabAt w bo O
  ne1 : p ≠ bs
  ne2 : p ≠ bo
  ne3 : bs ≠ bo
  n1 : 1 ≤ n
  n2 : n ≤ 65536
  a1 : 0 ≤ a
  a2 : a < 9223372036854775808

theorem Dev.lt {w : World} {p bs bo : Nat} {n a : Int} {dn : Bool} {S O : Tab} (h : Dev w p bs bo n a dn S O) : p < w.heap.size ∧ bs < w.heap.size ∧ bo < w.heap.size :=
  ⟨(Array.getElem?_eq_some_iff.1 h.cells).1, h.safe.lt, h.opn.lt⟩
theorem Dev.kept {w w' : World} {p bs bo : Nat} {n a : Int} {dn : Bool} {S O : Tab} (h : Dev w p bs bo n a dn S O) {L : List Nat} (k : Fr L w w') (hp : p ∉ L) (hs : bs ∉ L) (ho : bo ∉ L) : Dev w' p bs bo n a dn S O :=
  { h with cells := k.same hp h.cells, safe := h.safe.kept k hs, opn := h.opn.kept k ho }
theorem Dev.cell0 {w : World} {p bs bo : Nat} {n a : Int} {dn : Bool} {S O : Tab} (h : Dev w p bs bo n a dn S O) : w.cell? ⟨p, 0, none⟩ = some (.int .i64 n) := by rw [cell_of_row w p 0 _ _ _ h.cells]; rfl
theorem Dev.cell1 {w : World} {p bs bo : Nat} {n a : Int} {dn : Bool} {S O : Tab} (h : Dev w p bs bo n a dn S O) : w.cell? ⟨p, 1, none⟩ = some (.bool dn) := by rw [cell_of_row w p 1 _ _ _ h.cells]; rfl
theorem Dev.cell2 {w : World} {p bs bo : Nat} {n a : Int} {dn : Bool} {S O : Tab} (h : Dev w p bs bo n a dn S O) : w.cell? ⟨p, 2, none⟩ = some (.int .i64 a) := by rw [cell_of_row w p 2 _ _ _ h.cells]; rfl
theorem Dev.cell3 {w : World} {p bs bo : Nat} {n a : Int} {dn : Bool} {S O : Tab} (h : Dev w p bs bo n a dn S O) : w.cell? ⟨p, 3, none⟩ = some (.map (some bs)) := by rw [cell_of_row w p 3 _ _ _ h.cells]; rfl
theorem Dev.cell4 {w : World} {p bs bo : Nat} {n a : Int} {dn : Bool} {S O : Tab} (h : Dev w p bs bo n a dn S O) : w.cell? ⟨p, 4, none⟩ = some (.map (some bo)) := by rw [cell_of_row w p 4 _ _ _ h.cells]; rfl
theorem Dev.frozen {w : World} {p bs bo : Nat} {n a : Int} {dn : Bool} {S O : Tab} (h : Dev w p bs bo n a dn S O) (j : Nat) : w.frozen? ⟨p, j, none⟩ = false := frozen_of_row w p j _ _ h.cells
theorem Dev.setDown {w : World} {p bs bo : Nat} {n a : Int} {dn : Bool} {S O : Tab} (h : Dev w p bs bo n a dn S O) (d : Bool) : Dev (w.setCell ⟨p, 1, none⟩ (.bool d)) p bs bo n a d S O :=
  { h with cells := heap_setCell_same w p 1 _ _ _ h.cells, safe := h.safe.block (heap_setCell_other w _ _ _ (Ne.symm h.ne1)), opn := h.opn.block (heap_setCell_other w _ _ _ (Ne.symm h.ne2)) }
theorem Dev.setAhead {w : World} {p bs bo : Nat} {n a : Int} {dn : Bool} {S O : Tab} (h : Dev w p bs bo n a dn S O) (m : Int) (h0 : 0 ≤ m) (h1 : m < 9223372036854775808) : Dev (w.setCell ⟨p, 2, none⟩ (.int .i64 m)) p bs bo n m dn S O :=
  { h with cells := heap_setCell_same w p 2 _ _ _ h.cells, safe := h.safe.block (heap_setCell_other w _ _ _ (Ne.symm h.ne1)), opn := h.opn.block (heap_setCell_other w _ _ _ (Ne.symm h.ne2)), a1 := h0, a2 := h1 }
theorem Dev.drew {w : World} {p bs bo : Nat} {n a : Int} {dn : Bool} {S O : Tab} (h : Dev w p bs bo n a dn S O) : Dev w.drew p bs bo n a dn S O := h.kept (Fr.refl [] w).drew (by simp) (by simp) (by simp)
theorem Dev.alloc {w : World} {p bs bo : Nat} {n a : Int} {dn : Bool} {S O : Tab} (h : Dev w p bs bo n a dn S O) (o : Obj) : Dev (w.alloc o) p bs bo n a dn S O := h.kept ((Fr.refl [] w).alloc o) (by simp) (by simp) (by simp)

end Go.Proofs.YtopaeomjndblkaaGreat.Dv
