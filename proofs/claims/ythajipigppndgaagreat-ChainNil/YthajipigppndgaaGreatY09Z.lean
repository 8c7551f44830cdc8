/-
  The device's Read and Write: what each answers, and what it leaves.
-/
import Derived.Test.YthajipigppndgaaGreatProg
import Derived.Maps.RangeWalk
import Derived.Maps.OwnSet
import Derived.WalkKit
import Derived.WalkSpells
import Derived.WalkLawsBesides
import Derived.Laws.CopyRow
import Derived.Laws.CopyOwn
import Derived.Laws.Rows
import Derived.Deep.MidRow
import Derived.Deep.RegionHeld3
import Derived.Deep.DrawnRows
namespace Go.Proofs.YthajipigppndgaaGreat.Dv
open Go.RowKit Go.Maps
open Go.WideElems (Fit rd rg rd_key rg_of)

theorem law3 : Keyed Tryz.prog 3 := int_keyed Tryz.underlying3

/-- The value of an array of bytes. -/
def arr (l : List UInt8) : Array Value := (l.map fun b => Value.int .u8 b.toNat).toArray

theorem arr_size (l : List UInt8) : (arr l).size = l.length := by simp [arr]

def zeros : List UInt8 := List.replicate 512 0

theorem zeros_length : zeros.length = 512 := List.length_replicate

theorem zero72 (w : World) : (zeroValue 219).run Tryz.prog w = .ok (.agg (arr zeros)) w := by kernel_rfl
theorem size72 : (Tryz.prog.info? 219).map (·.size) = some 512 := by kernel_rfl

theorem mk512 (w : World) : (Instr.makeSlice 26 (.int .i64 512) (.int .i64 512)).run Tryz.prog w = .ok (.slice (some ⟨w.heap.size, 0, none⟩) 512 512) (w.alloc (.cells (arr zeros) 5)) := by kernel_rfl
theorem run_alloc72 (w : World) : (Instr.alloc 219 true (.tuple #[])).run Tryz.prog w = .ok (.pointer (some ⟨w.heap.size, 0, none⟩)) (w.alloc (.cells (arr zeros) 219)) := by kernel_rfl

def byteOf : Value → Option UInt8
  | .int .u8 n => if 0 ≤ n ∧ n < 256 then some (UInt8.ofNat n.toNat) else none
  | _ => none

def bytesOf : List Value → Option (List UInt8)
  | [] => some []
  | v :: r => match byteOf v, bytesOf r with
    | some b, some l => some (b :: l)
    | _, _ => none

/-- How an array of 512 bytes reads, as an element of a map. -/
def rdArr (v : Value) : Option (DataW (List UInt8) × List MemPlace) :=
  match v with
  | .agg cs => match bytesOf cs.toList with
    | some l => if l.length = 512 then some (.held l, []) else none
    | none => none
  | _ => none

theorem byteOf_mk (b : UInt8) : byteOf (.int .u8 b.toNat) = some b := by
  have h : b.toNat < 256 := b.toNat_lt
  have h1 : (0 : Int) ≤ (b.toNat : Int) ∧ (b.toNat : Int) < 256 := ⟨by omega, by omega⟩
  simp only [byteOf, if_pos h1, Int.toNat_natCast, UInt8.ofNat_toNat]

theorem byteOf_inv {v : Value} {b : UInt8} (h : byteOf v = some b) : v = .int .u8 b.toNat := by
  unfold byteOf at h
  split at h
  · rename_i n
    split at h
    · rename_i hn
      simp only [Option.some.injEq] at h
      subst h
      have : ((UInt8.ofNat n.toNat).toNat : Int) = n := by
        rw [UInt8.toNat_ofNat']
        omega
      rw [this]
    · cases h
  · cases h

theorem bytesOf_mk : ∀ l : List UInt8, bytesOf (l.map fun b => Value.int .u8 b.toNat) = some l
  | [] => rfl
  | b :: r => by simp [bytesOf, byteOf_mk, bytesOf_mk r]

theorem bytesOf_inv : ∀ {vs : List Value} {l : List UInt8}, bytesOf vs = some l → vs = l.map fun b => Value.int .u8 b.toNat
  | [], l, h => by simp [bytesOf] at h; subst h; rfl
  | v :: r, l, h => by
    unfold bytesOf at h
    split at h
    · rename_i b l' hb hl
      simp only [Option.some.injEq] at h
      subst h
      rw [byteOf_inv hb, bytesOf_inv hl]
      rfl
    · cases h

theorem rdArr_mk {l : List UInt8} (h : l.length = 512) : rdArr (.agg (arr l)) = some (.held l, []) := by
  simp [rdArr, arr, bytesOf_mk, h]

theorem rdArr_inv {v : Value} {z : DataW (List UInt8) × List MemPlace} (h : rdArr v = some z) : ∃ l, l.length = 512 ∧ v = .agg (arr l) ∧ z = (.held l, []) := by
  unfold rdArr at h
  split at h
  · rename_i cs
    split at h
    · rename_i l hl
      split at h
      · rename_i hn
        simp only [Option.some.injEq] at h
        refine ⟨l, hn, ?_, h.symm⟩
        have := bytesOf_inv hl
        simp [arr, ← this]
      · cases h
    · cases h
  · cases h

/-! ### a table: a map from block numbers to arrays, as a plain function -/
abbrev Tab := Int → Option (List UInt8)

def Tab.put (S : Tab) (k : Int) (l : List UInt8) : Tab := fun j => if j = k then some l else S j
def Tab.none : Tab := fun _ => Option.none
def Tab.get (S : Tab) (k : Int) : List UInt8 := (S k).getD zeros

/-- D says what S says. -/
structure Says (D : DataW (List UInt8)) (S : Tab) : Prop where
  has : ∀ k, Maps.has D (.int .i64 k) = (S k).isSome
  at' : ∀ k l, S k = some l → ∀ z, D.atKey (.int .i64 k) z = .held l
  len : ∀ k l, S k = some l → l.length = 512
  key : ∀ k l, S k = some l → 0 ≤ k ∧ k < 65536

theorem Says.none : Says (.map []) Tab.none := ⟨fun _ => rfl, (fun _ _ h => nomatch h), (fun _ _ h => nomatch h), (fun _ _ h => nomatch h)⟩

theorem Says.put {D : DataW (List UInt8)} {S : Tab} (h : Says D S) (hD : IsMap D) {k : Int} {l : List UInt8} (hl : l.length = 512) (h0 : 0 ≤ k) (h1 : k < 65536) : Says (D.put (.int .i64 k) (.held l)) (S.put k l) := by
  have hk : WideAt.IsKeyLit (.int .i64 k) := trivial
  refine ⟨fun j => ?_, fun j m hj z => ?_, fun j m hj => ?_, fun j m hj => ?_⟩
  · by_cases e : j = k
    · subst e; rw [has_put_same hD hk]; simp [Tab.put]
    · rw [has_put_other (by simpa using e), h.has]; simp [Tab.put, e]
  · by_cases e : j = k
    · subst e; rw [atKey_put_same hD hk]; simp [Tab.put] at hj; rw [hj]
    · simp [Tab.put, e] at hj; rw [atKey_put_other (by simpa using e)]; exact h.at' j m hj z
  · by_cases e : j = k
    · subst e; simp [Tab.put] at hj; rw [← hj]; exact hl
    · simp [Tab.put, e] at hj; exact h.len j m hj
  · by_cases e : j = k
    · subst e; exact ⟨h0, h1⟩
    · simp [Tab.put, e] at hj; exact h.key j m hj

theorem Says.atKey {D : DataW (List UInt8)} {S : Tab} (h : Says D S) (k : Int) : D.atKey (.int .i64 k) (.held zeros) = .held (S.get k) := by
  unfold Tab.get
  cases e : S k with
  | none => exact atKey_of_not_has (by rw [h.has, e]; rfl) _
  | some l => exact h.at' k l e _

theorem Says.get_length {D : DataW (List UInt8)} {S : Tab} (h : Says D S) (k : Int) : (S.get k).length = 512 := by
  unfold Tab.get
  cases e : S k with
  | none => exact zeros_length
  | some l => exact h.len k l e

/-! ### how many different numbers there can be -/
theorem nodup_le : ∀ (n : Nat) (l : List Int), l.Nodup → (∀ x ∈ l, 0 ≤ x ∧ x < n) → l.length ≤ n
  | 0, l, _, h => by
    cases l with
    | nil => simp
    | cons x r => have := h x (by simp); omega
  | n + 1, l, hd, h => by
    have h1 : (l.filter (fun x => x != (n : Int))).length ≤ n :=
      nodup_le n _ (hd.filter _) (fun x hx => by
        have hx' := List.mem_filter.1 hx
        have := h x hx'.1
        have h3 : x ≠ (n : Int) := by simpa using hx'.2
        omega)
    have h2 : l.length ≤ (l.filter (fun x => x != (n : Int))).length + 1 := by
      clear h1 h
      induction l with
      | nil => simp
      | cons y r ih =>
        by_cases e : y = (n : Int)
        · have hr : r.filter (fun x => x != (n : Int)) = r := by
            rw [List.filter_eq_self]
            intro a ha
            have := (List.nodup_cons.1 hd).1
            simp
            intro e2
            exact this (e ▸ e2 ▸ ha)
          simp [e, hr]
        · have := ih (List.nodup_cons.1 hd).2
          simp [e]
          omega
    omega

/-- A table at block b. -/
def tabAt (w : World) (b : Nat) (S : Tab) : Prop := ∃ D, w.ownsMap Tryz.prog 3 rdArr b 65536 D ∧ Says D S

theorem owns_small {w : World} {b n : Nat} {D : DataW (List UInt8)} {S : Tab} (h : w.ownsMap Tryz.prog 3 rdArr b n D) (hs : Says D S) : w.ownsMap Tryz.prog 3 rdArr b 65536 D := by
  obtain ⟨D', hti, hpw⟩ := h.tidy law3
  obtain ⟨es, clock, hb, F, hn, hD⟩ := h
  refine ⟨es, clock, hb, F, ?_, hD⟩
  have hlen : es.size = D'.length := by
    have e1 : D' = ((es.toList.map (rg Tryz.prog 3 rdArr)).foldr DataW.insert []) := by
      rw [hti] at hD; exact DataW.map.inj hD
    rw [e1, length_read]
  rw [hlen]
  -- every key is an integer in range
  have hkeys : ∀ p ∈ D', ∃ x : Int, p.1 = .int .i64 x ∧ 0 ≤ x ∧ x < 65536 := by
    intro p hp
    have e1 : D' = ((es.toList.map (rg Tryz.prog 3 rdArr)).foldr DataW.insert []) := by
      rw [hti] at hD; exact DataW.map.inj hD
    have hp' : p ∈ es.toList.map (rg Tryz.prog 3 rdArr) := (WideShapes.sorted_perm _).mem_iff.1 (e1 ▸ hp)
    obtain ⟨x, hx, rfl⟩ := List.mem_map.1 hp'
    obtain ⟨y, hy⟩ := F.reads x hx
    have hk := rd_key hy
    obtain ⟨n, _, hkn, _⟩ := Maps.keyOf_int_inv Tryz.underlying3 hk
    have hrg : rg Tryz.prog 3 rdArr x = y := rg_of hy
    refine ⟨n, by rw [hrg]; exact hkn, ?_⟩
    have hhas : Maps.has D (.int .i64 n) = true := by
      rw [hti, has_eq, List.any_eq_true]
      exact ⟨_, hp, by rw [hrg, hkn]; simp [Lit.sameKey]⟩
    rw [hs.has] at hhas
    obtain ⟨l, hl⟩ := Option.isSome_iff_exists.1 hhas
    exact hs.key n l hl
  have hnum : ∀ p ∈ D', ∀ q ∈ D', p.1 ≠ q.1 → (match p.1 with | .int _ x => x | _ => 0) ≠ (match q.1 with | .int _ x => x | _ => (0 : Int)) := by
    intro p hp q hq hne
    obtain ⟨x, ex, _⟩ := hkeys p hp
    obtain ⟨y, ey, _⟩ := hkeys q hq
    rw [ex, ey] at hne ⊢
    simpa using hne
  have := nodup_le 65536 (D'.map fun p => match p.1 with | .int _ x => x | _ => 0) (by
    rw [List.Nodup, List.pairwise_map]
    exact hpw.imp_of_mem (fun hp hq hne => hnum _ hp _ hq hne)) (by
    intro x hx
    obtain ⟨p, hp, rfl⟩ := List.mem_map.1 hx
    obtain ⟨y, ey, h1, h2⟩ := hkeys p hp
    rw [ey]
    exact ⟨h1, by simpa using h2⟩)
  simpa using this


/-! ### what stays as it was -/
/-- Nothing but the listed blocks, and new ones, has turned. -/
structure Fr (L : List Nat) (w w' : World) : Prop where
  os : w'.os = w.os
  tape : w'.tape = w.tape
  output : w'.output = w.output
  size : w.heap.size ≤ w'.heap.size
  block : ∀ k, k < w.heap.size → k ∉ L → w'.heap[k]? = w.heap[k]?

theorem Fr.refl (L : List Nat) (w : World) : Fr L w w := ⟨rfl, rfl, rfl, Nat.le_refl _, fun _ _ _ => rfl⟩
theorem Fr.trans {L : List Nat} {a b c : World} (h : Fr L a b) (k : Fr L b c) : Fr L a c :=
  ⟨k.os.trans h.os, k.tape.trans h.tape, k.output.trans h.output, Nat.le_trans h.size k.size, fun i hi hn => (k.block i (Nat.lt_of_lt_of_le hi h.size) hn).trans (h.block i hi hn)⟩
theorem Fr.mono {L M : List Nat} {a b : World} (h : Fr L a b) (hs : ∀ k, k < a.heap.size → k ∈ L → k ∈ M) : Fr M a b :=
  ⟨h.os, h.tape, h.output, h.size, fun i hi hn => h.block i hi (fun e => hn (hs i hi e))⟩
/-- What comes behind may turn blocks that were not there at first. -/
theorem Fr.then {L M : List Nat} {a b c : World} (h : Fr L a b) (k : Fr M b c) (hs : ∀ i, i < a.heap.size → i ∈ M → i ∈ L) : Fr L a c :=
  ⟨k.os.trans h.os, k.tape.trans h.tape, k.output.trans h.output, Nat.le_trans h.size k.size, fun i hi hn => (k.block i (Nat.lt_of_lt_of_le hi h.size) (fun e => hn (hs i hi e))).trans (h.block i hi hn)⟩
theorem Fr.alloc {L : List Nat} {a b : World} (h : Fr L a b) (o : Obj) : Fr L a (b.alloc o) :=
  h.then (M := []) ⟨rfl, rfl, rfl, by simp, fun i hi _ => heap_alloc_old b o i hi⟩ (fun _ _ e => nomatch e)
theorem Fr.drew {L : List Nat} {a b : World} (h : Fr L a b) : Fr L a b.drew := ⟨h.os, h.tape, h.output, h.size, h.block⟩
theorem Fr.drewN {L : List Nat} {a b : World} (h : Fr L a b) (n : Nat) : Fr L a (b.drewN n) := by
  induction n with
  | zero => exact h
  | succ n ih => exact ih.drew
theorem Fr.setCell {L : List Nat} {a b : World} (h : Fr L a b) (x : Addr) (v : Value) (hx : x.block < a.heap.size → x.block ∈ L) : Fr L a (b.setCell x v) :=
  ⟨h.os, h.tape, h.output, by simpa [World.setCell] using h.size, fun i hi hn => (heap_setCell_other b x i v (fun e => hn (e ▸ hx (e ▸ hi)))).trans (h.block i hi hn)⟩
theorem Fr.grown {L : List Nat} {a b c : World} {row : Option Nat} (h : Fr L a b) (k : b.grownBy c row) (hx : ∀ j, row = some j → j < a.heap.size → j ∈ L) : Fr L a c :=
  ⟨k.os.trans h.os, k.tape.trans h.tape, k.output.trans h.output, Nat.le_trans h.size k.size, fun i hi hn => (k.block i (Nat.lt_of_lt_of_le hi h.size) (fun e => hn (hx i e.symm hi))).trans (h.block i hi hn)⟩
theorem Fr.same {L : List Nat} {a b : World} (h : Fr L a b) {k : Nat} (hk : k ∉ L) {o : Obj} (ho : a.heap[k]? = some o) : b.heap[k]? = some o :=
  (h.block k (Array.getElem?_eq_some_iff.1 ho).1 hk).trans ho

theorem tabAt.lt {w : World} {b : Nat} {S : Tab} (h : tabAt w b S) : b < w.heap.size := by
  obtain ⟨D, h, _⟩ := h; exact h.lt
theorem tabAt.block {w w' : World} {b : Nat} {S : Tab} (h : tabAt w b S) (e : w'.heap[b]? = w.heap[b]?) : tabAt w' b S := by
  obtain ⟨D, ⟨es, clock, hb, r⟩, hs⟩ := h
  exact ⟨D, ⟨es, clock, e.trans hb, r⟩, hs⟩
theorem tabAt.kept {w w' : World} {b : Nat} {S : Tab} {L : List Nat} (h : tabAt w b S) (k : Fr L w w') (hb : b ∉ L) : tabAt w' b S := h.block (k.block b h.lt hb)
theorem tabAt.made (w : World) : tabAt (w.alloc (.map #[] 0)) w.heap.size Tab.none :=
  ⟨_, (World.ownsMap_made w Tryz.prog 3 rdArr).mono (by omega), Says.none⟩

/-! ### a device in memory -/
structure Dev (w : World) (p bs bo : Nat) (n a : Int) (dn : Bool) (S O : Tab) : Prop where
  cells : w.heap[p]? = some (.cells #[.int .i64 n, .bool dn, .int .i64 a, .map (some bs), .map (some bo)] 168)
  safe : tabAt w bs S
  opn : tabAt w bo O
  ne1 : p ≠ bs
  ne2 : p ≠ bo
  ne3 : bs ≠ bo
  n1 : 1 ≤ n
  n2 : n ≤ 65536
  a1 : 0 ≤ a
  a2 : a < 9223372036854775808

theorem Dev.lt {w : World} {p bs bo : Nat} {n a : Int} {dn : Bool} {S O : Tab} (h : Dev w p bs bo n a dn S O) : p < w.heap.size ∧ bs < w.heap.size ∧ bo < w.heap.size :=
  ⟨(Array.getElem?_eq_some_iff.1 h.cells).1, h.safe.lt, h.opn.lt⟩
theorem Dev.kept {w w' : World} {p bs bo : Nat} {n a : Int} {dn : Bool} {S O : Tab} (h : Dev w p bs bo n a dn S O) {L : List Nat} (k : Fr L w w') (hp : p ∉ L) (hs : bs ∉ L) (ho : bo ∉ L) : Dev w' p bs bo n a dn S O :=
  { h with cells := k.same hp h.cells, safe := h.safe.kept k hs, opn := h.opn.kept k ho }
theorem Dev.cell0 {w : World} {p bs bo : Nat} {n a : Int} {dn : Bool} {S O : Tab} (h : Dev w p bs bo n a dn S O) : w.cell? ⟨p, 0, none⟩ = some (.int .i64 n) := by rw [cell_of_row w p 0 _ _ _ h.cells]; rfl
theorem Dev.cell1 {w : World} {p bs bo : Nat} {n a : Int} {dn : Bool} {S O : Tab} (h : Dev w p bs bo n a dn S O) : w.cell? ⟨p, 1, none⟩ = some (.bool dn) := by rw [cell_of_row w p 1 _ _ _ h.cells]; rfl
theorem Dev.cell2 {w : World} {p bs bo : Nat} {n a : Int} {dn : Bool} {S O : Tab} (h : Dev w p bs bo n a dn S O) : w.cell? ⟨p, 2, none⟩ = some (.int .i64 a) := by rw [cell_of_row w p 2 _ _ _ h.cells]; rfl
theorem Dev.cell3 {w : World} {p bs bo : Nat} {n a : Int} {dn : Bool} {S O : Tab} (h : Dev w p bs bo n a dn S O) : w.cell? ⟨p, 3, none⟩ = some (.map (some bs)) := by rw [cell_of_row w p 3 _ _ _ h.cells]; rfl
theorem Dev.cell4 {w : World} {p bs bo : Nat} {n a : Int} {dn : Bool} {S O : Tab} (h : Dev w p bs bo n a dn S O) : w.cell? ⟨p, 4, none⟩ = some (.map (some bo)) := by rw [cell_of_row w p 4 _ _ _ h.cells]; rfl
theorem Dev.frozen {w : World} {p bs bo : Nat} {n a : Int} {dn : Bool} {S O : Tab} (h : Dev w p bs bo n a dn S O) (j : Nat) : w.frozen? ⟨p, j, none⟩ = false := frozen_of_row w p j _ _ h.cells
theorem Dev.setDown {w : World} {p bs bo : Nat} {n a : Int} {dn : Bool} {S O : Tab} (h : Dev w p bs bo n a dn S O) (d : Bool) : Dev (w.setCell ⟨p, 1, none⟩ (.bool d)) p bs bo n a d S O :=
  { h with cells := heap_setCell_same w p 1 _ _ _ h.cells, safe := h.safe.block (heap_setCell_other w _ _ _ (Ne.symm h.ne1)), opn := h.opn.block (heap_setCell_other w _ _ _ (Ne.symm h.ne2)) }
theorem Dev.setAhead {w : World} {p bs bo : Nat} {n a : Int} {dn : Bool} {S O : Tab} (h : Dev w p bs bo n a dn S O) (m : Int) (h0 : 0 ≤ m) (h1 : m < 9223372036854775808) : Dev (w.setCell ⟨p, 2, none⟩ (.int .i64 m)) p bs bo n m dn S O :=
  { h with cells := heap_setCell_same w p 2 _ _ _ h.cells, safe := h.safe.block (heap_setCell_other w _ _ _ (Ne.symm h.ne1)), opn := h.opn.block (heap_setCell_other w _ _ _ (Ne.symm h.ne2)), a1 := h0, a2 := h1 }
theorem Dev.drew {w : World} {p bs bo : Nat} {n a : Int} {dn : Bool} {S O : Tab} (h : Dev w p bs bo n a dn S O) : Dev w.drew p bs bo n a dn S O := h.kept (Fr.refl [] w).drew (by simp) (by simp) (by simp)
theorem Dev.alloc {w : World} {p bs bo : Nat} {n a : Int} {dn : Bool} {S O : Tab} (h : Dev w p bs bo n a dn S O) (o : Obj) : Dev (w.alloc o) p bs bo n a dn S O := h.kept ((Fr.refl [] w).alloc o) (by simp) (by simp) (by simp)

end Go.Proofs.YthajipigppndgaaGreat.Dv

namespace Go.Proofs.YthajipigppndgaaGreat.Dv
open Go.RowKit Go.Maps

set_option maxHeartbeats 400000 in
theorem made_yes (w : World) (p : Nat) (n : Int) (c0 : w.cell? ⟨p, 0, none⟩ = some (.int .i64 n)) (h : 0 < n) : Calls Tryz.prog 168 #[.pointer (some ⟨p, 0, none⟩)] w fun e w' => e = .returned (.bool true) ∧ w' = w := by
  go_enter Tryz.func168, Tryz.ntmps168
  go_wp2
  go_ret
  exact ⟨rfl, rfl⟩

/-- No device, or one that nobody made. -/
def NoDev (w : World) (v : Value) : Prop := v = .pointer none ∨ ∃ p, v = .pointer (some ⟨p, 0, none⟩) ∧ w.cell? ⟨p, 0, none⟩ = some (.int .i64 0)

theorem NoDev.kept {w w' : World} {v : Value} {L : List Nat} (h : NoDev w v) (k : Fr L w w') (hL : ∀ i ∈ L, w.heap.size ≤ i) : NoDev w' v := by
  rcases h with h | ⟨p, h, hc⟩
  · exact Or.inl h
  · refine Or.inr ⟨p, h, ?_⟩
    have hlt := block_lt_of_cell hc
    rw [← hc]
    exact World.cell?_of_block (k.block p hlt (fun e => by have := hL p e; simp at hlt; omega))

theorem made_dev {w : World} {p bs bo : Nat} {n a : Int} {dn : Bool} {S O : Tab} (h : Dev w p bs bo n a dn S O) : Calls Tryz.prog 168 #[.pointer (some ⟨p, 0, none⟩)] w fun e w' => e = .returned (.bool true) ∧ w' = w :=
  made_yes w p n h.cell0 (by have := h.n1; omega)

/-- What is told of a crash. -/
def told (c : Bool) : Int := if c then 8 else 0
theorem told_t : told true = 8 := rfl
theorem told_f : told false = 0 := rfl

set_option maxHeartbeats 400000 in
theorem awake_dev {w : World} {p bs bo : Nat} {n a : Int} {dn : Bool} {S O : Tab} (h : Dev w p bs bo n a dn S O) :
    Calls Tryz.prog 176 #[.pointer (some ⟨p, 0, none⟩)] w fun e w' => e = .returned (.int .i64 (told dn)) ∧ w' = w := by
  have c1 := h.cell1
  cases dn
  · rw [told_f]
    go_enter Tryz.func176, Tryz.ntmps176
    go_wp2_with (go_at_call 168; refine (made_dev h).mono ?_; rintro e w' ⟨rfl, rfl⟩)
    go_ret
    exact ⟨rfl, rfl⟩
  · rw [told_t]
    go_enter Tryz.func176, Tryz.ntmps176
    go_wp2_with (go_at_call 168; refine (made_dev h).mono ?_; rintro e w' ⟨rfl, rfl⟩)
    go_ret
    exact ⟨rfl, rfl⟩

/-- What a call on one block is told first. -/
def reached (n k : Int) (dn : Bool) : Int := if dn then 8 else if k < 0 ∨ n ≤ k then 6 else 0

set_option maxHeartbeats 400000 in
theorem reach_dev {w : World} {p bs bo : Nat} {n a : Int} {dn : Bool} {S O : Tab} (h : Dev w p bs bo n a dn S O) (k : Int) :
    Calls Tryz.prog 174 #[.pointer (some ⟨p, 0, none⟩), .int .i64 k] w fun e w' => e = .returned (.int .i64 (reached n k dn)) ∧ w' = w := by
  have c0 := h.cell0
  cases dn
  · by_cases h1 : k < 0
    · have e1 : reached n k false = 6 := by simp [reached, h1]
      rw [e1]
      go_enter Tryz.func174, Tryz.ntmps174
      go_wp2_with (go_at_call 176; refine (awake_dev h).mono ?_; simp only [told_f]; rintro e w' ⟨rfl, rfl⟩)
      go_ret
      exact ⟨rfl, rfl⟩
    · by_cases h2 : n ≤ k
      · have e1 : reached n k false = 6 := by simp [reached, h2]
        rw [e1]
        go_enter Tryz.func174, Tryz.ntmps174
        go_wp2_with (go_at_call 176; refine (awake_dev h).mono ?_; simp only [told_f]; rintro e w' ⟨rfl, rfl⟩)
        go_ret
        exact ⟨rfl, rfl⟩
      · have e1 : reached n k false = 0 := by simp [reached, h1, h2]
        rw [e1]
        go_enter Tryz.func174, Tryz.ntmps174
        go_wp2_with (go_at_call 176; refine (awake_dev h).mono ?_; simp only [told_f]; rintro e w' ⟨rfl, rfl⟩)
        go_ret
        exact ⟨rfl, rfl⟩
  · go_enter Tryz.func174, Tryz.ntmps174
    go_wp2_with (go_at_call 176; refine (awake_dev h).mono ?_; simp only [told_t]; rintro e w' ⟨rfl, rfl⟩)
    go_ret
    exact ⟨rfl, rfl⟩

/-- Whether the device crashes at the next write or sync; how many are left then. -/
def crash (a : Int) : Bool := a == 1
def left (a : Int) : Int := if a = 0 then 0 else a - 1

set_option maxHeartbeats 400000 in
theorem count_dev {w : World} {p bs bo : Nat} {n a : Int} {S O : Tab} (h : Dev w p bs bo n a false S O) :
    Calls Tryz.prog 175 #[.pointer (some ⟨p, 0, none⟩)] w fun e w' => e = .returned (.int .i64 (told (crash a))) ∧ Dev w' p bs bo n (left a) (crash a) S O ∧ Fr [p] w w' := by
  have c2 := h.cell2
  have c1 := h.cell1
  have f2 := h.frozen 2
  have f1 := h.frozen 1
  have a1 := h.a1
  have a2 := h.a2
  by_cases h0 : a = 0
  · subst h0
    have e1 : told (crash 0) = 0 := rfl
    have e2 : crash 0 = false := rfl
    have e3 : left 0 = 0 := rfl
    rw [e1, e2, e3]
    go_enter Tryz.func175, Tryz.ntmps175
    go_wp2
    go_ret
    exact ⟨rfl, h, Fr.refl _ _⟩
  · have hb : (a == 0) = false := by simpa using h0
    have d2 := (h.setAhead (a - 1) (by omega) (by omega))
    have el : left a = a - 1 := by simp [left, h0]
    rw [el]
    have fr1 : Fr [p] w (w.setCell ⟨p, 2, none⟩ (.int .i64 (a - 1))) := (Fr.refl _ _).setCell _ _ (by simp)
    by_cases h1 : a = 1
    · subst h1
      have d3 := d2.setDown true
      have fr3 := fr1.setCell ⟨p, 1, none⟩ (.bool true) (by simp)
      have e1 : told (crash 1) = 8 := rfl
      have e2 : crash 1 = true := rfl
      rw [e1, e2]
      clear d2 fr1 el e1 e2
      go_enter Tryz.func175, Tryz.ntmps175
      go_wp2
      go_ret
      exact ⟨rfl, d3, fr3⟩
    · have hc : crash a = false := by simpa [crash] using h1
      rw [hc]
      have e1 : told false = 0 := rfl
      rw [e1]
      clear e1 el hc
      have hp : 0 < a - 1 := by omega
      go_enter Tryz.func175, Tryz.ntmps175
      go_wp2
      go_ret
      exact ⟨rfl, d2, fr1⟩

set_option maxHeartbeats 400000 in
theorem new_raw (k : Int) (w : World) (h1 : ¬ k < 1) (h2 : ¬ 65536 < k) : Calls Tryz.prog 70 #[.int .i64 k] w fun e w' =>
    e = .returned (.pointer (some ⟨w.heap.size + 2, 0, none⟩)) ∧ w' = ((w.alloc (.map #[] 0)).alloc (.map #[] 0)).alloc (.cells #[.int .i64 k, .bool false, .int .i64 0, .map (some w.heap.size), .map (some (w.heap.size + 1))] 168) := by
  have hmm := @run_makeMap Tryz.prog
  go_enter Tryz.func70, Tryz.ntmps70
  go_wp2
  go_ret
  exact ⟨rfl, rfl⟩

theorem new_dev (k : Int) (w : World) (h1 : 1 ≤ k) (h2 : k ≤ 65536) : Calls Tryz.prog 70 #[.int .i64 k] w fun e w' =>
    e = .returned (.pointer (some ⟨w.heap.size + 2, 0, none⟩)) ∧ Dev w' (w.heap.size + 2) w.heap.size (w.heap.size + 1) k 0 false Tab.none Tab.none ∧ Fr [] w w' := by
  refine (new_raw k w (by omega) (by omega)).mono ?_
  rintro e w' ⟨rfl, rfl⟩
  have t1 := tabAt.made w
  have t2 := tabAt.made (w.alloc (.map #[] 0))
  have s1 : (w.alloc (.map #[] 0)).heap.size = w.heap.size + 1 := by simp
  rw [s1] at t2
  have s2 : ((w.alloc (.map #[] 0)).alloc (.map #[] 0)).heap.size = w.heap.size + 2 := by simp
  have hc := heap_alloc_new ((w.alloc (.map #[] 0)).alloc (.map #[] 0)) (.cells #[.int .i64 k, .bool false, .int .i64 0, .map (some w.heap.size), .map (some (w.heap.size + 1))] 168)
  rw [s2] at hc
  refine ⟨rfl, ⟨hc, ?_, ?_, by omega, by omega, by omega, h1, h2, by omega, by omega⟩, (((Fr.refl _ _).alloc _).alloc _).alloc _⟩
  · exact t1.kept (((Fr.refl [] _).alloc _).alloc _) (by simp)
  · exact t2.kept ((Fr.refl [] _).alloc _) (by simp)

set_option maxHeartbeats 400000 in
theorem blocks_dev {w : World} {p bs bo : Nat} {n a : Int} {dn : Bool} {S O : Tab} (h : Dev w p bs bo n a dn S O) : Calls Tryz.prog 120 #[.pointer (some ⟨p, 0, none⟩)] w fun e w' => e = .returned (.int .i64 n) ∧ w' = w := by
  have c0 := h.cell0
  go_enter Tryz.func120, Tryz.ntmps120
  go_wp2_with (go_at_call 168; refine (made_dev h).mono ?_; rintro e w' ⟨rfl, rfl⟩)
  go_ret
  exact ⟨rfl, rfl⟩

def armed (k : Int) : Int := if k < 0 then 0 else k

end Go.Proofs.YthajipigppndgaaGreat.Dv

namespace Go.Proofs.YthajipigppndgaaGreat.Dv
open Go.RowKit Go.Maps

theorem arr_one (l : List UInt8) : ∀ v ∈ (arr l).toList, v.oneCell' = true := by
  intro v hv
  simp [arr] at hv
  obtain ⟨b, _, rfl⟩ := hv
  rfl
theorem arr_all (l : List UInt8) : (arr l).all (·.oneCell') = true := by
  rw [Array.all_eq_true_iff_forall_mem]
  intro v hv
  exact arr_one l v (by simpa using hv)
theorem arr_at (l : List UInt8) (j : Nat) : (arr l)[j]? = l[j]?.map fun b => Value.int .u8 b.toNat := by simp [arr]

theorem size5 : (Tryz.prog.info? 5).map (·.size) = some 1 := by kernel_rfl

section
variable {ops : Array Oper} {rest : List Oper} {o : Oper} {a : Act} {w : World} {Q : Exit → Act → World → Prop}

/-- A block of bytes: an array, or what a slice lies over. -/
def Blk (w : World) (g : Nat) (t : TypeId) (l : List UInt8) : Prop := w.heap[g]? = some (.cells (arr l) t)

theorem Blk.kept {w w' : World} {g : Nat} {t : TypeId} {l : List UInt8} {L : List Nat} (h : Blk w g t l) (k : Fr L w w') (hg : g ∉ L) : Blk w' g t l := k.same hg h
theorem Blk.lt {w : World} {g : Nat} {t : TypeId} {l : List UInt8} (h : Blk w g t l) : g < w.heap.size := (Array.getElem?_eq_some_iff.1 h).1

theorem wp_alloc72 (hgd : o.guard = none) (ho : o.op = .alloc 219)
    (h : ∀ w', Blk w' w.heap.size 219 zeros → Fr [] w w' → w.heap.size < w'.heap.size → wpList Tryz.prog ops Q rest (a.put o.dst (.pointer (some ⟨w.heap.size, 0, none⟩))) w') : wpList Tryz.prog ops Q (o :: rest) a w :=
  wpList_plain hgd fun K hK => by
    unfold Oper.wp execOp
    simp [ho, run_alloc72 w, Result.andThen]
    exact hK _ _ (h _ (heap_alloc_new w _) ((Fr.refl _ _).alloc _) (by simp))

theorem wp_make512 (hgd : o.guard = none) (ho : o.op = .makeSlice 26 (.const (.int .i64 512)) (.const (.int .i64 512)))
    (h : ∀ w', Blk w' w.heap.size 5 zeros → Fr [] w w' → w.heap.size < w'.heap.size → wpList Tryz.prog ops Q rest (a.put o.dst (.slice (some ⟨w.heap.size, 0, none⟩) 512 512)) w') : wpList Tryz.prog ops Q (o :: rest) a w :=
  wpList_plain hgd fun K hK => by
    unfold Oper.wp execOp
    simp [ho, Act.eval, mk512 w, Result.andThen]
    exact hK _ _ (h _ (heap_alloc_new w _) ((Fr.refl _ _).alloc _) (by simp))

theorem wp_store72 (hgd : o.guard = none) (x y : Operand) (ho : o.op = .store 219 x y) (g : Nat) (l l' : List UInt8) (hx : a.eval x = .pointer (some ⟨g, 0, none⟩)) (hy : a.eval y = .agg (arr l'))
    (hg : Blk w g 219 l) (hl : l.length = 512) (hl' : l'.length = 512)
    (h : ∀ w', Blk w' g 219 l' → Fr [g] w w' → wpList Tryz.prog ops Q rest (a.put o.dst undef) w') : wpList Tryz.prog ops Q (o :: rest) a w :=
  wpList_store_row hgd 219 x y ho g (arr l') hx hy 219 (arr l) hg (by rw [size72, arr_size, hl']) (by rw [arr_size, arr_size, hl, hl']) (arr_all l')
    (h _ (setRow_heap w g _ _ _ _ hg) ⟨rfl, rfl, rfl, by simp, fun i _ hn => setRow_other w g i _ (fun e => hn (by simp [e]))⟩)

/-- copy of a whole block of 512 bytes over another one. -/
theorem wp_copy512 (hgd : o.guard = none) (d s : Operand) (ho : o.op = .call { callee := .builtin .copy, args := #[d, s], argTypes := #[26, 26] }) (g b off c1 c2 : Nat) (t : TypeId) (l l' : List UInt8)
    (hd : a.eval d = .slice (some ⟨g, 0, none⟩) 512 c1) (hs : a.eval s = .slice (some ⟨b, off, none⟩) 512 c2) (hg : Blk w g t l) (hl : l.length = 512) (hl' : l'.length = 512)
    (hsrc : ∀ j v, (arr l').toList[j]? = some v → w.cell? ⟨b, off + j, none⟩ = some v)
    (h : ∀ w', Blk w' g t l' → Fr [g] w w' → wpList Tryz.prog ops Q rest (a.put o.dst (goInt 512)) w') : wpList Tryz.prog ops Q (o :: rest) a w := by
  have hln : (arr l').toList.length = 512 := by simp [arr, hl']
  refine wpList_copy_own hgd d s 26 26 ho 5 Tryz.underlying26 size5 g 0 512 c1 ⟨b, off, none⟩ 512 c2 hd hs (arr l) t hg (arr l').toList (by rw [hln]; rfl) ?_ (by rw [hln, arr_size, hl]; omega) (arr_one l') ?_
  · intro j v hv
    rw [Addr.add_mid]
    exact hsrc j v hv
  · have e : (List.take 0 (arr l).toList ++ ((arr l').toList ++ List.drop (0 + (arr l').toList.length) (arr l).toList)).toArray = arr l' := by
      rw [hln, List.drop_of_length_le (by simp [arr, hl])]
      simp
    rw [e, hln]
    exact h _ (setRow_heap w g _ (arr l') t _ hg) ⟨rfl, rfl, rfl, by simp, fun i _ hn => setRow_other w g i _ (fun e => hn (by simp [e]))⟩

theorem Blk.src {w : World} {g : Nat} {t : TypeId} {l : List UInt8} (h : Blk w g t l) : ∀ j v, (arr l).toList[j]? = some v → w.cell? ⟨g, 0 + j, none⟩ = some v := by
  intro j v hv
  rw [Nat.zero_add, cell_of_row w g j _ _ _ h]
  simpa using hv

/-! ### the maps of blocks -/
theorem wp_look_ok (hgd : o.guard = none) (m x : Operand) (ho : o.op = Op.lookup 166 m x true) (b : Nat) (S : Tab) (k : Int) (hk : (Lit.int .i64 k).wf = true) (hm : a.eval m = .map (some b)) (hx : a.eval x = .int .i64 k) (ht : tabAt w b S)
    (h : wpList Tryz.prog ops Q rest (a.put o.dst (.tuple #[.agg (arr (S.get k)), .bool (S k).isSome])) w) : wpList Tryz.prog ops Q (o :: rest) a w := by
  obtain ⟨D, hown, hs⟩ := ht
  refine wpList_lookup_own_ok w hgd m x 166 ho 3 219 law3 Tryz.underlying166 rdArr (zero72 w) (.held zeros) [] (rdArr_mk zeros_length) b 65536 D hm hown _ _ hx (keyOf_int_mk Tryz.underlying3 hk) ?_
  intro v ps hv
  obtain ⟨l, hl, rfl, hz⟩ := rdArr_inv hv
  rw [hs.atKey] at hz
  simp only [Prod.mk.injEq, DataW.held.injEq] at hz
  rw [← hz.1, hs.has]
  exact h

theorem wp_look (hgd : o.guard = none) (m x : Operand) (ho : o.op = Op.lookup 166 m x false) (b : Nat) (S : Tab) (k : Int) (hk : (Lit.int .i64 k).wf = true) (hm : a.eval m = .map (some b)) (hx : a.eval x = .int .i64 k) (ht : tabAt w b S)
    (h : wpList Tryz.prog ops Q rest (a.put o.dst (.agg (arr (S.get k)))) w) : wpList Tryz.prog ops Q (o :: rest) a w := by
  obtain ⟨D, hown, hs⟩ := ht
  refine wpList_plain hgd fun K' hK' => ?_
  obtain ⟨v, ps, hrun, hv⟩ := hown.lookup law3 Tryz.underlying166 (zero72 w) (rdArr_mk zeros_length) (keyOf_int_mk Tryz.underlying3 hk)
  obtain ⟨l, hl, rfl, hz⟩ := rdArr_inv hv
  rw [hs.atKey] at hz
  simp only [Prod.mk.injEq, DataW.held.injEq] at hz
  unfold Oper.wp
  simp [execOp, ho, hm, hx, hrun, Result.andThen]
  rw [← hz.1]
  exact hK' _ _ h

/-- The store into a table, as a run. -/
theorem run_tab_put {w : World} {b : Nat} {S : Tab} (ht : tabAt w b S) {k : Int} (h0 : 0 ≤ k) (h1 : k < 65536) {l : List UInt8} (hl : l.length = 512) :
    ∃ w', (Instr.mapUpdate 166 (.map (some b)) (.int .i64 k) (.agg (arr l))).run Tryz.prog w = .ok () w' ∧ tabAt w' b (S.put k l) ∧ Fr [b] w w' := by
  obtain ⟨D, hown, hs⟩ := ht
  have hk : (Lit.int .i64 k).wf = true := WalkArith.wf_i64 (by omega)
  obtain ⟨w', hrun, hown', hturn⟩ := hown.store law3 Tryz.underlying166 (by unfold maxLen; omega) (keyOf_int_mk Tryz.underlying3 hk) (rdArr_mk hl)
  have hs' := hs.put hown.isMap hl h0 h1
  exact ⟨w', hrun, ⟨_, owns_small hown' hs', hs'⟩, (Fr.refl _ _).grown hturn.grown (fun j e _ => by simp at e; simp [e])⟩

/-- clear. -/
theorem run_tab_clear {w : World} {b : Nat} {S : Tab} (ht : tabAt w b S) (ty : TypeId) :
    ∃ w', (Builtin.clear_ #[166] ty #[.map (some b)]).run Tryz.prog w = .ok (.tuple #[]) w' ∧ tabAt w' b Tab.none ∧ Fr [b] w w' := by
  obtain ⟨D, ⟨es, clock, hb, F, hn, hD⟩, hs⟩ := ht
  refine ⟨ChangeMaps.setBlock w b (.map #[] clock), ?_, ⟨.map [], ⟨#[], clock, ChangeMaps.heap_setBlock_same hb _, ⟨by simp, MapKept.stamped_empty clock, by simp⟩, by simp, rfl⟩, Says.none⟩, ⟨rfl, rfl, rfl, by simp [ChangeMaps.setBlock], fun i _ hi => ChangeMaps.heap_setBlock_other hb _ (by simpa using hi)⟩⟩
  simp [Builtin.clear_, run_underlying Tryz.underlying166, MapKept.run_getObj_map hb, MapKept.run_setObj_map _ hb, Result.andThen, ChangeMaps.setBlock]

theorem wp_clear (hgd : o.guard = none) (m : Operand) (ho : o.op = Op.call { callee := Callee.builtin Builtin.clear, args := #[m], argTypes := #[166] }) (b : Nat) (S : Tab) (hm : a.eval m = .map (some b)) (ht : tabAt w b S)
    (h : ∀ w', tabAt w' b Tab.none → Fr [b] w w' → wpList Tryz.prog ops Q rest (a.put o.dst (.tuple #[])) w') : wpList Tryz.prog ops Q (o :: rest) a w := by
  refine wpList_plain hgd fun K' hK' => ?_
  obtain ⟨w', hrun, r1, r2⟩ := run_tab_clear ht o.type
  unfold Oper.wp
  simp [execOp, ho, resolve, invoke, builtin, hm, hrun, Result.andThen]
  exact hK' _ _ (h w' r1 r2)

end
end Go.Proofs.YthajipigppndgaaGreat.Dv

namespace Go.Proofs.YthajipigppndgaaGreat.Dv
open Go.RowKit Go.Maps

/-- The latest bytes of a block. -/
def latest (S O : Tab) (k : Int) : List UInt8 := (O k).getD (S.get k)

theorem Dev.fresh {w w1 w2 : World} {p bs bo : Nat} {n a : Int} {dn : Bool} {S O : Tab} {g : Nat} (h : Dev w p bs bo n a dn S O) (d1 : Dev w1 p bs bo n a dn S O) (hg : w.heap.size ≤ g) (f : Fr [g] w1 w2) : Dev w2 p bs bo n a dn S O := by
  have := h.lt
  exact d1.kept f (by simp; omega) (by simp; omega) (by simp; omega)

theorem tabAt.get_length {w : World} {b : Nat} {S : Tab} (h : tabAt w b S) (k : Int) : (S.get k).length = 512 := by
  obtain ⟨D, _, hs⟩ := h; exact hs.get_length k

set_option maxHeartbeats 1000000 in
set_option maxRecDepth 100000 in
theorem read_open {w : World} {p bs bo : Nat} {n a : Int} {S O : Tab} (h : Dev w p bs bo n a false S O) (k : Int) (h0 : 0 ≤ k) (h1 : k < n) (hO : (O k).isSome = true) :
    Calls Tryz.prog 170 #[.pointer (some ⟨p, 0, none⟩), .int .i64 k] w fun e w' => ∃ g, e = .returned (.tuple #[.slice (some ⟨g, 0, none⟩) 512 512, .int .i64 0]) ∧ Blk w' g 5 (O.get k) ∧ w.heap.size ≤ g ∧ Fr [] w w' := by
  have hr : reached n k false = 0 := by simp [reached]; omega
  have hn2 := h.n2
  have hk : (Lit.int .i64 k).wf = true := WalkArith.wf_i64 (by omega)
  have c4 := h.cell4
  go_enter Tryz.func170, Tryz.ntmps170
  go_wp2_with (first
    | (go_at_call 174; refine (reach_dev h k).mono ?_; rw [hr]; rintro e w ⟨rfl, rfl⟩)
    | (refine wp_look_ok rfl _ _ rfl bo O k hk rfl rfl h.opn ?_)
    | (refine wp_alloc72 rfl rfl ?_; intro w1 b1 f1 s1)
    | (refine wp_store72 rfl _ _ rfl _ zeros (O.get k) rfl rfl b1 zeros_length (h.opn.get_length k) ?_; intro w2 b2 f2)
    | (refine wp_make512 rfl rfl ?_; intro w3 b3 f3 s3)
    | (refine wp_copy512 rfl _ _ rfl _ _ 0 _ _ 5 zeros (O.get k) rfl rfl b3 zeros_length (h.opn.get_length k) (b2.kept f3 (by simp)).src ?_; intro w4 b4 f4)
    | go_in)
  go_ret2
  exact ⟨_, rfl, b4, by have := f2.size; omega, ((f1.then f2 (fun i hi hm => by simp at hm; omega)).trans f3).then f4 (fun i hi hm => by have := f2.size; simp at hm; omega)⟩

set_option maxHeartbeats 1000000 in
set_option maxRecDepth 100000 in
theorem read_safe {w : World} {p bs bo : Nat} {n a : Int} {S O : Tab} (h : Dev w p bs bo n a false S O) (k : Int) (h0 : 0 ≤ k) (h1 : k < n) (hO : (O k).isSome = false) :
    Calls Tryz.prog 170 #[.pointer (some ⟨p, 0, none⟩), .int .i64 k] w fun e w' => ∃ g, e = .returned (.tuple #[.slice (some ⟨g, 0, none⟩) 512 512, .int .i64 0]) ∧ Blk w' g 5 (S.get k) ∧ w.heap.size ≤ g ∧ Fr [] w w' := by
  have hr : reached n k false = 0 := by simp [reached]; omega
  have hn2 := h.n2
  have hk : (Lit.int .i64 k).wf = true := WalkArith.wf_i64 (by omega)
  have c4 := h.cell4
  go_enter Tryz.func170, Tryz.ntmps170
  go_wp2_with (first
    | (go_at_call 174; refine (reach_dev h k).mono ?_; rw [hr]; rintro e w ⟨rfl, rfl⟩)
    | (refine wp_look_ok rfl _ _ rfl bo O k hk rfl rfl h.opn ?_)
    | (refine wp_alloc72 rfl rfl ?_; intro w1 b1 f1 s1; have d1 := h.kept f1 (by simp) (by simp) (by simp))
    | (refine wp_store72 rfl _ _ rfl _ zeros (O.get k) rfl rfl b1 zeros_length (h.opn.get_length k) ?_; intro w2 b2 f2; have d2 := h.fresh d1 (Nat.le_refl _) f2; have c3 := d2.cell3)
    | (refine wp_look rfl _ _ rfl bs S k hk rfl rfl d2.safe ?_)
    | (refine wp_store72 rfl _ _ rfl _ (O.get k) (S.get k) rfl rfl b2 (h.opn.get_length k) (h.safe.get_length k) ?_; intro w2' b2' f2')
    | (refine wp_make512 rfl rfl ?_; intro w3 b3 f3 s3)
    | (refine wp_copy512 rfl _ _ rfl _ _ 0 _ _ 5 zeros (S.get k) rfl rfl b3 zeros_length (h.safe.get_length k) (b2'.kept f3 (by simp)).src ?_; intro w4 b4 f4)
    | go_in)
  go_ret2
  exact ⟨_, rfl, b4, by have := f2.size; have := f2'.size; omega, (((f1.then f2 (fun i hi hm => by simp at hm; omega)).then f2' (fun i hi hm => by simp at hm; omega)).trans f3).then f4 (fun i hi hm => by have := f2.size; have := f2'.size; simp at hm; omega)⟩

theorem read_dev {w : World} {p bs bo : Nat} {n a : Int} {S O : Tab} (h : Dev w p bs bo n a false S O) (k : Int) (h0 : 0 ≤ k) (h1 : k < n) :
    Calls Tryz.prog 170 #[.pointer (some ⟨p, 0, none⟩), .int .i64 k] w fun e w' => ∃ g, e = .returned (.tuple #[.slice (some ⟨g, 0, none⟩) 512 512, .int .i64 0]) ∧ Blk w' g 5 (latest S O k) ∧ w.heap.size ≤ g ∧ Fr [] w w' := by
  cases hO : O k with
  | none =>
    have e : latest S O k = S.get k := by simp [latest, hO]
    rw [e]
    exact read_safe h k h0 h1 (by rw [hO]; rfl)
  | some l =>
    have e : latest S O k = O.get k := by simp [latest, hO, Tab.get]
    rw [e]
    exact read_open h k h0 h1 (by rw [hO]; rfl)

end Go.Proofs.YthajipigppndgaaGreat.Dv

