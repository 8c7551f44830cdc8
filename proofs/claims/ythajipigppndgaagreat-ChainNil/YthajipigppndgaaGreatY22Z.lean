/-
  Pages as bytes: cells one behind the other, and noughts behind them: plain mathematics, no program.
-/
import Derived.WalkKit
import Derived.Laws.BitsAllLaws
import Derived.Test.YthajipigppndgaaGreatProg
import Derived.WalkSpells
import Derived.WalkLawsBesides
import Derived.Laws.CopyRow
import Derived.Laws.CopyOwn
import Derived.Laws.Rows
import Derived.Laws.MakeOwn
import Derived.Laws.BytesArg
import Derived.Laws.RangeString
import Derived.Lib.AppendStr
import Derived.Deep.MidRow
import Derived.Deep.RegionHeld3
import Derived.Deep.DrawnRows
import Derived.Deep.QuietTactic
import Derived.BigQuiet
import Derived.Maps.OwnSet
import Derived.Deep.AppendLies
import Derived.Laws.AppendOwnNone
namespace Go.Proofs.YthajipigppndgaaGreat.Pg

def byteAt (l : List UInt8) (k : Nat) : UInt8 := l.getD k 0
/-- The bit at a place of packed bytes. -/
def bitAt (l : List UInt8) (i : Nat) : Bool := (byteAt l (i / 8)).toNat.testBit (7 - i % 8)

theorem byteAt_lt {l : List UInt8} {k : Nat} (h : k < l.length) : byteAt l k = l[k] := by simp [byteAt, h]
theorem byteAt_ge {l : List UInt8} {k : Nat} (h : l.length ≤ k) : byteAt l k = 0 := by simp [byteAt, h]
theorem bitAt_ge {l : List UInt8} {i : Nat} (h : 8 * l.length ≤ i) : bitAt l i = false := by
  unfold bitAt
  rw [byteAt_ge (by omega)]
  simp
/-! ### single bytes -/
def andNot (x y : UInt8) : UInt8 := UInt8.ofNat (x.toNat &&& (255 - y.toNat))
/-! ### the walk's own forms -/
/-! ### rows -/
def bl (s : ByteArray) : List UInt8 := s.data.toList
theorem bl_length (s : ByteArray) : (bl s).length = s.size := rfl
def mkS (l : List UInt8) : ByteArray := ⟨l.toArray⟩
theorem bl_mkS (l : List UInt8) : bl (mkS l) = l := rfl
theorem mkS_size (l : List UInt8) : (mkS l).size = l.length := rfl
theorem get_byteAt (s : ByteArray) (k : Nat) (h : k < s.size) : s[k] = byteAt (bl s) k := by
  rw [byteAt_lt (by rw [bl_length]; exact h)]
  rfl

/-- A string and a length say a row of bits. -/
structure Rep (s : ByteArray) (n : Nat) (r : List Bool) : Prop where
  len : r.length = n
  most : n ≤ 1048576
  size : s.size = (n + 7) / 8
  bit : ∀ i, bitAt (bl s) i = r.getD i false

theorem Rep.of {l : List UInt8} {r : List Bool} (hn : r.length ≤ 1048576) (hl : l.length = (r.length + 7) / 8) (h : ∀ i, i < 8 * l.length → bitAt l i = r.getD i false) : Rep (mkS l) r.length r :=
  ⟨rfl, hn, by rw [mkS_size]; exact hl, fun i => by
    rw [bl_mkS]
    by_cases hi : i < 8 * l.length
    · exact h i hi
    · rw [bitAt_ge (by omega)]
      simp only [List.getD_eq_getElem?_getD]
      rw [List.getElem?_eq_none (by omega)]
      rfl⟩
theorem Rep.inj {s : ByteArray} {n : Nat} {r q : List Bool} (h : Rep s n r) (k : Rep s n q) : r = q := by
  apply List.ext_getElem (h.len.trans k.len.symm)
  intro i h1 h2
  have := (h.bit i).symm.trans (k.bit i)
  simpa [h1, h2] using this
theorem Rep.empty : Rep (mkS []) 0 [] := ⟨rfl, by omega, rfl, fun i => by rw [bl_mkS]; simp [bitAt, byteAt]⟩

end Go.Proofs.YthajipigppndgaaGreat.Pg

namespace Go.Proofs.YthajipigppndgaaGreat.Pg
open Go.RowKit Go.Maps

/-! ### what stays as it was -/
/-- Nothing but the listed blocks, and new ones, has turned. -/
structure Fr (L : List Nat) (w w' : World) : Prop where
  os : w'.os = w.os
  tape : w'.tape = w.tape
  output : w'.output = w.output
  size : w.heap.size ≤ w'.heap.size
  block : ∀ k, k < w.heap.size → k ∉ L → w'.heap[k]? = w.heap[k]?

theorem Fr.refl (L : List Nat) (w : World) : Fr L w w := ⟨rfl, rfl, rfl, Nat.le_refl _, fun _ _ _ => rfl⟩
theorem Fr.trans {L : List Nat} {a b c : World} (h : Fr L a b) (k : Fr L b c) : Fr L a c :=
  ⟨k.os.trans h.os, k.tape.trans h.tape, k.output.trans h.output, Nat.le_trans h.size k.size, fun i hi hn => (k.block i (Nat.lt_of_lt_of_le hi h.size) hn).trans (h.block i hi hn)⟩
theorem Fr.mono {L M : List Nat} {a b : World} (h : Fr L a b) (hs : ∀ k, k < a.heap.size → k ∈ L → k ∈ M) : Fr M a b :=
  ⟨h.os, h.tape, h.output, h.size, fun i hi hn => h.block i hi (fun e => hn (hs i hi e))⟩
/-- What comes behind may turn blocks that were not there at first. -/
theorem Fr.then {L M : List Nat} {a b c : World} (h : Fr L a b) (k : Fr M b c) (hs : ∀ i, i < a.heap.size → i ∈ M → i ∈ L) : Fr L a c :=
  ⟨k.os.trans h.os, k.tape.trans h.tape, k.output.trans h.output, Nat.le_trans h.size k.size, fun i hi hn => (k.block i (Nat.lt_of_lt_of_le hi h.size) (fun e => hn (hs i hi e))).trans (h.block i hi hn)⟩
theorem Fr.alloc {L : List Nat} {a b : World} (h : Fr L a b) (o : Obj) : Fr L a (b.alloc o) :=
  h.then (M := []) ⟨rfl, rfl, rfl, by simp, fun _ hi _ => heap_alloc_old b o hi⟩ (fun _ _ e => nomatch e)
theorem Fr.drew {L : List Nat} {a b : World} (h : Fr L a b) : Fr L a b.drew := ⟨h.os, h.tape, h.output, h.size, h.block⟩
theorem Fr.drewN {L : List Nat} {a b : World} (h : Fr L a b) (n : Nat) : Fr L a (b.drewN n) := by
  induction n with
  | zero => exact h
  | succ n ih => exact ih.drew
theorem Fr.setCell {L : List Nat} {a b : World} (h : Fr L a b) (x : Addr) (v : Value) (hx : x.block < a.heap.size → x.block ∈ L) : Fr L a (b.setCell x v) :=
  ⟨h.os, h.tape, h.output, by simpa [World.setCell] using h.size, fun i hi hn => (heap_setCell_other b x i v (fun e => hn (e ▸ hx (e ▸ hi)))).trans (h.block i hi hn)⟩
theorem Fr.grown {L : List Nat} {a b c : World} {row : Option Nat} (h : Fr L a b) (k : b.grownBy c row) (hx : ∀ j, row = some j → j < a.heap.size → j ∈ L) : Fr L a c :=
  ⟨k.os.trans h.os, k.tape.trans h.tape, k.output.trans h.output, Nat.le_trans h.size k.size, fun i hi hn => (k.block i (Nat.lt_of_lt_of_le hi h.size) (fun e => hn (hx i e.symm hi))).trans (h.block i hi hn)⟩
theorem Fr.same {L : List Nat} {a b : World} (h : Fr L a b) {k : Nat} (hk : k ∉ L) {o : Obj} (ho : a.heap[k]? = some o) : b.heap[k]? = some o :=
  (h.block k (Array.getElem?_eq_some_iff.1 ho).1 hk).trans ho

/-! ### bytes in memory -/
/-- The value of a row of bytes. -/
def arr (l : List UInt8) : Array Value := (l.map fun b => Value.int .u8 b.toNat).toArray
theorem arr_size (l : List UInt8) : (arr l).size = l.length := by simp [arr]
theorem arr_one (l : List UInt8) : ∀ v ∈ (arr l).toList, v.oneCell' = true := by
  intro v hv
  simp [arr] at hv
  obtain ⟨b, _, rfl⟩ := hv
  rfl
theorem arr_at (l : List UInt8) (j : Nat) : (arr l)[j]? = l[j]?.map fun b => Value.int .u8 b.toNat := by simp [arr]
theorem arr_append (l m : List UInt8) : (arr l).toList ++ (arr m).toList = (arr (l ++ m)).toList := by simp [arr]

theorem size5 : (Tryz.prog.info? 5).map (·.size) = some 1 := by kernel_rfl
theorem info5 : (Tryz.prog.info? 5).map (fun i => (i.zero, i.size, i.bytes)) = some (some (.int .u8 0), 1, 1) := by kernel_rfl
theorem info5' : ∃ i, Tryz.prog.info? 5 = some i ∧ i.zero = some (.int .u8 0) ∧ i.size = 1 ∧ i.bytes = 1 := by
  have h := info5
  cases hi : Tryz.prog.info? 5 with
  | none => rw [hi] at h; cases h
  | some i =>
    rw [hi] at h
    simp at h
    exact ⟨i, rfl, h.1, h.2.1, h.2.2⟩

/-- A block of bytes. -/
def Blk (w : World) (g : Nat) (l : List UInt8) : Prop := w.heap[g]? = some (.cells (arr l) 5)
theorem Blk.kept {w w' : World} {g : Nat} {l : List UInt8} {L : List Nat} (h : Blk w g l) (k : Fr L w w') (hg : g ∉ L) : Blk w' g l := k.same hg h
theorem Blk.lt {w : World} {g : Nat} {l : List UInt8} (h : Blk w g l) : g < w.heap.size := (Array.getElem?_eq_some_iff.1 h).1
theorem Blk.cell {w : World} {g : Nat} {l : List UInt8} (h : Blk w g l) (j : Nat) (hj : j < l.length) : w.cell? ⟨g, j, none⟩ = some (.int .u8 (byteAt l j).toNat) := by
  rw [cell_of_row w g j _ _ _ h, arr_at, List.getElem?_eq_getElem hj, byteAt_lt hj]; rfl
theorem Blk.frozen {w : World} {g : Nat} {l : List UInt8} (h : Blk w g l) (j : Nat) : w.frozen? ⟨g, j, none⟩ = false := frozen_of_row w g j _ _ h
theorem Blk.set {w : World} {g : Nat} {l : List UInt8} (h : Blk w g l) (j : Nat) (b : UInt8) : Blk (w.setCell ⟨g, j, none⟩ (.int .u8 b.toNat)) g (l.set j b) := by
  have := heap_setCell_same w g j _ _ (.int .u8 b.toNat) h
  unfold Blk
  rw [this]
  simp [arr, List.map_set]
theorem Blk.drew {w : World} {g : Nat} {l : List UInt8} (h : Blk w g l) : Blk w.drew g l := h

/-- A slice of bytes in memory: its bytes. -/
def BytesAt (w : World) (ad : Option Addr) (l : List UInt8) : Prop := ∀ j v, (arr l).toList[j]? = some v → ∃ b off, ad = some ⟨b, off, none⟩ ∧ w.cell? ⟨b, off + j, none⟩ = some v
theorem Blk.bytes {w : World} {g : Nat} {l : List UInt8} (h : Blk w g l) : BytesAt w (some ⟨g, 0, none⟩) l := fun j v hv => ⟨g, 0, rfl, by
  rw [Nat.zero_add, cell_of_row w g j _ _ _ h]
  simpa using hv⟩
theorem BytesAt.nil (w : World) (ad : Option Addr) : BytesAt w ad [] := fun j v hv => by simp [arr] at hv
theorem BytesAt.kept {w w' : World} {ad : Option Addr} {l : List UInt8} {L : List Nat} (h : BytesAt w ad l) (k : Fr L w w') (hL : ∀ b off, ad = some ⟨b, off, none⟩ → b ∉ L) : BytesAt w' ad l := by
  intro j v hv
  obtain ⟨b, off, ha, hc⟩ := h j v hv
  exact ⟨b, off, ha, (World.cell?_of_block (k.block b (block_lt_of_cell hc) (hL b off ha))).trans hc⟩
theorem BytesAt.at {w : World} {ad : Option Addr} {l : List UInt8} (h : BytesAt w ad l) (j : Nat) (hj : j < l.length) : ∃ b off, ad = some ⟨b, off, none⟩ ∧ w.cell? ⟨b, off + j, none⟩ = some (.int .u8 (byteAt l j).toNat) :=
  h j _ (by rw [byteAt_lt hj]; simp [arr, hj])

set_option maxRecDepth 100000
/-! ### laws at the operations -/
section
variable {ops : Array Oper} {rest : List Oper} {o : Oper} {a : Act} {w : World} {Q : Exit → Act → World → Prop}

theorem arr_zeros (n : Nat) : madeCells (Value.int .u8 0).cells n = arr (List.replicate n 0) := by
  unfold madeCells arr
  apply Array.ext'
  simp [Value.cells]
  apply List.ext_getElem
  · simp
  · intro i h1 h2
    simp [Nat.mod_one]

theorem wp_make (hgd : o.guard = none) (x y : Operand) (ho : o.op = .makeSlice 26 x y) (n : Nat) (hx : a.eval x = .int .i64 (n : Int)) (hy : a.eval y = .int .i64 (n : Int)) (hn : n ≤ 16777216)
    (h : ∀ w' g, w.heap.size ≤ g → Blk w' g (List.replicate n 0) → Fr [] w w' → wpList Tryz.prog ops Q rest (a.put o.dst (.slice (some ⟨g, 0, none⟩) n n)) w') : wpList Tryz.prog ops Q (o :: rest) a w :=
  wpList_plain hgd fun K hK => by
    obtain ⟨i, hi, hz, hs, hb⟩ := info5'
    have hrun := run_makeSlice (P := Tryz.prog) w 26 5 i (.int .u8 0) Tryz.underlying26 hi hz .i64 .i64 (n : Int) (n : Int) (by omega) (by omega) (by rw [hs]; simpa using hn) (by rw [hb]; omega) (by omega)
    rw [hs, Int.toNat_natCast, Nat.mul_one, arr_zeros] at hrun
    unfold Oper.wp execOp
    simp [ho, hx, hy, hrun, Result.andThen]
    exact hK _ _ (h _ _ (Nat.le_refl _) (heap_alloc_new w _) ((Fr.refl _ _).alloc _))

theorem run_conv (l : List UInt8) (ad : Option Addr) (n c : Nat) (hl : l.length = n) (hb : BytesAt w ad l) (hne : n = 0 → ad = none ∨ ∃ b off, ad = some ⟨b, off, none⟩) :
    (convert 26 9 (.slice ad n c)).run Tryz.prog w = .ok (.string (mkS l)) w := by
  cases ad with
  | none =>
    have : l = [] := by
      cases l with
      | nil => rfl
      | cons x r =>
        obtain ⟨b, off, e, _⟩ := hb.at 0 (by simp)
        cases e
    subst this
    exact run_convert_bytes_nil w 26 5 Tryz.underlying26 Tryz.underlying5 n c 9 Tryz.underlying9
  | some x =>
    obtain ⟨b, off, rfl⟩ : ∃ b off, x = ⟨b, off, none⟩ := by
      by_cases e : n = 0
      · rcases hne e with h | ⟨b, off, h⟩
        · cases h
        · cases h; exact ⟨b, off, rfl⟩
      · obtain ⟨b, off, e, _⟩ := hb.at 0 (by omega)
        cases e
        exact ⟨b, off, rfl⟩
    have := run_convert_bytes_arg (P := Tryz.prog) w 26 5 Tryz.underlying26 Tryz.underlying5 b off n c (l.map fun u => (u.toNat : Int)) (by simpa using hl) (by
      intro i hi
      obtain ⟨b', off', e, hc⟩ := hb.at i (by omega)
      cases e
      rw [hc, byteAt_lt (by omega)]
      simp [hl, hi]) 9 Tryz.underlying9
    rw [this]
    congr 2
    unfold strOfNums mkS
    congr 2
    rw [List.map_map]
    conv => rhs; rw [← List.map_id l]
    apply List.map_congr_left
    intro u _
    simp

/-- The bytes of a string, in memory of their own. -/
structure Packed (w0 w : World) (v : Value) (l : List UInt8) : Prop where
  ex : ∃ ad cap, v = .slice ad l.length cap ∧ ((ad = none ∧ l = [] ∧ cap = 0) ∨ ∃ g cur, ad = some ⟨g, 0, none⟩ ∧ w0.heap.size ≤ g ∧ w.heap[g]? = some (.cells cur 5) ∧ l.length ≤ cap ∧ cur.size = cap ∧ cur.toList.take l.length = (arr l).toList ∧ l ≠ [])

theorem Packed.from {w0 w1 w : World} {v : Value} {l : List UInt8} (h : Packed w1 w v l) (k : Fr [] w0 w1) : Packed w0 w v l := by
  obtain ⟨ad, cap, rfl, h2⟩ := h.ex
  refine ⟨ad, cap, rfl, ?_⟩
  rcases h2 with h2 | ⟨g, cur, e, hg, r⟩
  · exact Or.inl h2
  · exact Or.inr ⟨g, cur, e, Nat.le_trans k.size hg, r⟩
theorem Packed.kept {w0 w w' : World} {v : Value} {l : List UInt8} (h : Packed w0 w v l) (k : Fr [] w w') : Packed w0 w' v l := by
  obtain ⟨ad, cap, rfl, h2⟩ := h.ex
  refine ⟨ad, cap, rfl, ?_⟩
  rcases h2 with h2 | ⟨g, cur, e, hg, hc, r⟩
  · exact Or.inl h2
  · exact Or.inr ⟨g, cur, e, hg, k.same (by simp) hc, r⟩

theorem Packed.bytes {w0 w : World} {v : Value} {l : List UInt8} (h : Packed w0 w v l) : ∃ ad cap, v = .slice ad l.length cap ∧ BytesAt w ad l ∧ (∀ b off, ad = some ⟨b, off, none⟩ → w0.heap.size ≤ b ∧ b < w.heap.size) ∧ (l.length = 0 → ad = none ∨ ∃ b off, ad = some ⟨b, off, none⟩) := by
  obtain ⟨ad, cap, rfl, h2⟩ := h.ex
  refine ⟨ad, cap, rfl, ?_⟩
  rcases h2 with ⟨rfl, rfl, rfl⟩ | ⟨g, cur, rfl, hg, hc, _, _, ht, _⟩
  · exact ⟨BytesAt.nil _ _, (fun _ _ e => nomatch e), fun _ => Or.inl rfl⟩
  · refine ⟨fun j v hv => ⟨g, 0, rfl, ?_⟩, fun b off e => by cases e; exact ⟨hg, (Array.getElem?_eq_some_iff.1 hc).1⟩, fun _ => Or.inr ⟨g, 0, rfl⟩⟩
    rw [Nat.zero_add, cell_of_row w g j _ _ _ hc, ← hv, ← ht]
    have hj : j < l.length := by
      have := (List.getElem?_eq_some_iff.1 hv).1
      simpa [arr] using this
    rw [List.getElem?_take, if_pos hj]
    simp

theorem wp_range (hgd : o.guard = none) (x : Operand) (ho : o.op = .range 9 x) (s : ByteArray) (hx : a.eval x = .string s)
    (h : ∀ w' it, w.heap.size ≤ it → w'.heap[it]? = some (.stringIter s 0) → Fr [] w w' → wpList Tryz.prog ops Q rest (a.put o.dst (.pointer (some ⟨it, 0, none⟩))) w') : wpList Tryz.prog ops Q (o :: rest) a w :=
  wpList_plain hgd fun K hK => by
    have hrun := run_range_string (P := Tryz.prog) w 9 s Tryz.underlying9
    unfold Oper.wp execOp
    simp only [ho, hx, hrun, Result.andThen, Sem.run_bind]
    exact hK _ _ (h _ _ (Nat.le_refl _) (heap_alloc_new w _) ((Fr.refl _ _).alloc _))

/-- ranging over a string: the next character. -/
def IterAt (w : World) (b : Nat) (s : ByteArray) (pos : Nat) : Prop := w.heap[b]? = some (.stringIter s pos)
theorem IterAt.kept {w w' : World} {b : Nat} {s : ByteArray} {pos : Nat} {L : List Nat} (h : IterAt w b s pos) (k : Fr L w w') (hb : b ∉ L) : IterAt w' b s pos := k.same hb h
theorem IterAt.lt {w : World} {b : Nat} {s : ByteArray} {pos : Nat} (h : IterAt w b s pos) : b < w.heap.size := (Array.getElem?_eq_some_iff.1 h).1

theorem decode_high (s : ByteArray) (pos : Nat) (h : pos < s.size) (ha : 128 ≤ (s[pos]'h).toNat) : 128 ≤ (Utf8.decode s pos).1 := by
  have e : s.get! (pos + 0) = s[pos]'h := by
    show s.get! pos = _
    simp [ByteArray.get!, getElem!_pos, h]
    rfl
  have hn : ¬ (s[pos]'h).toNat < 128 := by omega
  simp only [Utf8.decode, e, hn, if_false]
  repeat' split
  all_goals first
    | (simp only [Utf8.runeError]; omega)
    | (rename_i hc; simp only [Bool.and_eq_true, decide_eq_true_eq, ge_iff_le] at hc ⊢; omega)

theorem wp_next (hgd : o.guard = none) (x : Operand) (ho : o.op = .next x true) (b : Nat) (s : ByteArray) (pos : Nat) (hx : a.eval x = .pointer (some ⟨b, 0, none⟩)) (hi : IterAt w b s pos) (hp : pos < s.size)
    (h : ∀ w' c pos', IterAt w' b s pos' → pos < pos' → ((byteAt (bl s) pos).toNat < 128 → c = ((byteAt (bl s) pos).toNat : Int) ∧ pos' = pos + 1) → (128 ≤ (byteAt (bl s) pos).toNat → 128 ≤ c) → Fr [b] w w' → wpList Tryz.prog ops Q rest (a.put o.dst (.tuple #[.bool true, .int .i64 pos, .int .i32 c])) w') : wpList Tryz.prog ops Q (o :: rest) a w :=
  wpList_plain hgd fun K hK => by
    have hi' : w.heap[b]? = some (.stringIter s pos) := hi
    have hrun : (Instr.next (.pointer (some ⟨b, 0, none⟩)) true o.type).run Tryz.prog w = .ok (.tuple #[.bool true, .int .i64 pos, .int .i32 ((Utf8.decode s pos).1 : Int)]) { w with heap := w.heap.setIfInBounds b (.stringIter s (pos + (Utf8.decode s pos).2)) } := by
      simp [Instr.next, getObj, setObj, Sem.run, hi', hp, goInt, Result.andThen]
    unfold Oper.wp execOp
    simp only [ho, hx, hrun, Result.andThen, Sem.run_bind]
    refine hK _ _ (h _ _ (pos + (Utf8.decode s pos).2) ?_ ?_ ?_ ?_ ?_)
    · unfold IterAt
      simp [hi.lt]
    · have : 1 ≤ (Utf8.decode s pos).2 := by
        simp only [Utf8.decode]
        repeat' split
        all_goals simp
      omega
    · intro hlt
      rw [← get_byteAt s pos hp] at hlt ⊢
      rw [decode_ascii s pos hp hlt]
      simp
    · intro hge
      rw [← get_byteAt s pos hp] at hge
      have := decode_high s pos hp hge
      omega
    · exact ⟨rfl, rfl, rfl, by simp, fun i _ hn => by simp at hn; simp [show ¬ b = i from fun e => hn e.symm]⟩

end
end Go.Proofs.YthajipigppndgaaGreat.Pg

namespace Go.Proofs.YthajipigppndgaaGreat.Pg
open Go.RowKit Go.Maps

/-- The mark of a place in a list of bytes. -/
def mB (k i : Int) : Int := IntKind.u64.wrap ((1000003 * (k + 7) + i) * 11400714819323198485) / 72057594037927936 % 256
section
variable {ops : Array Oper} {rest : List Oper} {o : Oper} {a : Act} {w : World} {Q : Exit → Act → World → Prop}

/-- A slice of bytes that is new since w0, with what it holds. -/
def Own (w0 w : World) (v : Value) (n : Nat) (xs : List Value) : Prop := w.ownsRow w0.heap.size 5 1 v n xs ∧ Fr [] w0 w

theorem Own.kept {w0 w w' : World} {v : Value} {n : Nat} {xs : List Value} (h : Own w0 w v n xs) (k : Fr [] w w') : Own w0 w' v n xs := by
  refine ⟨?_, h.2.trans k⟩
  obtain ⟨h1, h2⟩ := h.1
  refine ⟨h1, ?_⟩
  rcases h2 with hn | ⟨g, cap, cur, rfl, hb, hg, r⟩
  · exact Or.inl hn
  · exact Or.inr ⟨g, cap, cur, rfl, hb, k.same (by simp) hg, r⟩

theorem wp_make0 (hgd : o.guard = none) (x y : Operand) (ho : o.op = .makeSlice 26 x y) (c : Nat) (hx : a.eval x = .int .i64 0) (hy : a.eval y = .int .i64 (c : Int)) (hc : c ≤ 1000000) (w0 : World) (f0 : Fr [] w0 w)
    (h : ∀ w', Own w0 w' (.slice (some ⟨w.heap.size, 0, none⟩) 0 c) 0 [] → wpList Tryz.prog ops Q rest (a.put o.dst (.slice (some ⟨w.heap.size, 0, none⟩) 0 c)) w') : wpList Tryz.prog ops Q (o :: rest) a w :=
  wpList_plain hgd fun K hK => by
    obtain ⟨i, hi, hz, hs, hb⟩ := info5'
    obtain ⟨w', hrun, hown, hg⟩ := run_makeSlice_owned (P := Tryz.prog) w w0.heap.size 26 5 i (.int .u8 0) 1 Tryz.underlying26 hi hz hs .i64 .i64 c (by omega) (by rw [hb]; omega) (by unfold maxLen; omega) f0.size
    unfold Oper.wp execOp
    simp [ho, hx, hy, hrun, Result.andThen]
    exact hK _ _ (h _ ⟨hown, f0.grown hg (fun j e => nomatch e)⟩)

/-- append of bytes to a slice that is new since w0. -/
theorem run_app (ty : TypeId) (w0 : World) (v : Value) (n : Nat) (xs : List Value) (hown : Own w0 w v n xs) (ad : Option Addr) (m c : Nat) (l : List UInt8) (hl : l.length = m) (hsrc : BytesAt w ad l) (hm : n + m ≤ 1000000)
    (hne : m = 0 → (∃ x, ad = some x) ) :
    ∃ v' w', (Builtin.append_ #[26, 26] ty #[v, .slice ad m c]).run Tryz.prog w = .ok v' w' ∧ Own w0 w' v' (n + m) (xs ++ (arr l).toList) := by
  obtain ⟨i, hi, hz, hs, hb⟩ := info5'
  have hlen : (arr l).toList.length = m * 1 := by simp [arr, hl]
  obtain ⟨a0, rfl⟩ : ∃ a0, ad = some a0 := by
    by_cases e : m = 0
    · exact hne e
    · have h0 : 0 < l.length := by omega
      obtain ⟨b, off, e, _⟩ := hsrc 0 (.int .u8 l[0].toNat) (by simp [arr, h0])
      exact ⟨_, e⟩
  obtain ⟨v', w', hrun, h2, h3, _, _⟩ := run_append_own_at (P := Tryz.prog) w w0.heap.size 26 ty 5 i (.int .u8 0) 1 1 Tryz.underlying26 hi hz hs hb rfl (by omega) v n xs hown.1 a0 m c (arr l).toList hlen
    (by
      intro j u hu
      obtain ⟨b, off, e, hc⟩ := hsrc j u hu
      cases e
      rw [Addr.add_mid]
      exact hc) (arr_one l) (by unfold maxLen; omega) (by omega) hown.2.size
  exact ⟨v', w', hrun, h2, hown.2.grown h3 (fun j e hj => by
    have := (hown.1.lt j e).1
    omega)⟩

theorem wp_app (hgd : o.guard = none) (s x : Operand) (ho : o.op = .call { callee := .builtin .append, args := #[s, x], argTypes := #[26, 26] }) (w0 : World) (v : Value) (n : Nat) (xs : List Value) (hs : a.eval s = v) (hown : Own w0 w v n xs)
    (ad : Option Addr) (m c : Nat) (l : List UInt8) (hx : a.eval x = .slice ad m c) (hl : l.length = m) (hsrc : BytesAt w ad l) (hm : n + m ≤ 1000000) (hne : m = 0 → (∃ x, ad = some x))
    (h : ∀ v' w', Own w0 w' v' (n + m) (xs ++ (arr l).toList) → wpList Tryz.prog ops Q rest (a.put o.dst v') w') : wpList Tryz.prog ops Q (o :: rest) a w :=
  wpList_plain hgd fun K hK => by
    obtain ⟨v', w', hrun, hown'⟩ := run_app o.type w0 v n xs hown ad m c l hl hsrc hm hne
    unfold Oper.wp execOp
    simp [ho, resolve, invoke, builtin, hs, hx, hrun, Result.andThen]
    exact hK _ _ (h _ _ hown')

end

/-- Bytes that are handed in, with marks behind their end. -/
def mkL (k : Int) (j : Nat) : List UInt8 := (List.range j).map fun i => UInt8.ofNat (mB k (i : Nat)).toNat
structure LentAt (w : World) (g cap : Nat) (l : List UInt8) : Prop where
  ex : ∃ cur, w.heap[g]? = some (.cells cur 5) ∧ cur.toList.take (l.length + 12) = (arr (l ++ mkL 1 12)).toList ∧ cur.size = cap
  cap : l.length + 12 ≤ cap

theorem oneByte (x : Int) (h0 : 0 ≤ x) (h1 : x < 256) (w : World) : BytesAt (w.alloc (.cells #[.int .u8 x] 5)) (some ⟨w.heap.size, 0, none⟩) [UInt8.ofNat x.toNat] := by
  intro j v hv
  have hx : ((UInt8.ofNat x.toNat).toNat : Int) = x := by rw [UInt8.toNat_ofNat']; omega
  cases j with
  | zero =>
    simp [arr] at hv
    refine ⟨w.heap.size, 0, rfl, ?_⟩
    rw [cell_of_row _ _ _ _ _ _ (heap_alloc_new w _), ← hv]
    simp
    omega
  | succ j => simp [arr] at hv

theorem LentAt.lt {w : World} {g cap : Nat} {l : List UInt8} (h : LentAt w g cap l) : g < w.heap.size := by
  obtain ⟨cur, hg, _⟩ := h.ex
  exact (Array.getElem?_eq_some_iff.1 hg).1
theorem LentAt.kept {w w' : World} {g cap : Nat} {l : List UInt8} {L : List Nat} (h : LentAt w g cap l) (k : Fr L w w') (hg : g ∉ L) : LentAt w' g cap l := by
  obtain ⟨cur, hc, r⟩ := h.ex
  exact ⟨⟨cur, k.same hg hc, r⟩, h.cap⟩
theorem LentAt.cell {w : World} {g cap : Nat} {l : List UInt8} (h : LentAt w g cap l) (j : Nat) (hj : j < l.length + 12) : w.cell? ⟨g, j, none⟩ = (arr (l ++ mkL 1 12)).toList[j]? := by
  obtain ⟨cur, hc, ht, _⟩ := h.ex
  rw [cell_of_row w g j _ _ _ hc, ← ht, List.getElem?_take, if_pos hj]
  simp
theorem LentAt.low {w : World} {g cap : Nat} {l : List UInt8} (h : LentAt w g cap l) (j : Nat) (hj : j < l.length) : w.cell? ⟨g, j, none⟩ = some (.int .u8 l[j].toNat) := by
  rw [h.cell j (by omega)]
  rw [← arr_append, List.getElem?_append_left (by simpa [arr] using hj)]
  simp [arr, hj]
theorem LentAt.bytes {w : World} {g cap : Nat} {l : List UInt8} (h : LentAt w g cap l) : BytesAt w (some ⟨g, 0, none⟩) l := by
  intro j v hv
  have hj : j < l.length := by
    have := (List.getElem?_eq_some_iff.1 hv).1
    simpa [arr] using this
  refine ⟨g, 0, rfl, ?_⟩
  rw [Nat.zero_add, h.low j hj, ← hv]
  simp [arr, hj]

end Go.Proofs.YthajipigppndgaaGreat.Pg

namespace Go.Proofs.YthajipigppndgaaGreat.Pg

theorem u8_ofNat_toNat (n : Nat) : (UInt8.ofNat n).toNat = n % 256 := UInt8.toNat_ofNat'
theorem u8_of (b : UInt8) (n : Nat) (h : n % 256 = b.toNat) : UInt8.ofNat n = b := by
  apply UInt8.toNat_inj.1; rw [u8_ofNat_toNat]; exact h
def zs (n : Nat) : List UInt8 := List.replicate n 0
theorem zs_length (n : Nat) : (zs n).length = n := by simp [zs]
theorem zs_add (m n : Nat) : zs m ++ zs n = zs (m + n) := by simp [zs]
theorem all_zs (l : List UInt8) (h : l.all (· == 0) = true) : l = zs l.length := by
  unfold zs
  rw [List.eq_replicate_iff]
  exact ⟨rfl, fun b hb => by simpa using List.all_eq_true.1 h b hb⟩
theorem zs_all (n : Nat) : (zs n).all (· == 0) = true := by simp [zs]

/-- Two bytes that say a number, the highest first. -/
def be2 (n : Nat) : List UInt8 := [UInt8.ofNat (n / 256), UInt8.ofNat n]
def be4 (n : Nat) : List UInt8 := [UInt8.ofNat (n / 16777216), UInt8.ofNat (n / 65536), UInt8.ofNat (n / 256), UInt8.ofNat n]
theorem be2_length (n : Nat) : (be2 n).length = 2 := rfl
theorem be4_length (n : Nat) : (be4 n).length = 4 := rfl

/-- The number that two bytes of a row say. -/
def num2 (l : List UInt8) (e : Nat) : Nat := 256 * (byteAt l e).toNat + (byteAt l (e + 1)).toNat
def num4 (l : List UInt8) (e : Nat) : Nat := 16777216 * (byteAt l e).toNat + 65536 * (byteAt l (e + 1)).toNat + 256 * (byteAt l (e + 2)).toNat + (byteAt l (e + 3)).toNat
theorem num2_lt (l : List UInt8) (e : Nat) : num2 l e < 65536 := by
  unfold num2; have := (byteAt l e).toNat_lt; have := (byteAt l (e + 1)).toNat_lt; omega
theorem num4_lt (l : List UInt8) (e : Nat) : num4 l e < 4294967296 := by
  unfold num4; have := (byteAt l e).toNat_lt; have := (byteAt l (e + 1)).toNat_lt; have := (byteAt l (e + 2)).toNat_lt; have := (byteAt l (e + 3)).toNat_lt; omega
theorem byteAt_app_right (p q : List UInt8) (j : Nat) : byteAt (p ++ q) (p.length + j) = byteAt q j := by
  unfold byteAt; simp [List.getD_eq_getElem?_getD, List.getElem?_append_right]
theorem byteAt_drop (l : List UInt8) (e j : Nat) : byteAt (l.drop e) j = byteAt l (e + j) := by
  unfold byteAt; simp [List.getD_eq_getElem?_getD, List.getElem?_drop]
theorem num2_drop (l : List UInt8) (e : Nat) : num2 (l.drop e) 0 = num2 l e := by unfold num2; rw [byteAt_drop, byteAt_drop]; rfl
theorem num2_be2 (n : Nat) (h : n < 65536) (r : List UInt8) : num2 (be2 n ++ r) 0 = n := by
  unfold num2 be2 byteAt
  simp only [List.cons_append, List.nil_append, List.getD_cons_zero, List.getD_cons_succ, u8_ofNat_toNat]
  omega
theorem be2_num2 (l : List UInt8) (e : Nat) (h : e + 2 ≤ l.length) : (l.drop e).take 2 = be2 (num2 l e) := by
  have h1 : l.drop e = l[e] :: l[e + 1] :: l.drop (e + 2) := by
    rw [List.drop_eq_getElem_cons (by omega), List.drop_eq_getElem_cons (by omega)]
  rw [h1]
  simp only [List.take_succ_cons, List.take_zero, be2]
  have b1 := byteAt_lt (l := l) (k := e) (by omega)
  have b2 := byteAt_lt (l := l) (k := e + 1) (by omega)
  have := l[e].toNat_lt
  have := l[e + 1].toNat_lt
  rw [u8_of l[e] _ (by unfold num2; rw [b1, b2]; omega), u8_of l[e + 1] _ (by unfold num2; rw [b1, b2]; omega)]
theorem num4_be4 (n : Nat) (h : n < 4294967296) (p r : List UInt8) : num4 (p ++ (be4 n ++ r)) p.length = n := by
  unfold num4
  have h0 := byteAt_app_right p (be4 n ++ r) 0
  rw [Nat.add_zero] at h0
  rw [h0, byteAt_app_right, byteAt_app_right, byteAt_app_right]
  unfold be4 byteAt
  simp only [List.cons_append, List.nil_append, List.getD_cons_zero, List.getD_cons_succ, u8_ofNat_toNat]
  omega
theorem be4_num4 (l : List UInt8) (e : Nat) (h : e + 4 ≤ l.length) : (l.drop e).take 4 = be4 (num4 l e) := by
  have h1 : l.drop e = l[e] :: l[e + 1] :: l[e + 2] :: l[e + 3] :: l.drop (e + 4) := by
    rw [List.drop_eq_getElem_cons (by omega), List.drop_eq_getElem_cons (by omega), List.drop_eq_getElem_cons (by omega), List.drop_eq_getElem_cons (by omega)]
  rw [h1]
  simp only [List.take_succ_cons, List.take_zero, be4]
  have b1 := byteAt_lt (l := l) (k := e) (by omega)
  have b2 := byteAt_lt (l := l) (k := e + 1) (by omega)
  have b3 := byteAt_lt (l := l) (k := e + 2) (by omega)
  have b4 := byteAt_lt (l := l) (k := e + 3) (by omega)
  have := l[e].toNat_lt
  have := l[e + 1].toNat_lt
  have := l[e + 2].toNat_lt
  have := l[e + 3].toNat_lt
  rw [u8_of l[e] _ (by unfold num4; rw [b1, b2, b3, b4]; omega), u8_of l[e + 1] _ (by unfold num4; rw [b1, b2, b3, b4]; omega), u8_of l[e + 2] _ (by unfold num4; rw [b1, b2, b3, b4]; omega), u8_of l[e + 3] _ (by unfold num4; rw [b1, b2, b3, b4]; omega)]

/-- Cells, one behind the other. -/
def enc : List (List UInt8) → List UInt8
  | [] => []
  | c :: r => be2 c.length ++ (c ++ enc r)
def elen (cs : List (List UInt8)) : Nat := (enc cs).length
theorem elen_nil : elen [] = 0 := rfl
theorem elen_cons (c : List UInt8) (r : List (List UInt8)) : elen (c :: r) = 2 + c.length + elen r := by
  simp [elen, enc, be2]; omega
theorem enc_append (a b : List (List UInt8)) : enc (a ++ b) = enc a ++ enc b := by
  induction a with
  | nil => rfl
  | cons c r ih => simp [enc, ih]
theorem elen_append (a b : List (List UInt8)) : elen (a ++ b) = elen a + elen b := by simp [elen, enc_append]
theorem elen_one (c : List UInt8) : elen [c] = 2 + c.length := by rw [elen_cons, elen_nil]; omega
theorem elen_ge (cs : List (List UInt8)) : 2 * cs.length ≤ elen cs := by
  induction cs with
  | nil => simp
  | cons c r ih => rw [elen_cons]; simp only [List.length_cons]; omega

/-- The place behind the cell that begins at a place. -/
def beh (l : List UInt8) (e : Nat) : Nat := e + 2 + num2 l e

/-- The cells that stand from a place on, so many, and noughts behind them. -/
def cellsAt (l : List UInt8) : Nat → Nat → Option (List (List UInt8))
  | 0, e => if (l.drop e).all (· == 0) then some [] else none
  | n + 1, e => if l.length < e + 2 then none else if l.length < beh l e then none else (cellsAt l n (beh l e)).map (((l.drop (e + 2)).take (num2 l e)) :: ·)

theorem cellsAt_some (l : List UInt8) (n e : Nat) (cs : List (List UInt8)) (he : e ≤ l.length) (h : cellsAt l n e = some cs) :
    cs.length = n ∧ e + elen cs ≤ l.length ∧ l.drop e = enc cs ++ zs (l.length - e - elen cs) := by
  induction n generalizing e cs with
  | zero =>
    unfold cellsAt at h
    split at h
    · rename_i hz
      cases h
      refine ⟨rfl, by rw [elen_nil]; omega, ?_⟩
      have := all_zs _ hz
      rw [List.length_drop] at this
      simpa [enc, elen_nil] using this
    · cases h
  | succ n ih =>
    unfold cellsAt at h
    split at h
    · cases h
    · split at h
      · cases h
      · rename_i h1 h2
        cases hc : cellsAt l n (beh l e) with
        | none => rw [hc] at h; cases h
        | some r =>
          rw [hc] at h
          simp only [Option.map_some, Option.some.injEq] at h
          subst h
          have hle : beh l e ≤ l.length := by omega
          obtain ⟨i1, i2, i3⟩ := ih (beh l e) r hle hc
          have hl : ((l.drop (e + 2)).take (num2 l e)).length = num2 l e := by
            rw [List.length_take, List.length_drop]; unfold beh at hle; omega
          refine ⟨by simp [i1], by rw [elen_cons, hl]; unfold beh at i2; omega, ?_⟩
          have e1 : l.drop e = be2 (num2 l e) ++ ((l.drop (e + 2)).take (num2 l e) ++ l.drop (beh l e)) := by
            have a1 : l.drop e = (l.drop e).take 2 ++ l.drop (e + 2) := by
              conv => lhs; rw [← List.take_append_drop 2 (l.drop e), List.drop_drop]
            have a2 : l.drop (e + 2) = (l.drop (e + 2)).take (num2 l e) ++ l.drop (beh l e) := by
              conv => lhs; rw [← List.take_append_drop (num2 l e) (l.drop (e + 2)), List.drop_drop]
              rfl
            rw [a1, be2_num2 l e (by omega)]
            conv => lhs; rw [a2]
          rw [e1, enc, hl, elen_cons, hl, i3]
          simp only [List.append_assoc]
          congr 4
          unfold beh; omega

theorem cellsAt_of (l : List UInt8) (cs : List (List UInt8)) (e : Nat) (he : e + elen cs ≤ l.length) (hs : elen cs ≤ 65535) (h : l.drop e = enc cs ++ zs (l.length - e - elen cs)) : cellsAt l cs.length e = some cs := by
  induction cs generalizing e with
  | nil =>
    simp only [enc, elen_nil, List.nil_append] at h
    show (if (l.drop e).all (· == 0) = true then some [] else none) = _
    rw [h, zs_all]; rfl
  | cons c r ih =>
    rw [elen_cons] at he hs
    have hn : num2 l e = c.length := by
      rw [← num2_drop, h, enc, List.append_assoc]
      exact num2_be2 _ (by omega) _
    have hb : beh l e = e + 2 + c.length := by unfold beh; rw [hn]
    simp only [List.length_cons]
    unfold cellsAt
    rw [if_neg (by omega), hb, if_neg (by omega)]
    have d2 : l.drop (e + 2) = c ++ (enc r ++ zs (l.length - e - elen (c :: r))) := by
      rw [← List.drop_drop, h, enc, List.append_assoc, List.append_assoc]
      rfl
    have d3 : l.drop (e + 2 + c.length) = enc r ++ zs (l.length - (e + 2 + c.length) - elen r) := by
      rw [← List.drop_drop, d2, List.drop_left, elen_cons]
      congr 2
      omega
    rw [ih _ (by omega) (by omega) d3, d2, hn, List.take_left]
    rfl

/-- A page's bytes. -/
def pgB (k : UInt8) (x : Nat) (cs : List (List UInt8)) : List UInt8 := [k, UInt8.ofNat cs.length] ++ (be4 x ++ (enc cs ++ zs (506 - elen cs)))
theorem pgB_length (k : UInt8) (x : Nat) (cs : List (List UInt8)) (h : elen cs ≤ 506) : (pgB k x cs).length = 512 := by
  have : (enc cs).length = elen cs := rfl
  simp [pgB, be4_length, zs_length]; omega
def pageOf (l : List UInt8) : Option (List (List UInt8)) := if l.length = 512 then cellsAt l (byteAt l 1).toNat 6 else none
theorem pgB_drop (k : UInt8) (x : Nat) (cs : List (List UInt8)) : (pgB k x cs).drop 6 = enc cs ++ zs (506 - elen cs) := by
  simp [pgB, be4]
theorem pgB_kind (k : UInt8) (x : Nat) (cs : List (List UInt8)) : byteAt (pgB k x cs) 0 = k := by simp [pgB, byteAt]
theorem pgB_count (k : UInt8) (x : Nat) (cs : List (List UInt8)) (h : elen cs ≤ 506) : (byteAt (pgB k x cs) 1).toNat = cs.length := by
  have := elen_ge cs
  simp [pgB, byteAt]; omega
theorem pgB_next (k : UInt8) (x : Nat) (cs : List (List UInt8)) (hx : x < 4294967296) : num4 (pgB k x cs) 2 = x := num4_be4 x hx [k, UInt8.ofNat cs.length] _
theorem pageOf_pgB (k : UInt8) (x : Nat) (cs : List (List UInt8)) (h : elen cs ≤ 506) : pageOf (pgB k x cs) = some cs := by
  unfold pageOf
  rw [if_pos (pgB_length k x cs h), pgB_count k x cs h]
  refine cellsAt_of _ cs 6 (by rw [pgB_length k x cs h]; omega) (by omega) ?_
  rw [pgB_drop, pgB_length k x cs h]
theorem pgB_of (l : List UInt8) (cs : List (List UInt8)) (h : pageOf l = some cs) : elen cs ≤ 506 ∧ l = pgB (byteAt l 0) (num4 l 2) cs := by
  unfold pageOf at h
  split at h
  · rename_i hl
    obtain ⟨h1, h2, h3⟩ := cellsAt_some l _ 6 cs (by omega) h
    refine ⟨by omega, ?_⟩
    have a1 : l = [byteAt l 0, byteAt l 1] ++ l.drop 2 := by
      rw [byteAt_lt (by omega), byteAt_lt (by omega)]
      conv => lhs; rw [← List.drop_zero (l := l), List.drop_eq_getElem_cons (by omega), List.drop_eq_getElem_cons (by omega)]
      rfl
    have a2 : l.drop 2 = (l.drop 2).take 4 ++ l.drop 6 := by
      conv => lhs; rw [← List.take_append_drop 4 (l.drop 2), List.drop_drop]
    rw [be4_num4 l 2 (by omega)] at a2
    have a3 : byteAt l 1 = UInt8.ofNat cs.length := (u8_of _ _ (by rw [h1]; have := (byteAt l 1).toNat_lt; omega)).symm
    unfold pgB
    conv => lhs; rw [a1, a2, h3, a3]
    rw [hl]
  · cases h
theorem pageOf_len (l : List UInt8) (h : l.length ≠ 512) : pageOf l = none := by unfold pageOf; rw [if_neg h]

/-! ### a cell put in, a cell taken out -/
theorem enc_split (cs : List (List UInt8)) (s : Nat) : enc cs = enc (cs.take s) ++ enc (cs.drop s) := by
  rw [← enc_append, List.take_append_drop]
theorem elen_split (cs : List (List UInt8)) (s : Nat) : elen cs = elen (cs.take s) + elen (cs.drop s) := by
  rw [← elen_append, List.take_append_drop]
def insC (cs : List (List UInt8)) (s : Nat) (c : List UInt8) : List (List UInt8) := cs.take s ++ c :: cs.drop s
theorem insC_length (cs : List (List UInt8)) (s : Nat) (c : List UInt8) (h : s ≤ cs.length) : (insC cs s c).length = cs.length + 1 := by
  simp [insC]; omega
theorem insC_elen (cs : List (List UInt8)) (s : Nat) (c : List UInt8) : elen (insC cs s c) = elen cs + 2 + c.length := by
  unfold insC; rw [elen_append, elen_cons, elen_split cs s]; omega
theorem insC_enc (cs : List (List UInt8)) (s : Nat) (c : List UInt8) : enc (insC cs s c) = enc (cs.take s) ++ (be2 c.length ++ (c ++ enc (cs.drop s))) := by
  unfold insC; rw [enc_append]; rfl
def delC (cs : List (List UInt8)) (s : Nat) : List (List UInt8) := cs.take s ++ cs.drop (s + 1)
theorem drop_at (cs : List (List UInt8)) (s : Nat) (h : s < cs.length) : cs.drop s = cs[s] :: cs.drop (s + 1) := List.drop_eq_getElem_cons h
theorem delC_elen (cs : List (List UInt8)) (s : Nat) (h : s < cs.length) : elen (delC cs s) + 2 + cs[s].length = elen cs := by
  unfold delC; rw [elen_append, elen_split cs s, drop_at cs s h, elen_cons]; omega
/-- Where a slot begins. -/
def slotAt (cs : List (List UInt8)) (s : Nat) : Nat := 6 + elen (cs.take s)
theorem slot_succ (cs : List (List UInt8)) (s : Nat) (h : s < cs.length) : slotAt cs (s + 1) = slotAt cs s + 2 + cs[s].length := by
  unfold slotAt; rw [List.take_succ_eq_append_getElem h, elen_append, elen_one]; omega
theorem slot_le (cs : List (List UInt8)) (s : Nat) : slotAt cs s ≤ 6 + elen cs := by
  unfold slotAt; rw [elen_split cs s]; omega
theorem pgB_slot (k : UInt8) (x : Nat) (cs : List (List UInt8)) (s : Nat) : (pgB k x cs).drop (slotAt cs s) = enc (cs.drop s) ++ zs (506 - elen cs) := by
  unfold slotAt
  rw [← List.drop_drop, pgB_drop, enc_split cs s, List.append_assoc, List.drop_append_of_le_length (by unfold elen; omega)]
  unfold elen
  rw [List.drop_length]
  rfl
theorem pgB_num (k : UInt8) (x : Nat) (cs : List (List UInt8)) (s : Nat) (h : s < cs.length) (hf : elen cs ≤ 506) : num2 (pgB k x cs) (slotAt cs s) = cs[s].length := by
  have := delC_elen cs s h
  rw [← num2_drop, pgB_slot, drop_at cs s h, enc, List.append_assoc]
  exact num2_be2 _ (by omega) _
theorem pgB_cell (k : UInt8) (x : Nat) (cs : List (List UInt8)) (s : Nat) (h : s < cs.length) : ((pgB k x cs).drop (slotAt cs s + 2)).take cs[s].length = cs[s] := by
  rw [← List.drop_drop, pgB_slot, drop_at cs s h, enc, List.append_assoc, List.append_assoc]
  show (cs[s] ++ (enc (cs.drop (s + 1)) ++ _)).take _ = _
  rw [List.take_left]
end Go.Proofs.YthajipigppndgaaGreat.Pg

