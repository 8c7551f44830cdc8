/-
  Ground for the walks over bits: what stays as it was; blocks of bytes; laws at the operations on bytes and strings.
-/
import Derived.Test.YtopaeomjndblkaaGreatProg
import Derived.Test.YtopaeomjndblkaaGreatMath
import Derived.WalkKit
import Derived.WalkSpells
import Derived.WalkLawsBesides
import Derived.Laws.CopyRow
import Derived.Laws.CopyOwn
import Derived.Laws.Rows
import Derived.Laws.MakeOwn
import Derived.Laws.BytesArg
import Derived.Laws.RangeString
import Derived.Lib.AppendStr
import Derived.Deep.MidRow
import Derived.Deep.RegionHeld3
import Derived.Deep.DrawnRows
import Derived.Deep.QuietTactic
import Derived.BigQuiet
import Derived.Maps.OwnSet
namespace Go.Proofs.YtopaeomjndblkaaGreat
open Go.RowKit Go.Maps

/-! ### what stays as it was -/
/-- Nothing but the listed blocks, and new ones, has turned. -/
structure Fr (L : List Nat) (w w' : World) : Prop where
  os : w'.os = w.os
  tape : w'.tape = w.tape
  output : w'.output = w.output
  size : w.heap.size ≤ w'.heap.size
  block : ∀ k, k < w.heap.size → k ∉ L → w'.heap[k]? = w.heap[k]?

theorem Fr.refl (L : List Nat) (w : World) : Fr L w w := ⟨rfl, rfl, rfl, Nat.le_refl _, fun _ _ _ => rfl⟩
theorem Fr.trans {L : List Nat} {a b c : World} (h : Fr L a b) (k : Fr L b c) : Fr L a c :=
  ⟨k.os.trans h.os, k.tape.trans h.tape, k.output.trans h.output, Nat.le_trans h.size k.size, fun i hi hn => (k.block i (Nat.lt_of_lt_of_le hi h.size) hn).trans (h.block i hi hn)⟩
theorem Fr.mono {L M : List Nat} {a b : World} (h : Fr L a b) (hs : ∀ k, k < a.heap.size → k ∈ L → k ∈ M) : Fr M a b :=
  ⟨h.os, h.tape, h.output, h.size, fun i hi hn => h.block i hi (fun e => hn (hs i hi e))⟩
/-- What comes behind may turn blocks that were not there at first. -/
theorem Fr.then {L M : List Nat} {a b c : World} (h : Fr L a b) (k : Fr M b c) (hs : ∀ i, i < a.heap.size → i ∈ M → i ∈ L) : Fr L a c :=
  ⟨k.os.trans h.os, k.tape.trans h.tape, k.output.trans h.output, Nat.le_trans h.size k.size, fun i hi hn => (k.block i (Nat.lt_of_lt_of_le hi h.size) (fun e => hn (hs i hi e))).trans (h.block i hi hn)⟩
theorem Fr.alloc {L : List Nat} {a b : World} (h : Fr L a b) (o : Obj) : Fr L a (b.alloc o) :=
  h.then (M := []) ⟨rfl, rfl, rfl, by simp, fun _ hi _ => heap_alloc_old b o hi⟩ (fun _ _ e => nomatch e)
theorem Fr.drew {L : List Nat} {a b : World} (h : Fr L a b) : Fr L a b.drew := ⟨h.os, h.tape, h.output, h.size, h.block⟩
theorem Fr.drewN {L : List Nat} {a b : World} (h : Fr L a b) (n : Nat) : Fr L a (b.drewN n) := by
  induction n with
  | zero => exact h
  | succ n ih => exact ih.drew
theorem Fr.setCell {L : List Nat} {a b : World} (h : Fr L a b) (x : Addr) (v : Value) (hx : x.block < a.heap.size → x.block ∈ L) : Fr L a (b.setCell x v) :=
  ⟨h.os, h.tape, h.output, by simpa [World.setCell] using h.size, fun i hi hn => (heap_setCell_other b x i v (fun e => hn (e ▸ hx (e ▸ hi)))).trans (h.block i hi hn)⟩
theorem Fr.grown {L : List Nat} {a b c : World} {row : Option Nat} (h : Fr L a b) (k : b.grownBy c row) (hx : ∀ j, row = some j → j < a.heap.size → j ∈ L) : Fr L a c :=
  ⟨k.os.trans h.os, k.tape.trans h.tape, k.output.trans h.output, Nat.le_trans h.size k.size, fun i hi hn => (k.block i (Nat.lt_of_lt_of_le hi h.size) (fun e => hn (hx i e.symm hi))).trans (h.block i hi hn)⟩
theorem Fr.below {L : List Nat} {B : Nat} {a b : World} (h : Fr L a b) (hB : B ≤ a.heap.size) (hL : ∀ k ∈ L, B ≤ k) : Below B a b :=
  ⟨h.os, h.tape, h.output, h.size, fun i hi => h.block i (Nat.lt_of_lt_of_le hi hB) (fun e => by have := hL i e; omega)⟩
theorem Fr.same {L : List Nat} {a b : World} (h : Fr L a b) {k : Nat} (hk : k ∉ L) {o : Obj} (ho : a.heap[k]? = some o) : b.heap[k]? = some o :=
  (h.block k (Array.getElem?_eq_some_iff.1 ho).1 hk).trans ho

/-! ### bytes in memory -/
/-- The value of a row of bytes. -/
def arr (l : List UInt8) : Array Value := (l.map fun b => Value.int .u8 b.toNat).toArray
theorem arr_size (l : List UInt8) : (arr l).size = l.length := by simp [arr]
theorem arr_one (l : List UInt8) : ∀ v ∈ (arr l).toList, v.oneCell' = true := by
  intro v hv
  simp [arr] at hv
  obtain ⟨b, _, rfl⟩ := hv
  rfl
theorem arr_at (l : List UInt8) (j : Nat) : (arr l)[j]? = l[j]?.map fun b => Value.int .u8 b.toNat := by simp [arr]
theorem arr_append (l m : List UInt8) : (arr l).toList ++ (arr m).toList = (arr (l ++ m)).toList := by simp [arr]

theorem size5 : (Tryz.prog.info? 5).map (·.size) = some 1 := by kernel_rfl
theorem info5 : (Tryz.prog.info? 5).map (fun i => (i.zero, i.size, i.bytes)) = some (some (.int .u8 0), 1, 1) := by kernel_rfl
theorem info5' : ∃ i, Tryz.prog.info? 5 = some i ∧ i.zero = some (.int .u8 0) ∧ i.size = 1 ∧ i.bytes = 1 := by
  have h := info5
  cases hi : Tryz.prog.info? 5 with
  | none => rw [hi] at h; cases h
  | some i =>
    rw [hi] at h
    simp at h
    exact ⟨i, rfl, h.1, h.2.1, h.2.2⟩

/-- A block of bytes. -/
def Blk (w : World) (g : Nat) (l : List UInt8) : Prop := w.heap[g]? = some (.cells (arr l) 5)
theorem Blk.kept {w w' : World} {g : Nat} {l : List UInt8} {L : List Nat} (h : Blk w g l) (k : Fr L w w') (hg : g ∉ L) : Blk w' g l := k.same hg h
theorem Blk.lt {w : World} {g : Nat} {l : List UInt8} (h : Blk w g l) : g < w.heap.size := (Array.getElem?_eq_some_iff.1 h).1
theorem Blk.cell {w : World} {g : Nat} {l : List UInt8} (h : Blk w g l) (j : Nat) (hj : j < l.length) : w.cell? ⟨g, j, none⟩ = some (.int .u8 (byteAt l j).toNat) := by
  rw [cell_of_row w g j _ _ _ h, arr_at, List.getElem?_eq_getElem hj, byteAt_lt hj]; rfl
theorem Blk.frozen {w : World} {g : Nat} {l : List UInt8} (h : Blk w g l) (j : Nat) : w.frozen? ⟨g, j, none⟩ = false := frozen_of_row w g j _ _ h
theorem Blk.set {w : World} {g : Nat} {l : List UInt8} (h : Blk w g l) (j : Nat) (b : UInt8) : Blk (w.setCell ⟨g, j, none⟩ (.int .u8 b.toNat)) g (l.set j b) := by
  have := heap_setCell_same w g j _ _ (.int .u8 b.toNat) h
  unfold Blk
  rw [this]
  simp [arr, List.map_set]
theorem Blk.drew {w : World} {g : Nat} {l : List UInt8} (h : Blk w g l) : Blk w.drew g l := h

/-- A slice of bytes in memory: its bytes. -/
def BytesAt (w : World) (ad : Option Addr) (l : List UInt8) : Prop := ∀ j v, (arr l).toList[j]? = some v → ∃ b off, ad = some ⟨b, off, none⟩ ∧ w.cell? ⟨b, off + j, none⟩ = some v
theorem Blk.bytes {w : World} {g : Nat} {l : List UInt8} (h : Blk w g l) : BytesAt w (some ⟨g, 0, none⟩) l := fun j v hv => ⟨g, 0, rfl, by
  rw [Nat.zero_add, cell_of_row w g j _ _ _ h]
  simpa using hv⟩
theorem BytesAt.nil (w : World) (ad : Option Addr) : BytesAt w ad [] := fun j v hv => by simp [arr] at hv
theorem BytesAt.kept {w w' : World} {ad : Option Addr} {l : List UInt8} {L : List Nat} (h : BytesAt w ad l) (k : Fr L w w') (hL : ∀ b off, ad = some ⟨b, off, none⟩ → b ∉ L) : BytesAt w' ad l := by
  intro j v hv
  obtain ⟨b, off, ha, hc⟩ := h j v hv
  exact ⟨b, off, ha, (World.cell?_of_block (k.block b (block_lt_of_cell hc) (hL b off ha))).trans hc⟩
theorem BytesAt.at {w : World} {ad : Option Addr} {l : List UInt8} (h : BytesAt w ad l) (j : Nat) (hj : j < l.length) : ∃ b off, ad = some ⟨b, off, none⟩ ∧ w.cell? ⟨b, off + j, none⟩ = some (.int .u8 (byteAt l j).toNat) :=
  h j _ (by rw [byteAt_lt hj]; simp [arr, hj])

set_option maxRecDepth 100000
/-! ### laws at the operations -/
section
variable {ops : Array Oper} {rest : List Oper} {o : Oper} {a : Act} {w : World} {Q : Exit → Act → World → Prop}

theorem arr_zeros (n : Nat) : madeCells (Value.int .u8 0).cells n = arr (List.replicate n 0) := by
  unfold madeCells arr
  apply Array.ext'
  simp [Value.cells]
  apply List.ext_getElem
  · simp
  · intro i h1 h2
    simp [Nat.mod_one]

theorem wp_make (hgd : o.guard = none) (x y : Operand) (ho : o.op = .makeSlice 37 x y) (n : Nat) (hx : a.eval x = .int .i64 (n : Int)) (hy : a.eval y = .int .i64 (n : Int)) (hn : n ≤ 16777216)
    (h : ∀ w' g, w.heap.size ≤ g → Blk w' g (List.replicate n 0) → Fr [] w w' → wpList Tryz.prog ops Q rest (a.put o.dst (.slice (some ⟨g, 0, none⟩) n n)) w') : wpList Tryz.prog ops Q (o :: rest) a w :=
  wpList_plain hgd fun K hK => by
    obtain ⟨i, hi, hz, hs, hb⟩ := info5'
    have hrun := run_makeSlice (P := Tryz.prog) w 37 5 i (.int .u8 0) Tryz.underlying37 hi hz .i64 .i64 (n : Int) (n : Int) (by omega) (by omega) (by rw [hs]; simpa using hn) (by rw [hb]; omega) (by omega)
    rw [hs, Int.toNat_natCast, Nat.mul_one, arr_zeros] at hrun
    unfold Oper.wp execOp
    simp [ho, hx, hy, hrun, Result.andThen]
    exact hK _ _ (h _ _ (Nat.le_refl _) (heap_alloc_new w _) ((Fr.refl _ _).alloc _))

theorem run_conv (l : List UInt8) (ad : Option Addr) (n c : Nat) (hl : l.length = n) (hb : BytesAt w ad l) (hne : n = 0 → ad = none ∨ ∃ b off, ad = some ⟨b, off, none⟩) :
    (convert 37 9 (.slice ad n c)).run Tryz.prog w = .ok (.string (mkS l)) w := by
  cases ad with
  | none =>
    have : l = [] := by
      cases l with
      | nil => rfl
      | cons x r =>
        obtain ⟨b, off, e, _⟩ := hb.at 0 (by simp)
        cases e
    subst this
    exact run_convert_bytes_nil w 37 5 Tryz.underlying37 Tryz.underlying5 n c 9 Tryz.underlying9
  | some x =>
    obtain ⟨b, off, rfl⟩ : ∃ b off, x = ⟨b, off, none⟩ := by
      by_cases e : n = 0
      · rcases hne e with h | ⟨b, off, h⟩
        · cases h
        · cases h; exact ⟨b, off, rfl⟩
      · obtain ⟨b, off, e, _⟩ := hb.at 0 (by omega)
        cases e
        exact ⟨b, off, rfl⟩
    have := run_convert_bytes_arg (P := Tryz.prog) w 37 5 Tryz.underlying37 Tryz.underlying5 b off n c (l.map fun u => (u.toNat : Int)) (by simpa using hl) (by
      intro i hi
      obtain ⟨b', off', e, hc⟩ := hb.at i (by omega)
      cases e
      rw [hc, byteAt_lt (by omega)]
      simp [hl, hi]) 9 Tryz.underlying9
    rw [this]
    congr 2
    unfold strOfNums mkS
    congr 2
    rw [List.map_map]
    conv => rhs; rw [← List.map_id l]
    apply List.map_congr_left
    intro u _
    simp

theorem wp_conv (hgd : o.guard = none) (x : Operand) (ho : o.op = .convert 37 9 x) (l : List UInt8) (ad : Option Addr) (n c : Nat) (hx : a.eval x = .slice ad n c) (hl : l.length = n) (hb : BytesAt w ad l) (hne : n = 0 → ad = none ∨ ∃ b off, ad = some ⟨b, off, none⟩)
    (h : wpList Tryz.prog ops Q rest (a.put o.dst (.string (mkS l))) w) : wpList Tryz.prog ops Q (o :: rest) a w :=
  wpList_plain hgd fun K hK => by
    have hrun := run_conv (w := w) l ad n c hl hb hne
    unfold Oper.wp execOp
    simp [ho, hx, hrun, Result.andThen]
    exact hK _ _ h

/-- copy of a string's bytes over the beginning of a block. -/
theorem wp_copyStr (hgd : o.guard = none) (d s : Operand) (ho : o.op = .call { callee := .builtin .copy, args := #[d, s], argTypes := #[37, 9] }) (g n c : Nat) (l : List UInt8) (t : ByteArray)
    (hd : a.eval d = .slice (some ⟨g, 0, none⟩) n c) (hs : a.eval s = .string t) (hg : Blk w g l) (hl : l.length = n) (ht : t.size ≤ n)
    (h : ∀ w', Blk w' g (bl t ++ l.drop t.size) → Fr [g] w w' → wpList Tryz.prog ops Q rest (a.put o.dst (goInt t.size)) w') : wpList Tryz.prog ops Q (o :: rest) a w :=
  wpList_plain hgd fun K hK => by
    obtain ⟨i, hi, hz, hsz, hb⟩ := info5'
    have hlen : (arr (bl t)).toList.length = t.size := by simp [arr, bl_length]
    have hst := run_storeCells_at Tryz.prog g 0 5 (arr (bl t)).toList 0 (arr l) w hg (by rw [hlen, arr_size, hl]; omega) (arr_one _)
    have hfc : (Builtin.firstCells 1 t.size (.string t)).run Tryz.prog w = .ok (arr (bl t)) w := by
      simp [Builtin.firstCells, arr, bl]
      apply Array.ext'
      simp
    have hrun : (Builtin.copy_ #[37, 9] o.type #[.slice (some ⟨g, 0, none⟩) n c, .string t]).run Tryz.prog w = .ok (goInt t.size) (w.setRow g (arr (bl t ++ l.drop t.size))) := by
      have hm : Nat.min t.size n = t.size := Nat.min_eq_left ht
      simp [Builtin.copy_, run_underlying Tryz.underlying37, Builtin.lenOf, sizeOf, typeInfo, hi, hsz, hm, hfc, hst, goInt]
      congr 1
      apply Array.ext'
      simp [arr, bl_length]
    unfold Oper.wp execOp
    simp [ho, resolve, invoke, builtin, hd, hs, hrun, Result.andThen]
    exact hK _ _ (h _ (setRow_heap w g _ _ 5 _ hg) ⟨rfl, rfl, rfl, by simp, fun i _ hn => setRow_other w g i _ (fun e => hn (by simp [e]))⟩)

/-- A byte of a string. -/
theorem run_idx (s : ByteArray) (i : Int) (k : Nat) (hk : i = (k : Int)) (h : k < s.size) (w : World) : (Instr.index 9 (.string s) (.int .i64 i)).run Tryz.prog w = .ok (.int .u8 (byteAt (bl s) k).toNat) w := by
  subst hk
  rw [run_index_string w 9 s .i64 (k : Int) Tryz.underlying9, dif_pos ⟨by omega, by omega⟩]
  rw [← get_byteAt s k h]
  simp

/-- The bytes of a string, in memory of their own. -/
structure Packed (w0 w : World) (v : Value) (l : List UInt8) : Prop where
  ex : ∃ ad cap, v = .slice ad l.length cap ∧ ((ad = none ∧ l = [] ∧ cap = 0) ∨ ∃ g cur, ad = some ⟨g, 0, none⟩ ∧ w0.heap.size ≤ g ∧ w.heap[g]? = some (.cells cur 5) ∧ l.length ≤ cap ∧ cur.size = cap ∧ cur.toList.take l.length = (arr l).toList ∧ l ≠ [])

theorem wp_packStr (hgd : o.guard = none) (s x : Operand) (ho : o.op = .call { callee := .builtin .append, args := #[s, x], argTypes := #[37, 9] }) (t : ByteArray) (hs : a.eval s = .slice none 0 0) (hx : a.eval x = .string t) (ht : t.size ≤ 16777216)
    (h : ∀ v w', Packed w w' v (bl t) → Fr [] w w' → wpList Tryz.prog ops Q rest (a.put o.dst v) w') : wpList Tryz.prog ops Q (o :: rest) a w := by
  obtain ⟨i, hi, hz, hsz, hb⟩ := info5'
  refine Lib.wpList_append_own_string w hgd s x 37 9 ho w.heap.size 5 i Tryz.underlying37 Tryz.underlying9 hi hz hsz hb _ 0 [] hs (World.ownsRow_nil w _ 5 1) t hx (by unfold maxLen; omega) (by omega) (Nat.le_refl _) ?_
  intro v w' hown hgr hnil
  refine h v w' ⟨?_⟩ ((Fr.refl _ _).grown hgr (fun j e => nomatch e))
  obtain ⟨h1, h2⟩ := hown
  have e0 : ([] ++ Lib.strCells t) = (arr (bl t)).toList := by simp [Lib.strCells, arr, bl]
  rw [Nat.zero_add, e0] at h2
  rcases h2 with ⟨rfl, hn⟩ | ⟨g, cap, cur, rfl, hbg, hg, hnc, hcm, hcs, htake⟩
  · have hbl : bl t = [] := List.eq_nil_of_length_eq_zero (by rw [bl_length]; exact hn)
    rw [hbl]
    exact ⟨none, 0, rfl, Or.inl ⟨rfl, rfl, rfl⟩⟩
  · have hne : bl t ≠ [] := by
      intro e
      have : t.size = 0 := by rw [← bl_length, e]; rfl
      have := hnil.2 ⟨rfl, this⟩
      cases this
    refine ⟨_, cap, by rw [bl_length], Or.inr ⟨g, cur, rfl, hbg, hg, by rw [bl_length]; exact hnc, by simpa using hcs, ?_, hne⟩⟩
    rw [bl_length]
    simpa using htake

theorem Packed.from {w0 w1 w : World} {v : Value} {l : List UInt8} (h : Packed w1 w v l) (k : Fr [] w0 w1) : Packed w0 w v l := by
  obtain ⟨ad, cap, rfl, h2⟩ := h.ex
  refine ⟨ad, cap, rfl, ?_⟩
  rcases h2 with h2 | ⟨g, cur, e, hg, r⟩
  · exact Or.inl h2
  · exact Or.inr ⟨g, cur, e, Nat.le_trans k.size hg, r⟩
theorem Packed.kept {w0 w w' : World} {v : Value} {l : List UInt8} (h : Packed w0 w v l) (k : Fr [] w w') : Packed w0 w' v l := by
  obtain ⟨ad, cap, rfl, h2⟩ := h.ex
  refine ⟨ad, cap, rfl, ?_⟩
  rcases h2 with h2 | ⟨g, cur, e, hg, hc, r⟩
  · exact Or.inl h2
  · exact Or.inr ⟨g, cur, e, hg, k.same (by simp) hc, r⟩

theorem Packed.bytes {w0 w : World} {v : Value} {l : List UInt8} (h : Packed w0 w v l) : ∃ ad cap, v = .slice ad l.length cap ∧ BytesAt w ad l ∧ (∀ b off, ad = some ⟨b, off, none⟩ → w0.heap.size ≤ b ∧ b < w.heap.size) ∧ (l.length = 0 → ad = none ∨ ∃ b off, ad = some ⟨b, off, none⟩) := by
  obtain ⟨ad, cap, rfl, h2⟩ := h.ex
  refine ⟨ad, cap, rfl, ?_⟩
  rcases h2 with ⟨rfl, rfl, rfl⟩ | ⟨g, cur, rfl, hg, hc, _, _, ht, _⟩
  · exact ⟨BytesAt.nil _ _, (fun _ _ e => nomatch e), fun _ => Or.inl rfl⟩
  · refine ⟨fun j v hv => ⟨g, 0, rfl, ?_⟩, fun b off e => by cases e; exact ⟨hg, (Array.getElem?_eq_some_iff.1 hc).1⟩, fun _ => Or.inr ⟨g, 0, rfl⟩⟩
    rw [Nat.zero_add, cell_of_row w g j _ _ _ hc, ← hv, ← ht]
    have hj : j < l.length := by
      have := (List.getElem?_eq_some_iff.1 hv).1
      simpa [arr] using this
    rw [List.getElem?_take, if_pos hj]
    simp

theorem wp_range (hgd : o.guard = none) (x : Operand) (ho : o.op = .range 9 x) (s : ByteArray) (hx : a.eval x = .string s)
    (h : ∀ w' it, w.heap.size ≤ it → w'.heap[it]? = some (.stringIter s 0) → Fr [] w w' → wpList Tryz.prog ops Q rest (a.put o.dst (.pointer (some ⟨it, 0, none⟩))) w') : wpList Tryz.prog ops Q (o :: rest) a w :=
  wpList_plain hgd fun K hK => by
    have hrun := run_range_string (P := Tryz.prog) w 9 s Tryz.underlying9
    unfold Oper.wp execOp
    simp only [ho, hx, hrun, Result.andThen, Sem.run_bind]
    exact hK _ _ (h _ _ (Nat.le_refl _) (heap_alloc_new w _) ((Fr.refl _ _).alloc _))

/-- ranging over a string: the next character. -/
def IterAt (w : World) (b : Nat) (s : ByteArray) (pos : Nat) : Prop := w.heap[b]? = some (.stringIter s pos)
theorem IterAt.kept {w w' : World} {b : Nat} {s : ByteArray} {pos : Nat} {L : List Nat} (h : IterAt w b s pos) (k : Fr L w w') (hb : b ∉ L) : IterAt w' b s pos := k.same hb h
theorem IterAt.lt {w : World} {b : Nat} {s : ByteArray} {pos : Nat} (h : IterAt w b s pos) : b < w.heap.size := (Array.getElem?_eq_some_iff.1 h).1

theorem decode_high (s : ByteArray) (pos : Nat) (h : pos < s.size) (ha : 128 ≤ (s[pos]'h).toNat) : 128 ≤ (Utf8.decode s pos).1 := by
  have e : s.get! (pos + 0) = s[pos]'h := by
    show s.get! pos = _
    simp [ByteArray.get!, getElem!_pos, h]
    rfl
  have hn : ¬ (s[pos]'h).toNat < 128 := by omega
  simp only [Utf8.decode, e, hn, if_false]
  repeat' split
  all_goals first
    | (simp only [Utf8.runeError]; omega)
    | (rename_i hc; simp only [Bool.and_eq_true, decide_eq_true_eq, ge_iff_le] at hc ⊢; omega)

theorem wp_next (hgd : o.guard = none) (x : Operand) (ho : o.op = .next x true) (b : Nat) (s : ByteArray) (pos : Nat) (hx : a.eval x = .pointer (some ⟨b, 0, none⟩)) (hi : IterAt w b s pos) (hp : pos < s.size)
    (h : ∀ w' c pos', IterAt w' b s pos' → pos < pos' → ((byteAt (bl s) pos).toNat < 128 → c = ((byteAt (bl s) pos).toNat : Int) ∧ pos' = pos + 1) → (128 ≤ (byteAt (bl s) pos).toNat → 128 ≤ c) → Fr [b] w w' → wpList Tryz.prog ops Q rest (a.put o.dst (.tuple #[.bool true, .int .i64 pos, .int .i32 c])) w') : wpList Tryz.prog ops Q (o :: rest) a w :=
  wpList_plain hgd fun K hK => by
    have hi' : w.heap[b]? = some (.stringIter s pos) := hi
    have hrun : (Instr.next (.pointer (some ⟨b, 0, none⟩)) true o.type).run Tryz.prog w = .ok (.tuple #[.bool true, .int .i64 pos, .int .i32 ((Utf8.decode s pos).1 : Int)]) { w with heap := w.heap.setIfInBounds b (.stringIter s (pos + (Utf8.decode s pos).2)) } := by
      simp [Instr.next, getObj, setObj, Sem.run, hi', hp, goInt, Result.andThen]
    unfold Oper.wp execOp
    simp only [ho, hx, hrun, Result.andThen, Sem.run_bind]
    refine hK _ _ (h _ _ (pos + (Utf8.decode s pos).2) ?_ ?_ ?_ ?_ ?_)
    · unfold IterAt
      simp [hi.lt]
    · have : 1 ≤ (Utf8.decode s pos).2 := by
        simp only [Utf8.decode]
        repeat' split
        all_goals simp
      omega
    · intro hlt
      rw [← get_byteAt s pos hp] at hlt ⊢
      rw [decode_ascii s pos hp hlt]
      simp
    · intro hge
      rw [← get_byteAt s pos hp] at hge
      have := decode_high s pos hp hge
      omega
    · exact ⟨rfl, rfl, rfl, by simp, fun i _ hn => by simp at hn; simp [show ¬ b = i from fun e => hn e.symm]⟩

theorem wp_next_end (hgd : o.guard = none) (x : Operand) (ho : o.op = .next x true) (b : Nat) (s : ByteArray) (pos : Nat) (hx : a.eval x = .pointer (some ⟨b, 0, none⟩)) (hi : IterAt w b s pos) (hp : ¬ pos < s.size)
    (h : wpList Tryz.prog ops Q rest (a.put o.dst (.tuple #[.bool false])) w) : wpList Tryz.prog ops Q (o :: rest) a w :=
  wpList_plain hgd fun K hK => by
    have hi' : w.heap[b]? = some (.stringIter s pos) := hi
    have hrun : (Instr.next (.pointer (some ⟨b, 0, none⟩)) true o.type).run Tryz.prog w = .ok (.tuple #[.bool false]) w := by
      simp [Instr.next, getObj, Sem.run, hi', hp]
    unfold Oper.wp execOp
    simp only [ho, hx, hrun, Result.andThen, Sem.run_bind]
    exact hK _ _ h

end
end Go.Proofs.YtopaeomjndblkaaGreat
