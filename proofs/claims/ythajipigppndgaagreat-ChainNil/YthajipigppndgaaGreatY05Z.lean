/-
  Steps that are done one behind the other: the book's inTurn, where none of them fails.
-/
import Derived.Test.YthajipigppndgaaGreatY03Z
import Derived.Deep.RegionLaw
import Derived.Test.YthajipigppndgaaGreatY01Z
import Derived.Test.YthajipigppndgaaGreatY04Z
import Derived.Deep.AppendSrc
namespace Go.Proofs.YthajipigppndgaaGreat
open Go.RowKit Go.Maps

def zs (n : Nat) : List UInt8 := List.replicate n 0
theorem zs_length (n : Nat) : (zs n).length = n := by simp [zs]
theorem zs_add (m n : Nat) : zs m ++ zs n = zs (m + n) := by simp [zs]
structure SlAt (w : World) (ad : Option Addr) (n c : Nat) (l : List UInt8) : Prop where
  len : l.length = n
  bytes : BytesAt w ad l
  cap : n ≤ c

/-- A block that begins with these bytes, of so many cells. -/
def RowB (w : World) (g c : Nat) (l : List UInt8) : Prop := ∃ tl : List Value, w.heap[g]? = some (.cells ((arr l).toList ++ tl).toArray 5) ∧ l.length + tl.length = c
theorem Blk.row {w : World} {g : Nat} {l : List UInt8} (h : Blk w g l) : RowB w g l.length l := ⟨[], by simpa [Blk] using h, by simp⟩
theorem RowB.kept {w w' : World} {g c : Nat} {l : List UInt8} {L : List Nat} (h : RowB w g c l) (k : Fr L w w') (hg : g ∉ L) : RowB w' g c l := by
  obtain ⟨tl, h1, h2⟩ := h
  exact ⟨tl, k.same hg h1, h2⟩
theorem RowB.lt {w : World} {g c : Nat} {l : List UInt8} (h : RowB w g c l) : g < w.heap.size := by
  obtain ⟨tl, h1, _⟩ := h
  exact (Array.getElem?_eq_some_iff.1 h1).1
theorem RowB.cap {w : World} {g c : Nat} {l : List UInt8} (h : RowB w g c l) : l.length ≤ c := by
  obtain ⟨tl, _, h2⟩ := h
  omega
theorem RowB.bytes {w : World} {g c : Nat} {l : List UInt8} (h : RowB w g c l) : BytesAt w (some ⟨g, 0, none⟩) l := by
  obtain ⟨tl, h1, h2⟩ := h
  intro j v hv
  refine ⟨g, 0, rfl, ?_⟩
  have hj : j < (arr l).toList.length := (List.getElem?_eq_some_iff.1 hv).1
  rw [Nat.zero_add, cell_of_row w g j _ _ _ h1, ← hv]
  rw [List.getElem?_toArray, List.getElem?_append_left hj]
theorem RowB.frozen {w : World} {g c : Nat} {l : List UInt8} (h : RowB w g c l) (j : Nat) : w.frozen? ⟨g, j, none⟩ = false := by
  obtain ⟨tl, h1, h2⟩ := h
  exact frozen_of_row w g j _ _ h1
theorem RowB.cell {w : World} {g c : Nat} {l : List UInt8} (h : RowB w g c l) (j : Nat) (hj : j < l.length) : w.cell? ⟨g, j, none⟩ = some (.int .u8 (byteAt l j).toNat) := by
  obtain ⟨b, off, e, hc⟩ := h.bytes.at j hj
  cases e
  rw [Nat.zero_add] at hc
  exact hc
theorem RowB.sl {w : World} {g c : Nat} {l : List UInt8} (h : RowB w g c l) : SlAt w (some ⟨g, 0, none⟩) l.length c l := ⟨rfl, h.bytes, h.cap⟩
theorem RowB.set {w : World} {g c : Nat} {l : List UInt8} (h : RowB w g c l) (j : Nat) (b : UInt8) (hj : j < l.length) : RowB (w.setCell ⟨g, j, none⟩ (.int .u8 b.toNat)) g c (l.set j b) := by
  obtain ⟨tl, h1, h2⟩ := h
  refine ⟨tl, ?_, by simpa using h2⟩
  rw [heap_setCell_same w g j _ _ (.int .u8 b.toNat) h1]
  congr 2
  apply Array.ext'
  simp only [Array.toList_setIfInBounds, arr, List.map_set]
  rw [List.set_append_left _ _ (by simpa using hj)]

/-- Bytes written over others, from a place on. -/
def over (p : List UInt8) (off : Nat) (l : List UInt8) : List UInt8 := p.take off ++ (l ++ p.drop (off + l.length))
theorem over_length (p : List UInt8) (off : Nat) (l : List UInt8) (h : off + l.length ≤ p.length) : (over p off l).length = p.length := by
  simp [over]; omega

section
variable {ops : Array Oper} {rest : List Oper} {o : Oper} {a : Act} {w : World} {Q : Exit → Act → World → Prop}

theorem run_copyB (g off : Nat) (dp : Option Addr) (dn dc : Nat) (ad : Option Addr) (sn sc c : Nat) (p l : List UInt8) (hg : RowB w g c p) (hl : l.length = Nat.min sn dn) (hd : 0 < l.length → dp = some ⟨g, off, none⟩) (hsrc : BytesAt w ad l) (hfit : off + l.length ≤ p.length) :
    ∃ w', (∀ ty, (Builtin.copy_ #[26, 26] ty #[.slice dp dn dc, .slice ad sn sc]).run Tryz.prog w = .ok (goInt l.length) w') ∧ RowB w' g c (over p off l) ∧ Fr [g] w w' := by
  by_cases h0 : l.length = 0
  · have e0 : l = [] := List.eq_nil_of_length_eq_zero h0
    subst e0
    refine ⟨w, ?_, by simpa [over] using hg, Fr.refl _ _⟩
    exact fun ty => run_copy_none (P := Tryz.prog) w 26 26 ty 5 dp ad dn dc sn sc Tryz.underlying26 size5 (by simpa using hl.symm)
  · obtain ⟨b0, o0, rfl, _⟩ := hsrc.at 0 (by omega)
    rw [hd (by omega)]
    obtain ⟨tl, h1, h2⟩ := hg
    have hrun := fun ty => run_copy_row Tryz.prog w 26 26 ty 5 g off dn dc ⟨b0, o0, none⟩ sn sc _ 5 (arr l).toList Tryz.underlying26 size5 h1 (by simpa [arr] using hl)
      (by
        intro j v hv
        obtain ⟨b, o', e, hc⟩ := hsrc j v hv
        cases e
        rw [Addr.add_mid]
        exact hc) (by simp [arr]; omega) (arr_one l)
    have hln : (arr l).toList.length = l.length := by simp [arr]
    simp only [hln] at hrun
    refine ⟨_, hrun, ⟨tl, ?_, by rw [over_length _ _ _ hfit]; exact h2⟩, ⟨rfl, rfl, rfl, by simp, fun i _ hn => setRow_other w g i _ (fun e => hn (by simp [e]))⟩⟩
    rw [setRow_heap w g _ _ 5 _ h1]
    refine congrArg (fun z => some (Obj.cells z 5)) (Array.ext' ?_)
    simp only [over, arr, List.toList_toArray, List.map_append, List.map_take, List.map_drop]
    rw [List.take_append_of_le_length (by simp; omega), List.drop_append_of_le_length (by simp; omega)]
    simp

theorem wp_copyB (hgd : o.guard = none) (d s : Operand) (ho : o.op = .call { callee := .builtin .copy, args := #[d, s], argTypes := #[26, 26] }) (g off : Nat) (dp : Option Addr) (dn dc : Nat) (ad : Option Addr) (sn sc c : Nat) (p l : List UInt8)
    (hd : a.eval d = .slice dp dn dc) (hs : a.eval s = .slice ad sn sc) (hg : RowB w g c p) (hl : l.length = Nat.min sn dn) (hdp : 0 < l.length → dp = some ⟨g, off, none⟩) (hsrc : BytesAt w ad l) (hfit : off + l.length ≤ p.length)
    (h : ∀ w', RowB w' g c (over p off l) → Fr [g] w w' → wpList Tryz.prog ops Q rest (a.put o.dst (goInt l.length)) w') : wpList Tryz.prog ops Q (o :: rest) a w :=
  wpList_plain hgd fun K hK => by
    obtain ⟨w', hrun, h1, h2⟩ := run_copyB g off dp dn dc ad sn sc c p l hg hl hdp hsrc hfit
    unfold Oper.wp execOp
    simp [ho, resolve, invoke, builtin, hd, hs, hrun, Result.andThen]
    exact hK _ _ (h _ h1 h2)

/-- The same as a step of a region that draws its order. -/
theorem step_copyB {K : Act → World → Prop} {E : Prop} (hgd : o.guard = none) (d s : Operand) (ho : o.op = .call { callee := .builtin .copy, args := #[d, s], argTypes := #[26, 26] }) (g off : Nat) (dp : Option Addr) (dn dc : Nat) (ad : Option Addr) (sn sc c : Nat) (p l : List UInt8)
    (hd : a.eval d = .slice dp dn dc) (hs : a.eval s = .slice ad sn sc) (hg : RowB w g c p) (hl : l.length = Nat.min sn dn) (hdp : 0 < l.length → dp = some ⟨g, off, none⟩) (hsrc : BytesAt w ad l) (hfit : off + l.length ≤ p.length)
    (h : ∀ w', RowB w' g c (over p off l) → Fr [g] w w' → K (a.put o.dst (goInt l.length)) w') :
    if Region.wanted o (yielded ops a.tmps) = true then Oper.wp Tryz.prog o a w K Q else E := by
  have hw : Region.wanted o (yielded ops a.tmps) = true := by simp [Region.wanted, hgd]
  rw [if_pos hw]
  obtain ⟨w', hrun, h1, h2⟩ := run_copyB g off dp dn dc ad sn sc c p l hg hl hdp hsrc hfit
  unfold Oper.wp
  simp [execOp, ho, resolve, invoke, builtin, hd, hs, hrun, Result.andThen]
  exact h _ h1 h2

theorem run_clearB (ty : TypeId) (ad : Option Addr) (g off n nc c : Nat) (p : List UInt8) (hg : RowB w g c p) (had : 0 < n → ad = some ⟨g, off, none⟩) (hfit : off + n ≤ p.length) :
    ∃ w', (Builtin.clear_ #[26] ty #[.slice ad n nc]).run Tryz.prog w = .ok (.tuple #[]) w' ∧ RowB w' g c (over p off (zs n)) ∧ Fr [g] w w' := by
  obtain ⟨i, hi, hz, hsz, hb⟩ := info5'
  cases n with
  | zero =>
    refine ⟨w, ?_, by simpa [over, zs] using hg, Fr.refl _ _⟩
    cases ad <;> simp [Builtin.clear_, run_underlying Tryz.underlying26]
  | succ m =>
    rw [had (by omega)]
    obtain ⟨tl, h1, h2⟩ := hg
    have hst := run_storeCells_at Tryz.prog g off 5 (arr (zs (m + 1))).toList 0 _ w h1 (by simp [arr, zs_length]; omega) (arr_one _)
    have hzc : (Builtin.zeroCells (Value.int .u8 0).cells (m + 1)).toList = (arr (zs (m + 1))).toList := by
      simp [Builtin.zeroCells, arr, zs, Value.cells]
      apply List.ext_getElem
      · simp
      · intro i h1 h2
        simp [Nat.mod_one]
    have hrun : (Builtin.clear_ #[26] ty #[.slice (some ⟨g, off, none⟩) (m + 1) nc]).run Tryz.prog w = .ok (.tuple #[]) (w.setRow g (List.take (off + 0) ((arr p).toList ++ tl).toArray.toList ++ (arr (zs (m + 1))).toList ++ List.drop (off + 0 + (arr (zs (m + 1))).toList.length) ((arr p).toList ++ tl).toArray.toList).toArray) := by
      generalize (List.take (off + 0) ((arr p).toList ++ tl).toArray.toList ++ (arr (zs (m + 1))).toList ++ List.drop (off + 0 + (arr (zs (m + 1))).toList.length) ((arr p).toList ++ tl).toArray.toList).toArray = W at hst ⊢
      simp [Builtin.clear_, run_underlying Tryz.underlying26, zeroValue, typeInfo, hi, hz, hzc, hst]
    refine ⟨_, hrun, ⟨tl, ?_, by rw [over_length _ _ _ (by rw [zs_length]; omega)]; exact h2⟩, ⟨rfl, rfl, rfl, by simp, fun i _ hn => setRow_other w g i _ (fun e => hn (by simp [e]))⟩⟩
    rw [setRow_heap w g _ _ 5 _ h1]
    refine congrArg (fun z => some (Obj.cells z 5)) (Array.ext' ?_)
    simp only [over, arr, List.toList_toArray, List.length_map, List.map_append, List.map_take, List.map_drop, Nat.add_zero]
    rw [List.take_append_of_le_length (by simp; omega), List.drop_append_of_le_length (by simp [zs_length]; omega)]
    simp

theorem wp_clearB (hgd : o.guard = none) (d : Operand) (ho : o.op = .call { callee := .builtin .clear, args := #[d], argTypes := #[26] }) (ad : Option Addr) (g off n nc c : Nat) (p : List UInt8)
    (hd : a.eval d = .slice ad n nc) (hg : RowB w g c p) (had : 0 < n → ad = some ⟨g, off, none⟩) (hfit : off + n ≤ p.length)
    (h : ∀ w', RowB w' g c (over p off (zs n)) → Fr [g] w w' → wpList Tryz.prog ops Q rest (a.put o.dst (.tuple #[])) w') : wpList Tryz.prog ops Q (o :: rest) a w :=
  wpList_plain hgd fun K hK => by
    obtain ⟨w', hrun, h1, h2⟩ := run_clearB o.type ad g off n nc c p hg had hfit
    unfold Oper.wp execOp
    simp [ho, resolve, invoke, builtin, hd, hrun, Result.andThen]
    exact hK _ _ (h _ h1 h2)
end


/-- Bytes that were copied to new memory, or none. -/
structure CopAt (w0 w : World) (ad : Option Addr) (l : List UInt8) : Prop where
  nil : ad = none → l.length = 0
  at' : ∀ a, ad = some a → ∃ g, a = ⟨g, 0, none⟩ ∧ w0.heap.size ≤ g ∧ Blk w g l ∧ 0 < l.length
theorem CopAt.bytes {w0 w : World} {ad : Option Addr} {l : List UInt8} (h : CopAt w0 w ad l) : BytesAt w ad l := by
  cases ad with
  | none =>
    have : l = [] := List.eq_nil_of_length_eq_zero (h.nil rfl)
    subst this
    exact BytesAt.nil _ _
  | some a =>
    obtain ⟨g, rfl, _, b, _⟩ := h.at' a rfl
    exact b.bytes
theorem CopAt.kept {w0 w w' : World} {ad : Option Addr} {l : List UInt8} {L : List Nat} (h : CopAt w0 w ad l) (f : Fr L w w') (hL : ∀ g ∈ L, ∀ cur t, w.heap[g]? = some (.cells cur t) → t ≠ 5) : CopAt w0 w' ad l := by
  refine ⟨h.nil, fun a e => ?_⟩
  obtain ⟨g, rfl, h1, b, h2⟩ := h.at' a e
  exact ⟨g, rfl, h1, b.kept f (fun hg => hL g hg _ _ b rfl), h2⟩

set_option maxHeartbeats 400000 in
set_option maxRecDepth 100000 in
theorem copied_any (w : World) (ad : Option Addr) (n c : Nat) (l : List UInt8) (hl : l.length = n) (hb : BytesAt w ad l) (hn : n ≤ 1000000) :
    Calls Tryz.prog 177 #[.slice ad n c] w fun r w' => ∃ ad', r = .returned (.slice ad' n n) ∧ CopAt w w' ad' l ∧ Fr [] w w' := by
  have HL : Hid (l.length = n) := hl
  by_cases h0 : n = 0
  · have h0' : ((n : Int) == 0) = true := by rw [beq_iff_eq]; omega
    clear hl
    go_enter Tryz.func177, Tryz.ntmps177
    go_wp2_with fail
    go_ret
    subst h0
    exact ⟨none, rfl, ⟨fun _ => HL.out, (fun _ e => nomatch e)⟩, Fr.refl _ _⟩
  · have h0' : ((n : Int) == 0) = false := by rw [beq_eq_false_iff_ne]; omega
    clear hl
    go_enter Tryz.func177, Tryz.ntmps177
    go_wp2_with (first
      | (refine wp_make rfl _ _ rfl n rfl rfl (by omega) ?_; intro w1 g1 hg1 b1 f1)
      | (refine wp_copyB rfl _ _ rfl g1 0 _ n n ad n c _ _ l rfl rfl b1.row (by rw [HL.out]; exact (Nat.min_self n).symm) (fun _ => rfl) (hb.kept f1 (by simp)) (by rw [HL.out]; simp) ?_; intro w2 r2 f2))
    go_ret
    refine ⟨some ⟨g1, 0, none⟩, rfl, ⟨fun e => (nomatch e), fun a e => ?_⟩, f1.then f2 (fun i hi hm => by simp at hm; omega)⟩
    cases e
    refine ⟨g1, rfl, hg1, ?_, by rw [HL.out]; omega⟩
    obtain ⟨tl, h1, h2⟩ := r2
    rw [over_length _ _ _ (by rw [HL.out]; simp), List.length_replicate] at h2
    have : tl = [] := List.eq_nil_of_length_eq_zero (by omega)
    subst this
    unfold Blk
    rw [h1]
    simp [over, HL.out]

end Go.Proofs.YthajipigppndgaaGreat

namespace Go.Proofs.YthajipigppndgaaGreat
open Go.RowKit Go.Maps

set_option maxHeartbeats 2000000 in
set_option maxRecDepth 100000 in
theorem msum_any (w : World) (ad : Option Addr) (n cc : Nat) (l : List UInt8) (hl : l.length = n) (hb : BytesAt w ad l) (hm : n ≤ 1000000) :
    Calls Tryz.prog 248 #[.slice ad n cc] w fun e w' => e = .returned (.int .u32 (crc l)) ∧ w' = w := by
  have HL : Hid (l.length = n) := hl
  clear hl
  have hn0 : (0 : Int) ≤ (n : Int) := by omega
  have hC0 : (4294967295 : Nat) < 4294967296 := by omega
  go_enter Tryz.func248, Tryz.ntmps248
  go_wp2
  go_loop [3, 8] (fun v i => ∃ k : Nat, k ≤ n ∧ i = .int .i64 k ∧ v = .int .u32 (crcL 4294967295 (l.take k) : Nat)) (fun _ i => n - (intOf i).toNat)
  case atStart => exact ⟨0, by omega, rfl, by simp [crcL_nil]⟩
  case round =>
    obtain ⟨k, hk, rfl, rfl⟩ := hrel
    by_cases hkl : k < n
    · have hkl' : (k : Int) < n := by omega
      have gk : k < l.length := by rw [HL.out]; omega
      obtain ⟨b1, o1, e1, q1⟩ := hb k (.int .u8 l[k].toNat) (by simp [arr, gk])
      subst e1
      obtain ⟨x, HX⟩ : ∃ x : Int, Hid ((l[k].toNat : Int) = x) := ⟨(l[k].toNat : Int), rfl⟩
      rw [HX.out] at q1
      obtain ⟨C, HC, hC⟩ : ∃ C : Nat, Hid (crcL 4294967295 (l.take k) = C) ∧ C < 4294967296 := ⟨_, rfl, crcL_lt hC0 _⟩
      rw [HC.out]
      go_wp2
      go_loop [3, 16] (fun v i => ∃ m : Nat, m ≤ 8 ∧ i = .int .i64 m ∧ v = .int .u32 (cbits m (C ^^^ l[k].toNat) : Nat)) (fun _ i => 8 - (intOf i).toNat)
      case atStart =>
        refine ⟨0, by omega, rfl, ?_⟩
        have hxl := l[k].toNat_lt
        rw [← HX.out, Int.emod_eq_of_lt (by omega) (by omega), xor32 _ _ hC (by omega)]
        rfl
      case round =>
        obtain ⟨m, hm, rfl, rfl⟩ := hrel
        obtain ⟨D, HD, hD⟩ : ∃ D : Nat, Hid (cbits m (C ^^^ l[k].toNat) = D) ∧ D < 4294967296 := ⟨_, hidI rfl, cbits_lt (xor8_lt hC _) _⟩
        rw [HD.out]
        by_cases hm8 : m < 8
        · have hm8' : (m : Int) < 8 := by omega
          go_wp2
          refine ⟨⟨m + 1, by omega, by go_num, ?_⟩, by simp [intOf]; omega⟩
          rw [cstep D hD, ← HD.out]
          rfl
        · obtain rfl : m = 8 := by omega
          go_wp2
          refine ⟨⟨k + 1, by omega, by go_num, ?_⟩, by simp [intOf]; omega⟩
          rw [List.take_succ_eq_append_getElem gk, crcL_snoc, HC.out, ← HD.out]
          rfl
    · obtain rfl : k = n := by omega
      have HT : Hid (l.take k = l) := List.take_of_length_le (by rw [HL.out]; omega)
      go_wp2
      go_ret
      refine ⟨ret_int ?_, rfl⟩
      have hlast := crcL_lt (c := 4294967295) (by omega) l
      rw [HT.out, show IntKind.u32.max = ((4294967295 : Nat) : Int) from rfl, xor32 _ _ (by omega) hlast, Nat.xor_comm]
      rfl

structure Mst where
  seq : Int
  turn : Int
  old : Int
def mV (m : Mst) : Array Value := #[.int .i64 m.seq, .int .i64 m.turn, .int .i64 m.old]
def key8 (n : Int) : List UInt8 := be 8 (n + 9223372036854775808).toNat
theorem key8_length (n : Int) : (key8 n).length = 8 := be_length 8 _
def mHead (m : Mst) : List UInt8 := [80, 77, 48, 49] ++ key8 m.seq ++ key8 m.turn ++ key8 m.old
theorem mHead_length (m : Mst) : (mHead m).length = 28 := by simp [mHead, key8_length]
def mBytes (m : Mst) : List UInt8 := mHead m ++ beK 4 (crc (mHead m)) ++ zs 480
theorem mBytes_length (m : Mst) : (mBytes m).length = 512 := by simp [mBytes, mHead_length, beK_length, zs_length]
structure MOk (m : Mst) : Prop where
  s0 : 1 ≤ m.seq
  s1 : m.seq < 9223372036854775807
  t0 : 1 ≤ m.turn
  t1 : m.turn ≤ 2147483646
  o0 : 1 ≤ m.old
  o1 : m.old ≤ 2305843009213693952

/-- A row of 512 bytes that is being filled: what is put, noughts behind it. -/
def Fill (w : World) (g : Nat) (l : List UInt8) : Prop := Blk w g (l ++ zs (512 - l.length))
theorem Fill.kept {w w' : World} {g : Nat} {l : List UInt8} {L : List Nat} (h : Fill w g l) (f : Fr L w w') (hg : g ∉ L) : Fill w' g l := f.same hg h
section
variable {ops : Array Oper} {rest : List Oper} {o : Oper} {a : Act} {w : World} {Q : Exit → Act → World → Prop}
set_option maxRecDepth 100000 in
theorem wp_make5 (hgd : o.guard = none) (x y : Operand) (ho : o.op = .makeSlice 26 x y) (hx : a.eval x = .int .i64 0) (hy : a.eval y = .int .i64 512)
    (h : ∀ w' g, w.heap.size ≤ g → Fill w' g [] → Fr [] w w' → wpList Tryz.prog ops Q rest (a.put o.dst (.slice (some ⟨g, 0, none⟩) 0 512)) w') : wpList Tryz.prog ops Q (o :: rest) a w :=
  wpList_plain hgd fun K hK => by
    obtain ⟨i, hi, hz, hs, hb⟩ := info5'
    have hrun := run_makeSlice (P := Tryz.prog) w 26 5 i (.int .u8 0) Tryz.underlying26 hi hz .i64 .i64 (0 : Int) (512 : Int) (by omega) (by omega) (by rw [hs]; decide) (by rw [hb]; decide) (by omega)
    have e1 : (512 : Int).toNat * 1 = 512 := rfl
    rw [hs, e1, arr_zeros] at hrun
    unfold Oper.wp execOp
    simp [ho, hx, hy, hrun, Result.andThen]
    exact hK _ _ (h _ _ (Nat.le_refl _) (heap_alloc_new w _) ((Fr.refl _ _).alloc _))
theorem fill_put {l l2 : List UInt8} (_hm : l.length + l2.length ≤ 512) : ((arr (l ++ zs (512 - l.length))).toList.take (l.length * 1) ++ (arr l2).toList ++ (arr (l ++ zs (512 - l.length))).toList.drop (l.length * 1 + (arr l2).toList.length)).toArray = arr ((l ++ l2) ++ zs (512 - (l ++ l2).length)) := by
  have h1 : (arr (l ++ zs (512 - l.length))).toList = (arr l).toList ++ (arr (zs (512 - l.length))).toList := by rw [arr_append]
  have h2 : (arr l).toList.length = l.length := by simp [arr]
  have h3 : (arr l2).toList.length = l2.length := by simp [arr]
  apply Array.ext'
  rw [h1, Nat.mul_one, List.take_left' h2, h3, List.drop_append, List.drop_of_length_le (by omega), h2, Nat.add_sub_cancel_left, List.nil_append]
  have h4 : (arr (zs (512 - l.length))).toList.drop l2.length = (arr (zs (512 - (l ++ l2).length))).toList := by
    simp only [arr, zs, List.map_replicate, List.drop_replicate, List.length_append]
    congr 1
    omega
  rw [h4, arr_append, arr_append]
theorem wp_app5 (hgd : o.guard = none) (s x : Operand) (ho : o.op = .call { callee := .builtin .append, args := #[s, x], argTypes := #[26, 26] }) (g n : Nat) (l : List UInt8) (g2 o2 m c2 : Nat) (l2 : List UInt8) (hs : a.eval s = .slice (some ⟨g, 0, none⟩) n 512) (hx : a.eval x = .slice (some ⟨g2, o2, none⟩) m c2)
    (hf : Fill w g l) (hl : l.length = n) (hl2 : l2.length = m) (hb : BytesAt w (some ⟨g2, o2, none⟩) l2) (hm : n + m ≤ 512)
    (h : ∀ w', Fill w' g (l ++ l2) → Fr [g] w w' → wpList Tryz.prog ops Q rest (a.put o.dst (.slice (some ⟨g, 0, none⟩) (n + m) 512)) w') : wpList Tryz.prog ops Q (o :: rest) a w :=
  wpList_plain hgd fun K hK => by
    obtain ⟨i, hi, hz, hsz, hbb⟩ := info5'
    subst hl hl2
    have hrun := run_append_room (P := Tryz.prog) w 26 o.type 5 i Tryz.underlying26 hi g l.length 512 (arr (l ++ zs (512 - l.length))) hf ⟨g2, o2, none⟩ l2.length c2 (arr l2).toList (by rw [hsz]; simp [arr])
      (by
        intro j u hu
        obtain ⟨b', o', e', q'⟩ := hb j u (by simpa using hu)
        cases e'
        rw [Addr.add_mid]
        exact q') (by intro u hu; simp [arr] at hu; obtain ⟨b, _, rfl⟩ := hu; rfl) hm (by rw [hsz]; simp [arr, zs_length]; omega)
    rw [hsz, fill_put (by omega)] at hrun
    have hF : Fill (w.setRow g (arr ((l ++ l2) ++ zs (512 - (l ++ l2).length)))) g (l ++ l2) := setRow_heap w g _ _ _ _ hf
    have hR : Fr [g] w (w.setRow g (arr ((l ++ l2) ++ zs (512 - (l ++ l2).length)))) := ⟨rfl, rfl, rfl, by simp, fun i _ hn => setRow_other w g i _ (fun e => hn (by simp [e]))⟩
    generalize w.setRow g (arr ((l ++ l2) ++ zs (512 - (l ++ l2).length))) = W at hrun hF hR
    unfold Oper.wp execOp
    simp [ho, resolve, invoke, builtin, hs, hx, hrun, Result.andThen]
    exact hK _ _ (h _ hF hR)
set_option maxRecDepth 100000 in
theorem wp_appM5 (hgd : o.guard = none) (s x : Operand) (ho : o.op = .call { callee := .builtin .append, args := #[s, x], argTypes := #[26, 9] }) (g : Nat) (hs : a.eval s = .slice (some ⟨g, 0, none⟩) 0 512) (hx : a.eval x = .string { data := #[80, 77, 48, 49] })
    (hf : Fill w g [])
    (h : ∀ w', Fill w' g [80, 77, 48, 49] → Fr [g] w w' → wpList Tryz.prog ops Q rest (a.put o.dst (.slice (some ⟨g, 0, none⟩) 4 512)) w') : wpList Tryz.prog ops Q (o :: rest) a w :=
  wpList_plain hgd fun K hK => by
    obtain ⟨i, hi, hz, hsz, hbb⟩ := info5'
    have hc : ∀ j, j < 512 → (w.cell? ⟨g, j, none⟩).isSome = true := by
      intro j hj
      rw [cell_of_row w g j _ _ _ hf]
      simp [arr, zs_length, hj]
    have hfz : ∀ j, w.frozen? ⟨g, j, none⟩ = false := fun j => frozen_of_row w g j _ _ hf
    have hrun := run_append_room_src (P := Tryz.prog) w 26 9 o.type 5 i Tryz.underlying26 hi g 0 0 512 (.string { data := #[80, 77, 48, 49] }) 4 [.int .u8 80, .int .u8 77, .int .u8 48, .int .u8 49] (by rw [hsz]; exact Src.ofString w Tryz.underlying9 { data := #[80, 77, 48, 49] }) (by omega) (fun j hj => by rw [hsz]; exact hc _ (by simp at hj; omega)) (fun j _ => hfz _)
    rw [hsz] at hrun
    have h0 : Blk w g (zs 512) := hf
    have h1 : (w.setCell ⟨g, 0, none⟩ (.int .u8 80)).heap[g]? = some (.cells ((arr (zs 512)).setIfInBounds 0 (.int .u8 80)) 5) := heap_setCell_same _ g 0 _ _ _ h0
    have h2 : ((w.setCell ⟨g, 0, none⟩ (.int .u8 80)).setCell ⟨g, 1, none⟩ (.int .u8 77)).heap[g]? = some (.cells (((arr (zs 512)).setIfInBounds 0 (.int .u8 80)).setIfInBounds 1 (.int .u8 77)) 5) := heap_setCell_same _ g 1 _ _ _ h1
    have h3 : (((w.setCell ⟨g, 0, none⟩ (.int .u8 80)).setCell ⟨g, 1, none⟩ (.int .u8 77)).setCell ⟨g, 2, none⟩ (.int .u8 48)).heap[g]? = some (.cells ((((arr (zs 512)).setIfInBounds 0 (.int .u8 80)).setIfInBounds 1 (.int .u8 77)).setIfInBounds 2 (.int .u8 48)) 5) := heap_setCell_same _ g 2 _ _ _ h2
    have h4 : ((((w.setCell ⟨g, 0, none⟩ (.int .u8 80)).setCell ⟨g, 1, none⟩ (.int .u8 77)).setCell ⟨g, 2, none⟩ (.int .u8 48)).setCell ⟨g, 3, none⟩ (.int .u8 49)).heap[g]? = some (.cells (((((arr (zs 512)).setIfInBounds 0 (.int .u8 80)).setIfInBounds 1 (.int .u8 77)).setIfInBounds 2 (.int .u8 48)).setIfInBounds 3 (.int .u8 49)) 5) := heap_setCell_same _ g 3 _ _ _ h3
    have e4 : ((((arr (zs 512)).setIfInBounds 0 (.int .u8 80)).setIfInBounds 1 (.int .u8 77)).setIfInBounds 2 (.int .u8 48)).setIfInBounds 3 (.int .u8 49) = arr ([80, 77, 48, 49] ++ zs 508) := by kernel_rfl
    have hF : Fill ((((w.setCell ⟨g, 0, none⟩ (.int .u8 80)).setCell ⟨g, 1, none⟩ (.int .u8 77)).setCell ⟨g, 2, none⟩ (.int .u8 48)).setCell ⟨g, 3, none⟩ (.int .u8 49)) g [80, 77, 48, 49] := by
      unfold Fill Blk
      rw [h4, e4]
      rfl
    have hR : Fr [g] w ((((w.setCell ⟨g, 0, none⟩ (.int .u8 80)).setCell ⟨g, 1, none⟩ (.int .u8 77)).setCell ⟨g, 2, none⟩ (.int .u8 48)).setCell ⟨g, 3, none⟩ (.int .u8 49)) := ((((Fr.refl [g] w).setCell _ _ (by simp)).setCell _ _ (by simp)).setCell _ _ (by simp)).setCell _ _ (by simp)
    have e5 : w.setCells g (0 + 0 * 1) [.int .u8 80, .int .u8 77, .int .u8 48, .int .u8 49] = ((((w.setCell ⟨g, 0, none⟩ (.int .u8 80)).setCell ⟨g, 1, none⟩ (.int .u8 77)).setCell ⟨g, 2, none⟩ (.int .u8 48)).setCell ⟨g, 3, none⟩ (.int .u8 49)) := rfl
    rw [e5] at hrun
    generalize ((((w.setCell ⟨g, 0, none⟩ (.int .u8 80)).setCell ⟨g, 1, none⟩ (.int .u8 77)).setCell ⟨g, 2, none⟩ (.int .u8 48)).setCell ⟨g, 3, none⟩ (.int .u8 49)) = W at hrun hF hR
    unfold Oper.wp execOp
    simp [ho, resolve, invoke, builtin, hs, hx, hrun, Result.andThen]
    exact hK _ _ (h _ hF hR)
set_option maxRecDepth 100000 in
theorem wp_idx (hgd : o.guard = none) (x y : Operand) (ho : o.op = .index 318 x y) (p q r : Int) (j : Nat) (hj : j < 3) (hx : a.eval x = .agg #[.int .i64 p, .int .i64 q, .int .i64 r]) (hy : a.eval y = .int .i64 (j : Int))
    (h : wpList Tryz.prog ops Q rest (a.put o.dst (.int .i64 (if j = 0 then p else if j = 1 then q else r))) w) : wpList Tryz.prog ops Q (o :: rest) a w :=
  wpList_plain hgd fun K hK => by
    rcases (by omega : j = 0 ∨ j = 1 ∨ j = 2) with rfl | rfl | rfl
    · have key : ∀ z, z = Value.int .i64 p → K (a.put o.dst z) w := fun z e => e ▸ hK _ _ h
      unfold Oper.wp execOp
      simp [ho, hx, hy]
      go_simp
      exact key _ (by kernel_rfl)
    · have key : ∀ z, z = Value.int .i64 q → K (a.put o.dst z) w := fun z e => e ▸ hK _ _ h
      unfold Oper.wp execOp
      simp [ho, hx, hy]
      go_simp
      exact key _ (by kernel_rfl)
    · have key : ∀ z, z = Value.int .i64 r → K (a.put o.dst z) w := fun z e => e ▸ hK _ _ h
      unfold Oper.wp execOp
      simp [ho, hx, hy]
      go_simp
      exact key _ (by kernel_rfl)
end
theorem mayBe_any (w : World) (m : Mst) (h : MOk m) : Calls Tryz.prog 185 #[.agg (mV m)] w fun e w' => e = .returned (.bool true) ∧ Fr [] w w' := by
  obtain ⟨seq, turn, old⟩ := m
  obtain ⟨s0, s1, t0, t1, o0, o1⟩ := h
  dsimp only at s0 s1 t0 t1 o0 o1
  unfold mV
  go_enter Tryz.func185, Tryz.ntmps185
  go_wp2
  go_ret
  exact ⟨rfl, (Fr.refl [] w).alloc _⟩
theorem mblock_any (w : World) (m : Mst) (h : MOk m) : Calls Tryz.prog 187 #[.agg (mV m)] w fun e w' => e = .returned (.int .i64 (m.seq % 2)) ∧ Fr [] w w' := by
  obtain ⟨seq, turn, old⟩ := m
  obtain ⟨s0, s1, t0, t1, o0, o1⟩ := h
  dsimp only at s0 s1 t0 t1 o0 o1
  unfold mV
  go_enter Tryz.func187, Tryz.ntmps187
  go_wp2
  go_ret
  exact ⟨rfl, (Fr.refl [] w).alloc _⟩
def mPre (m : Mst) (j : Nat) : List UInt8 := if j = 0 then [80, 77, 48, 49] else if j = 1 then [80, 77, 48, 49] ++ key8 m.seq else if j = 2 then [80, 77, 48, 49] ++ key8 m.seq ++ key8 m.turn else mHead m
theorem mPre_length (m : Mst) (j : Nat) (h : j ≤ 3) : (mPre m j).length = 4 + 8 * j := by
  rcases (by omega : j = 0 ∨ j = 1 ∨ j = 2 ∨ j = 3) with rfl | rfl | rfl | rfl <;> simp [mPre, mHead, key8_length]
theorem putKey (w : World) (n : Int) (h0 : -9223372036854775808 ≤ n) (h1 : n < 9223372036854775808) : Calls Tryz.prog 247 #[.int .i64 n] w fun e w' => ∃ g c, e = .returned (.slice (some ⟨g, 0, none⟩) 8 c) ∧ BytesAt w' (some ⟨g, 0, none⟩) (key8 n) ∧ w.heap.size ≤ g ∧ Fr [] w w' := by
  refine (putInt_any w n (n + 9223372036854775808).toNat (by omega) (by omega)).mono ?_
  rintro e w' ⟨v, rfl, o⟩
  obtain ⟨g, c, rfl, b, hg, -⟩ := own_at o (by omega) (be_length 8 _)
  exact ⟨g, c, rfl, b, hg, o.2⟩
theorem arr_beK4 (C : Nat) (h : C < 4294967296) : arr (beK 4 C) = #[.int .u8 ((C : Int) / 16777216), .int .u8 ((C : Int) / 65536 % 256), .int .u8 ((C : Int) / 256 % 256), .int .u8 ((C : Int) % 256)] := by
  have d1 : C / 256 / 256 / 256 = C / 16777216 := by omega
  have d2 : C / 256 / 256 = C / 65536 := by omega
  have hb : beK 4 C = [UInt8.ofNat (C / 16777216), UInt8.ofNat (C / 65536), UInt8.ofNat (C / 256), UInt8.ofNat C] := by
    rw [← d1, ← d2]
    rfl
  have e1 : (UInt8.ofNat (C / 16777216)).toNat = C / 16777216 := by rw [UInt8.toNat_ofNat']; omega
  have e2 : (UInt8.ofNat (C / 65536)).toNat = C / 65536 % 256 := by rw [UInt8.toNat_ofNat']
  have e3 : (UInt8.ofNat (C / 256)).toNat = C / 256 % 256 := by rw [UInt8.toNat_ofNat']
  have e4 : (UInt8.ofNat C).toNat = C % 256 := by rw [UInt8.toNat_ofNat']
  rw [hb]
  simp only [arr, List.map_cons, List.map_nil, e1, e2, e3, e4]
  congr 4
set_option maxHeartbeats 2000000 in
set_option maxRecDepth 100000 in
theorem laid_any (w : World) (m : Mst) (h : MOk m) : Calls Tryz.prog 188 #[.agg (mV m)] w fun e w' => ∃ g, e = .returned (.slice (some ⟨g, 0, none⟩) 512 512) ∧ Blk w' g (mBytes m) ∧ w.heap.size ≤ g ∧ Fr [] w w' := by
  obtain ⟨seq, turn, old⟩ := m
  have HM := hidI h
  clear h
  unfold mV
  dsimp only
  have fa : Fr [] w (w.alloc (.cells #[.int .i64 seq, .int .i64 turn, .int .i64 old] 159)) := (Fr.refl [] w).alloc _
  have ha := heap_alloc_new w (.cells #[.int .i64 seq, .int .i64 turn, .int .i64 old] 159)
  have HAK : Hid (∀ w', Fr [] (w.alloc (.cells #[.int .i64 seq, .int .i64 turn, .int .i64 old] 159)) w' → w'.cell? ⟨w.heap.size, 0, none⟩ = some (.int .i64 seq) ∧ w'.cell? ⟨w.heap.size, 1, none⟩ = some (.int .i64 turn) ∧ w'.cell? ⟨w.heap.size, 2, none⟩ = some (.int .i64 old)) := hidI (fun w' f => by
    have h1 := f.same (by simp) ha
    exact ⟨cell_of_row w' _ 0 _ _ _ h1, cell_of_row w' _ 1 _ _ _ h1, cell_of_row w' _ 2 _ _ _ h1⟩)
  obtain ⟨w1, hw1⟩ : ∃ w1, Hid (w.alloc (.cells #[.int .i64 seq, .int .i64 turn, .int .i64 old] 159) = w1) := ⟨_, rfl⟩
  rw [hw1.out] at HAK fa ha
  go_enter Tryz.func188, Tryz.ntmps188
  go_wp2_with (first
    | (refine wp_make5 rfl _ _ rfl rfl rfl ?_; rw [hw1.out]; intro w2 g hg f2 fr2)
    | (refine wp_appM5 rfl _ _ rfl g rfl rfl f2 ?_; intro w3 f3 fr3; have F3 : Fr [] w1 w3 := fr2.then fr3 (fun i hi e => by simp at e; omega); obtain ⟨k0, k1, k2⟩ := HAK.out w3 F3))
  go_loopw [3, 17] (fun v3 v17 wr => ∃ j : Nat, j ≤ 3 ∧ v17 = .int .i64 (j : Int) ∧ v3 = .slice (some ⟨g, 0, none⟩) (4 + 8 * j) 512 ∧ Hid (Fill wr g (mPre ⟨seq, turn, old⟩ j)) ∧ Fr [] w1 wr) (fun _ i _ => 3 - (intOf i).toNat)
  case atStart => exact ⟨0, by omega, rfl, rfl, hidI f3, F3⟩
  case round =>
    obtain ⟨j, hj, rfl, rfl, HF, FR⟩ := hrel
    have hgl : Hid (∀ g8 w', Fr [] wr w' → wr.heap.size ≤ g8 → g ≠ g8) := hidI (fun g8 w' f h8 e => by have := (HF.out : Fill wr g _); have h9 := (Array.getElem?_eq_some_iff.1 this).1; omega)
    by_cases hlt : j < 3
    · rcases (by omega : j = 0 ∨ j = 1 ∨ j = 2) with rfl | rfl | rfl
      · go_wp2_with (first
          | (refine wp_idx rfl _ _ rfl seq turn old 0 (by omega) rfl rfl ?_)
          | (go_at_call 247; refine (putKey _ seq (by have h := HM.out; have e0 := h.s0; have e1 := h.t0; have e2 := h.o0; dsimp only at e0 e1 e2; omega) (by have h := HM.out; have e0 := h.s1; have e1 := h.t1; have e2 := h.o1; dsimp only at e0 e1 e2; omega)).mono ?_; rintro e w5 ⟨g5, c5, rfl, b5, hg5, f5⟩)
          | (refine wp_app5 rfl _ _ rfl g 4 _ g5 0 8 c5 (key8 seq) rfl rfl ((HF.out : Fill _ _ _).kept f5 (by simp)) (mPre_length _ 0 (by omega)) (key8_length _) b5 (by omega) ?_; intro w6 F6 f6))
        refine ⟨⟨1, by omega, rfl, rfl, hidI F6, (FR.trans f5).then f6 (fun i hi e => by simp at e; omega)⟩, by simp [intOf]⟩
      · go_wp2_with (first
          | (refine wp_idx rfl _ _ rfl seq turn old 1 (by omega) rfl rfl ?_)
          | (go_at_call 247; refine (putKey _ turn (by have h := HM.out; have e0 := h.s0; have e1 := h.t0; have e2 := h.o0; dsimp only at e0 e1 e2; omega) (by have h := HM.out; have e0 := h.s1; have e1 := h.t1; have e2 := h.o1; dsimp only at e0 e1 e2; omega)).mono ?_; rintro e w5 ⟨g5, c5, rfl, b5, hg5, f5⟩)
          | (refine wp_app5 rfl _ _ rfl g 12 _ g5 0 8 c5 (key8 turn) rfl rfl ((HF.out : Fill _ _ _).kept f5 (by simp)) (mPre_length _ 1 (by omega)) (key8_length _) b5 (by omega) ?_; intro w6 F6 f6))
        refine ⟨⟨2, by omega, rfl, rfl, hidI F6, (FR.trans f5).then f6 (fun i hi e => by simp at e; omega)⟩, by simp [intOf]⟩
      · go_wp2_with (first
          | (refine wp_idx rfl _ _ rfl seq turn old 2 (by omega) rfl rfl ?_)
          | (go_at_call 247; refine (putKey _ old (by have h := HM.out; have e0 := h.s0; have e1 := h.t0; have e2 := h.o0; dsimp only at e0 e1 e2; omega) (by have h := HM.out; have e0 := h.s1; have e1 := h.t1; have e2 := h.o1; dsimp only at e0 e1 e2; omega)).mono ?_; rintro e w5 ⟨g5, c5, rfl, b5, hg5, f5⟩)
          | (refine wp_app5 rfl _ _ rfl g 20 _ g5 0 8 c5 (key8 old) rfl rfl ((HF.out : Fill _ _ _).kept f5 (by simp)) (mPre_length _ 2 (by omega)) (key8_length _) b5 (by omega) ?_; intro w6 F6 f6))
        refine ⟨⟨3, by omega, rfl, rfl, hidI F6, (FR.trans f5).then f6 (fun i hi e => by simp at e; omega)⟩, by simp [intOf]⟩
    · obtain rfl : j = 3 := by omega
      have hcl : crc (mHead ⟨seq, turn, old⟩) < 4294967296 := by
        have := crcL_lt (c := 4294967295) (by omega) (mHead ⟨seq, turn, old⟩)
        unfold crc
        exact Nat.xor_lt_two_pow (n := 32) (by omega) (by omega)
      have HB : BytesAt wr (some ⟨g, 0, none⟩) (mHead ⟨seq, turn, old⟩) := by
        have h1 : Blk wr g _ := HF.out
        have h2 := h1.bytes.sub 0 28
        rw [show mPre ⟨seq, turn, old⟩ 3 = mHead ⟨seq, turn, old⟩ from rfl, List.drop_zero, List.take_left' (mHead_length _)] at h2
        exact h2
      obtain ⟨C, HC⟩ : ∃ C, Hid (crc (mHead ⟨seq, turn, old⟩) = C) := ⟨_, rfl⟩
      have hcl' : C < 4294967296 := by rw [← HC.out]; exact hcl
      have FA : Fr [] wr (wr.alloc (.cells #[.int .u8 ((C : Int) / 16777216), .int .u8 ((C : Int) / 65536 % 256), .int .u8 ((C : Int) / 256 % 256), .int .u8 ((C : Int) % 256)] 5)) := (Fr.refl [] wr).alloc _
      have B4 : BytesAt (wr.alloc (.cells #[.int .u8 ((C : Int) / 16777216), .int .u8 ((C : Int) / 65536 % 256), .int .u8 ((C : Int) / 256 % 256), .int .u8 ((C : Int) % 256)] 5)) (some ⟨wr.heap.size, 0, none⟩) (beK 4 C) := by
        have e := arr_beK4 C hcl'
        refine Blk.bytes (l := beK 4 C) ?_
        unfold Blk
        rw [e]
        exact heap_alloc_new wr _
      go_wp2_with (first
        | (go_at_call 248; refine (msum_any _ _ _ _ _ (mHead_length _) HB (by omega)).mono ?_; rw [HC.out]; rintro e w5 ⟨rfl, hz⟩; rw [hz]; clear hz)
        | (refine wp_app5 rfl _ _ rfl g 28 (mHead ⟨seq, turn, old⟩) wr.heap.size 0 4 4 (beK 4 C) rfl rfl ((HF.out : Fill _ _ _).kept FA (by simp)) (mHead_length _) (by simp [beK_length]) B4 (by omega) ?_; intro w6 F6 f6))
      go_ret
      refine ⟨g, rfl, ?_, Nat.le_trans fa.size hg, fa.trans ((FR.trans FA).then f6 (fun i hi e => by simp at e; omega))⟩
      have e6 : 512 - (mHead ⟨seq, turn, old⟩ ++ beK 4 C).length = 480 := by simp [mHead_length, beK_length]
      unfold Fill at F6
      rw [e6] at F6
      unfold mBytes
      rw [HC.out]
      exact F6
end Go.Proofs.YthajipigppndgaaGreat

namespace Go.Proofs.YthajipigppndgaaGreat
open Go.RowKit Go.Maps

set_option maxHeartbeats 1000000 in
set_option maxRecDepth 100000 in
theorem inTurn_ok (w : World) (ad : Option Addr) (n c : Nat) (fl : List (FuncId × List Value)) (hn : fl.length = n) (hm : n ≤ 1000000) (I : Nat → World → Prop) (h0 : I 0 w) (hb : ∀ i w', I i w' → ∀ j p, fl[j]? = some p → ∃ g, ad = some ⟨g, 0, none⟩ ∧ w'.cell? ⟨g, j, none⟩ = some (.func (.func p.1) #[] p.2.toArray)) (hen : ∀ (i : Nat) (p : FuncId × List Value), fl[i]? = some p → ∀ w', (callFunc p.1 p.2.toArray).run Tryz.prog w' = .ok (.enter p.1 p.2.toArray) w') (hst : ∀ i p, fl[i]? = some p → ∀ w', I i w' → Calls Tryz.prog p.1 p.2.toArray w' fun e w'' => e = .returned (.int .i64 0) ∧ I (i + 1) w'') :
    Calls Tryz.prog 45 #[.slice ad n c] w fun e w' => e = .returned (.int .i64 0) ∧ I n w' := by
  have HB := hidI hb
  have HS := hidI hst
  have HN := hidI hn
  have HE := hidI hen
  clear hb hst hn hen
  go_enter Tryz.func45, Tryz.ntmps45
  go_wp2_with fail
  go_loopw [8] (fun s8 wr => ∃ i : Nat, s8 = .int .i64 (i : Int) ∧ i ≤ n ∧ Hid (I i wr)) (fun i _ => n - (intOf i).toNat)
  case atStart => exact ⟨0, rfl, by omega, hidI h0⟩
  case round =>
    obtain ⟨i, rfl, hi, HI⟩ := hrel
    by_cases hlt : i < n
    · have q1 : (i : Int) < (n : Int) := by omega
      obtain ⟨p, hp⟩ : ∃ p, fl[i]? = some p := ⟨_, List.getElem?_eq_getElem (by have := HN.out; omega)⟩
      obtain ⟨g, rfl, hg⟩ := HB.out i _ HI.out i p hp
      have HC := hidI (HS.out i p hp _ HI.out)
      have he := HE.out i p hp wr
      clear hp
      go_wp2_with fail
      refine HC.out.mono ?_
      rintro e w2 ⟨rfl, hI2⟩
      dsimp only
      go_wp2_with fail
      refine ⟨⟨i + 1, by go_num, by omega, hidI hI2⟩, ?_⟩
      simp [intOf]
      omega
    · have q1 : ¬ (i : Int) < (n : Int) := by omega
      have e : i = n := by omega
      subst e
      go_wp2_with fail
      go_ret
      exact ⟨rfl, HI.out⟩
end Go.Proofs.YthajipigppndgaaGreat

