/-
  Rows of bytes that are written over: copy, clear; the program's copied.
-/
import Derived.Test.YtopaeomjndblkaaGreatQBody
import Derived.Deep.RegionLaw
namespace Go.Proofs.YtopaeomjndblkaaGreat
open Go.RowKit Go.Maps

def zs (n : Nat) : List UInt8 := List.replicate n 0
theorem zs_length (n : Nat) : (zs n).length = n := by simp [zs]
theorem zs_add (m n : Nat) : zs m ++ zs n = zs (m + n) := by simp [zs]
structure SlAt (w : World) (ad : Option Addr) (n c : Nat) (l : List UInt8) : Prop where
  len : l.length = n
  bytes : BytesAt w ad l
  cap : n ≤ c

/-- A block that begins with these bytes, of so many cells. -/
def RowB (w : World) (g c : Nat) (l : List UInt8) : Prop := ∃ tl : List Value, w.heap[g]? = some (.cells ((arr l).toList ++ tl).toArray 5) ∧ l.length + tl.length = c
theorem Blk.row {w : World} {g : Nat} {l : List UInt8} (h : Blk w g l) : RowB w g l.length l := ⟨[], by simpa [Blk] using h, by simp⟩
theorem RowB.kept {w w' : World} {g c : Nat} {l : List UInt8} {L : List Nat} (h : RowB w g c l) (k : Fr L w w') (hg : g ∉ L) : RowB w' g c l := by
  obtain ⟨tl, h1, h2⟩ := h
  exact ⟨tl, k.same hg h1, h2⟩
theorem RowB.lt {w : World} {g c : Nat} {l : List UInt8} (h : RowB w g c l) : g < w.heap.size := by
  obtain ⟨tl, h1, _⟩ := h
  exact (Array.getElem?_eq_some_iff.1 h1).1
theorem RowB.cap {w : World} {g c : Nat} {l : List UInt8} (h : RowB w g c l) : l.length ≤ c := by
  obtain ⟨tl, _, h2⟩ := h
  omega
theorem RowB.bytes {w : World} {g c : Nat} {l : List UInt8} (h : RowB w g c l) : BytesAt w (some ⟨g, 0, none⟩) l := by
  obtain ⟨tl, h1, h2⟩ := h
  intro j v hv
  refine ⟨g, 0, rfl, ?_⟩
  have hj : j < (arr l).toList.length := (List.getElem?_eq_some_iff.1 hv).1
  rw [Nat.zero_add, cell_of_row w g j _ _ _ h1, ← hv]
  rw [List.getElem?_toArray, List.getElem?_append_left hj]
theorem RowB.frozen {w : World} {g c : Nat} {l : List UInt8} (h : RowB w g c l) (j : Nat) : w.frozen? ⟨g, j, none⟩ = false := by
  obtain ⟨tl, h1, h2⟩ := h
  exact frozen_of_row w g j _ _ h1
theorem RowB.cell {w : World} {g c : Nat} {l : List UInt8} (h : RowB w g c l) (j : Nat) (hj : j < l.length) : w.cell? ⟨g, j, none⟩ = some (.int .u8 (byteAt l j).toNat) := by
  obtain ⟨b, off, e, hc⟩ := h.bytes.at j hj
  cases e
  rw [Nat.zero_add] at hc
  exact hc
theorem RowB.sl {w : World} {g c : Nat} {l : List UInt8} (h : RowB w g c l) : SlAt w (some ⟨g, 0, none⟩) l.length c l := ⟨rfl, h.bytes, h.cap⟩
theorem RowB.set {w : World} {g c : Nat} {l : List UInt8} (h : RowB w g c l) (j : Nat) (b : UInt8) (hj : j < l.length) : RowB (w.setCell ⟨g, j, none⟩ (.int .u8 b.toNat)) g c (l.set j b) := by
  obtain ⟨tl, h1, h2⟩ := h
  refine ⟨tl, ?_, by simpa using h2⟩
  rw [heap_setCell_same w g j _ _ (.int .u8 b.toNat) h1]
  congr 2
  apply Array.ext'
  simp only [Array.toList_setIfInBounds, arr, List.map_set]
  rw [List.set_append_left _ _ (by simpa using hj)]

/-- Bytes written over others, from a place on. -/
def over (p : List UInt8) (off : Nat) (l : List UInt8) : List UInt8 := p.take off ++ (l ++ p.drop (off + l.length))
theorem over_length (p : List UInt8) (off : Nat) (l : List UInt8) (h : off + l.length ≤ p.length) : (over p off l).length = p.length := by
  simp [over]; omega

section
variable {ops : Array Oper} {rest : List Oper} {o : Oper} {a : Act} {w : World} {Q : Exit → Act → World → Prop}

theorem run_copyB (g off : Nat) (dp : Option Addr) (dn dc : Nat) (ad : Option Addr) (sn sc c : Nat) (p l : List UInt8) (hg : RowB w g c p) (hl : l.length = Nat.min sn dn) (hd : 0 < l.length → dp = some ⟨g, off, none⟩) (hsrc : BytesAt w ad l) (hfit : off + l.length ≤ p.length) :
    ∃ w', (∀ ty, (Builtin.copy_ #[37, 37] ty #[.slice dp dn dc, .slice ad sn sc]).run Tryz.prog w = .ok (goInt l.length) w') ∧ RowB w' g c (over p off l) ∧ Fr [g] w w' := by
  by_cases h0 : l.length = 0
  · have e0 : l = [] := List.eq_nil_of_length_eq_zero h0
    subst e0
    refine ⟨w, ?_, by simpa [over] using hg, Fr.refl _ _⟩
    exact fun ty => run_copy_none (P := Tryz.prog) w 37 37 ty 5 dp ad dn dc sn sc Tryz.underlying37 size5 (by simpa using hl.symm)
  · obtain ⟨b0, o0, rfl, _⟩ := hsrc.at 0 (by omega)
    rw [hd (by omega)]
    obtain ⟨tl, h1, h2⟩ := hg
    have hrun := fun ty => run_copy_row Tryz.prog w 37 37 ty 5 g off dn dc ⟨b0, o0, none⟩ sn sc _ 5 (arr l).toList Tryz.underlying37 size5 h1 (by simpa [arr] using hl)
      (by
        intro j v hv
        obtain ⟨b, o', e, hc⟩ := hsrc j v hv
        cases e
        rw [Addr.add_mid]
        exact hc) (by simp [arr]; omega) (arr_one l)
    have hln : (arr l).toList.length = l.length := by simp [arr]
    simp only [hln] at hrun
    refine ⟨_, hrun, ⟨tl, ?_, by rw [over_length _ _ _ hfit]; exact h2⟩, ⟨rfl, rfl, rfl, by simp, fun i _ hn => setRow_other w g i _ (fun e => hn (by simp [e]))⟩⟩
    rw [setRow_heap w g _ _ 5 _ h1]
    refine congrArg (fun z => some (Obj.cells z 5)) (Array.ext' ?_)
    simp only [over, arr, List.toList_toArray, List.map_append, List.map_take, List.map_drop]
    rw [List.take_append_of_le_length (by simp; omega), List.drop_append_of_le_length (by simp; omega)]
    simp

theorem wp_copyB (hgd : o.guard = none) (d s : Operand) (ho : o.op = .call { callee := .builtin .copy, args := #[d, s], argTypes := #[37, 37] }) (g off : Nat) (dp : Option Addr) (dn dc : Nat) (ad : Option Addr) (sn sc c : Nat) (p l : List UInt8)
    (hd : a.eval d = .slice dp dn dc) (hs : a.eval s = .slice ad sn sc) (hg : RowB w g c p) (hl : l.length = Nat.min sn dn) (hdp : 0 < l.length → dp = some ⟨g, off, none⟩) (hsrc : BytesAt w ad l) (hfit : off + l.length ≤ p.length)
    (h : ∀ w', RowB w' g c (over p off l) → Fr [g] w w' → wpList Tryz.prog ops Q rest (a.put o.dst (goInt l.length)) w') : wpList Tryz.prog ops Q (o :: rest) a w :=
  wpList_plain hgd fun K hK => by
    obtain ⟨w', hrun, h1, h2⟩ := run_copyB g off dp dn dc ad sn sc c p l hg hl hdp hsrc hfit
    unfold Oper.wp execOp
    simp [ho, resolve, invoke, builtin, hd, hs, hrun, Result.andThen]
    exact hK _ _ (h _ h1 h2)

/-- The same as a step of a region that draws its order. -/
theorem step_copyB {K : Act → World → Prop} {E : Prop} (hgd : o.guard = none) (d s : Operand) (ho : o.op = .call { callee := .builtin .copy, args := #[d, s], argTypes := #[37, 37] }) (g off : Nat) (dp : Option Addr) (dn dc : Nat) (ad : Option Addr) (sn sc c : Nat) (p l : List UInt8)
    (hd : a.eval d = .slice dp dn dc) (hs : a.eval s = .slice ad sn sc) (hg : RowB w g c p) (hl : l.length = Nat.min sn dn) (hdp : 0 < l.length → dp = some ⟨g, off, none⟩) (hsrc : BytesAt w ad l) (hfit : off + l.length ≤ p.length)
    (h : ∀ w', RowB w' g c (over p off l) → Fr [g] w w' → K (a.put o.dst (goInt l.length)) w') :
    if Region.wanted o (yielded ops a.tmps) = true then Oper.wp Tryz.prog o a w K Q else E := by
  have hw : Region.wanted o (yielded ops a.tmps) = true := by simp [Region.wanted, hgd]
  rw [if_pos hw]
  obtain ⟨w', hrun, h1, h2⟩ := run_copyB g off dp dn dc ad sn sc c p l hg hl hdp hsrc hfit
  unfold Oper.wp
  simp [execOp, ho, resolve, invoke, builtin, hd, hs, hrun, Result.andThen]
  exact h _ h1 h2

theorem run_clearB (ty : TypeId) (ad : Option Addr) (g off n nc c : Nat) (p : List UInt8) (hg : RowB w g c p) (had : 0 < n → ad = some ⟨g, off, none⟩) (hfit : off + n ≤ p.length) :
    ∃ w', (Builtin.clear_ #[37] ty #[.slice ad n nc]).run Tryz.prog w = .ok (.tuple #[]) w' ∧ RowB w' g c (over p off (zs n)) ∧ Fr [g] w w' := by
  obtain ⟨i, hi, hz, hsz, hb⟩ := info5'
  cases n with
  | zero =>
    refine ⟨w, ?_, by simpa [over, zs] using hg, Fr.refl _ _⟩
    cases ad <;> simp [Builtin.clear_, run_underlying Tryz.underlying37]
  | succ m =>
    rw [had (by omega)]
    obtain ⟨tl, h1, h2⟩ := hg
    have hst := run_storeCells_at Tryz.prog g off 5 (arr (zs (m + 1))).toList 0 _ w h1 (by simp [arr, zs_length]; omega) (arr_one _)
    have hzc : (Builtin.zeroCells (Value.int .u8 0).cells (m + 1)).toList = (arr (zs (m + 1))).toList := by
      simp [Builtin.zeroCells, arr, zs, Value.cells]
      apply List.ext_getElem
      · simp
      · intro i h1 h2
        simp [Nat.mod_one]
    have hrun : (Builtin.clear_ #[37] ty #[.slice (some ⟨g, off, none⟩) (m + 1) nc]).run Tryz.prog w = .ok (.tuple #[]) (w.setRow g (List.take (off + 0) ((arr p).toList ++ tl).toArray.toList ++ (arr (zs (m + 1))).toList ++ List.drop (off + 0 + (arr (zs (m + 1))).toList.length) ((arr p).toList ++ tl).toArray.toList).toArray) := by
      generalize (List.take (off + 0) ((arr p).toList ++ tl).toArray.toList ++ (arr (zs (m + 1))).toList ++ List.drop (off + 0 + (arr (zs (m + 1))).toList.length) ((arr p).toList ++ tl).toArray.toList).toArray = W at hst ⊢
      simp [Builtin.clear_, run_underlying Tryz.underlying37, zeroValue, typeInfo, hi, hz, hzc, hst]
    refine ⟨_, hrun, ⟨tl, ?_, by rw [over_length _ _ _ (by rw [zs_length]; omega)]; exact h2⟩, ⟨rfl, rfl, rfl, by simp, fun i _ hn => setRow_other w g i _ (fun e => hn (by simp [e]))⟩⟩
    rw [setRow_heap w g _ _ 5 _ h1]
    refine congrArg (fun z => some (Obj.cells z 5)) (Array.ext' ?_)
    simp only [over, arr, List.toList_toArray, List.length_map, List.map_append, List.map_take, List.map_drop, Nat.add_zero]
    rw [List.take_append_of_le_length (by simp; omega), List.drop_append_of_le_length (by simp [zs_length]; omega)]
    simp

theorem wp_clearB (hgd : o.guard = none) (d : Operand) (ho : o.op = .call { callee := .builtin .clear, args := #[d], argTypes := #[37] }) (ad : Option Addr) (g off n nc c : Nat) (p : List UInt8)
    (hd : a.eval d = .slice ad n nc) (hg : RowB w g c p) (had : 0 < n → ad = some ⟨g, off, none⟩) (hfit : off + n ≤ p.length)
    (h : ∀ w', RowB w' g c (over p off (zs n)) → Fr [g] w w' → wpList Tryz.prog ops Q rest (a.put o.dst (.tuple #[])) w') : wpList Tryz.prog ops Q (o :: rest) a w :=
  wpList_plain hgd fun K hK => by
    obtain ⟨w', hrun, h1, h2⟩ := run_clearB o.type ad g off n nc c p hg had hfit
    unfold Oper.wp execOp
    simp [ho, resolve, invoke, builtin, hd, hrun, Result.andThen]
    exact hK _ _ (h _ h1 h2)
end


/-- Bytes that were copied to new memory, or none. -/
structure CopAt (w0 w : World) (ad : Option Addr) (l : List UInt8) : Prop where
  nil : ad = none → l.length = 0
  at' : ∀ a, ad = some a → ∃ g, a = ⟨g, 0, none⟩ ∧ w0.heap.size ≤ g ∧ Blk w g l ∧ 0 < l.length
theorem CopAt.bytes {w0 w : World} {ad : Option Addr} {l : List UInt8} (h : CopAt w0 w ad l) : BytesAt w ad l := by
  cases ad with
  | none =>
    have : l = [] := List.eq_nil_of_length_eq_zero (h.nil rfl)
    subst this
    exact BytesAt.nil _ _
  | some a =>
    obtain ⟨g, rfl, _, b, _⟩ := h.at' a rfl
    exact b.bytes
theorem CopAt.kept {w0 w w' : World} {ad : Option Addr} {l : List UInt8} {L : List Nat} (h : CopAt w0 w ad l) (f : Fr L w w') (hL : ∀ g ∈ L, ∀ cur t, w.heap[g]? = some (.cells cur t) → t ≠ 5) : CopAt w0 w' ad l := by
  refine ⟨h.nil, fun a e => ?_⟩
  obtain ⟨g, rfl, h1, b, h2⟩ := h.at' a e
  exact ⟨g, rfl, h1, b.kept f (fun hg => hL g hg _ _ b rfl), h2⟩

set_option maxHeartbeats 400000 in
set_option maxRecDepth 100000 in
theorem copied_any (w : World) (ad : Option Addr) (n c : Nat) (l : List UInt8) (hl : l.length = n) (hb : BytesAt w ad l) (hn : n ≤ 1000000) :
    Calls Tryz.prog 228 #[.slice ad n c] w fun r w' => ∃ ad', r = .returned (.slice ad' n n) ∧ CopAt w w' ad' l ∧ Fr [] w w' := by
  have HL : Hid (l.length = n) := hl
  by_cases h0 : n = 0
  · have h0' : ((n : Int) == 0) = true := by rw [beq_iff_eq]; omega
    clear hl
    go_enter Tryz.func228, Tryz.ntmps228
    go_wp2_with fail
    go_ret
    subst h0
    exact ⟨none, rfl, ⟨fun _ => HL.out, (fun _ e => nomatch e)⟩, Fr.refl _ _⟩
  · have h0' : ((n : Int) == 0) = false := by rw [beq_eq_false_iff_ne]; omega
    clear hl
    go_enter Tryz.func228, Tryz.ntmps228
    go_wp2_with (first
      | (refine wp_make rfl _ _ rfl n rfl rfl (by omega) ?_; intro w1 g1 hg1 b1 f1)
      | (refine wp_copyB rfl _ _ rfl g1 0 _ n n ad n c _ _ l rfl rfl b1.row (by rw [HL.out]; exact (Nat.min_self n).symm) (fun _ => rfl) (hb.kept f1 (by simp)) (by rw [HL.out]; simp) ?_; intro w2 r2 f2))
    go_ret
    refine ⟨some ⟨g1, 0, none⟩, rfl, ⟨fun e => (nomatch e), fun a e => ?_⟩, f1.then f2 (fun i hi hm => by simp at hm; omega)⟩
    cases e
    refine ⟨g1, rfl, hg1, ?_, by rw [HL.out]; omega⟩
    obtain ⟨tl, h1, h2⟩ := r2
    rw [over_length _ _ _ (by rw [HL.out]; simp), List.length_replicate] at h2
    have : tl = [] := List.eq_nil_of_length_eq_zero (by omega)
    subst this
    unfold Blk
    rw [h1]
    simp [over, HL.out]

end Go.Proofs.YtopaeomjndblkaaGreat
