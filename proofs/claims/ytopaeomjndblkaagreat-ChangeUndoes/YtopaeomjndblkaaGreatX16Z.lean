/-
  The document's page put together again: Put, New.
-/
import Derived.Test.YtopaeomjndblkaaGreatX15Z
import Derived.Deep.RegionLaw
import Derived.Laws.AppendOwnNone
namespace Go.Proofs.YtopaeomjndblkaaGreat.Pg
open Go.RowKit Go.Maps

/-- A block that begins with these bytes, of so many cells. -/
def RowB (w : World) (g c : Nat) (l : List UInt8) : Prop := ∃ tl : List Value, w.heap[g]? = some (.cells ((arr l).toList ++ tl).toArray 5) ∧ l.length + tl.length = c
theorem Blk.row {w : World} {g : Nat} {l : List UInt8} (h : Blk w g l) : RowB w g l.length l := ⟨[], by simpa [Blk] using h, by simp⟩
theorem RowB.kept {w w' : World} {g c : Nat} {l : List UInt8} {L : List Nat} (h : RowB w g c l) (k : Fr L w w') (hg : g ∉ L) : RowB w' g c l := by
  obtain ⟨tl, h1, h2⟩ := h
  exact ⟨tl, k.same hg h1, h2⟩
theorem RowB.lt {w : World} {g c : Nat} {l : List UInt8} (h : RowB w g c l) : g < w.heap.size := by
  obtain ⟨tl, h1, _⟩ := h
  exact (Array.getElem?_eq_some_iff.1 h1).1
theorem RowB.cap {w : World} {g c : Nat} {l : List UInt8} (h : RowB w g c l) : l.length ≤ c := by
  obtain ⟨tl, _, h2⟩ := h
  omega
theorem RowB.bytes {w : World} {g c : Nat} {l : List UInt8} (h : RowB w g c l) : BytesAt w (some ⟨g, 0, none⟩) l := by
  obtain ⟨tl, h1, h2⟩ := h
  intro j v hv
  refine ⟨g, 0, rfl, ?_⟩
  have hj : j < (arr l).toList.length := (List.getElem?_eq_some_iff.1 hv).1
  rw [Nat.zero_add, cell_of_row w g j _ _ _ h1, ← hv]
  rw [List.getElem?_toArray, List.getElem?_append_left hj]
theorem RowB.frozen {w : World} {g c : Nat} {l : List UInt8} (h : RowB w g c l) (j : Nat) : w.frozen? ⟨g, j, none⟩ = false := by
  obtain ⟨tl, h1, h2⟩ := h
  exact frozen_of_row w g j _ _ h1
theorem RowB.cell {w : World} {g c : Nat} {l : List UInt8} (h : RowB w g c l) (j : Nat) (hj : j < l.length) : w.cell? ⟨g, j, none⟩ = some (.int .u8 (byteAt l j).toNat) := by
  obtain ⟨b, off, e, hc⟩ := h.bytes.at j hj
  cases e
  rw [Nat.zero_add] at hc
  exact hc
theorem RowB.sl {w : World} {g c : Nat} {l : List UInt8} (h : RowB w g c l) : SlAt w (some ⟨g, 0, none⟩) l.length c l := ⟨rfl, h.bytes, h.cap⟩
theorem RowB.set {w : World} {g c : Nat} {l : List UInt8} (h : RowB w g c l) (j : Nat) (b : UInt8) (hj : j < l.length) : RowB (w.setCell ⟨g, j, none⟩ (.int .u8 b.toNat)) g c (l.set j b) := by
  obtain ⟨tl, h1, h2⟩ := h
  refine ⟨tl, ?_, by simpa using h2⟩
  rw [heap_setCell_same w g j _ _ (.int .u8 b.toNat) h1]
  congr 2
  apply Array.ext'
  simp only [Array.toList_setIfInBounds, arr, List.map_set]
  rw [List.set_append_left _ _ (by simpa using hj)]

/-- Bytes written over others, from a place on. -/
def over (p : List UInt8) (off : Nat) (l : List UInt8) : List UInt8 := p.take off ++ (l ++ p.drop (off + l.length))
theorem over_length (p : List UInt8) (off : Nat) (l : List UInt8) (h : off + l.length ≤ p.length) : (over p off l).length = p.length := by
  simp [over]; omega

section
variable {ops : Array Oper} {rest : List Oper} {o : Oper} {a : Act} {w : World} {Q : Exit → Act → World → Prop}

theorem run_copyB (g off : Nat) (dp : Option Addr) (dn dc : Nat) (ad : Option Addr) (sn sc c : Nat) (p l : List UInt8) (hg : RowB w g c p) (hl : l.length = Nat.min sn dn) (hd : 0 < l.length → dp = some ⟨g, off, none⟩) (hsrc : BytesAt w ad l) (hfit : off + l.length ≤ p.length) :
    ∃ w', (∀ ty, (Builtin.copy_ #[37, 37] ty #[.slice dp dn dc, .slice ad sn sc]).run Tryz.prog w = .ok (goInt l.length) w') ∧ RowB w' g c (over p off l) ∧ Fr [g] w w' := by
  by_cases h0 : l.length = 0
  · have e0 : l = [] := List.eq_nil_of_length_eq_zero h0
    subst e0
    refine ⟨w, ?_, by simpa [over] using hg, Fr.refl _ _⟩
    exact fun ty => run_copy_none (P := Tryz.prog) w 37 37 ty 5 dp ad dn dc sn sc Tryz.underlying37 size5 (by simpa using hl.symm)
  · obtain ⟨b0, o0, rfl, _⟩ := hsrc.at 0 (by omega)
    rw [hd (by omega)]
    obtain ⟨tl, h1, h2⟩ := hg
    have hrun := fun ty => run_copy_row Tryz.prog w 37 37 ty 5 g off dn dc ⟨b0, o0, none⟩ sn sc _ 5 (arr l).toList Tryz.underlying37 size5 h1 (by simpa [arr] using hl)
      (by
        intro j v hv
        obtain ⟨b, o', e, hc⟩ := hsrc j v hv
        cases e
        rw [Addr.add_mid]
        exact hc) (by simp [arr]; omega) (arr_one l)
    have hln : (arr l).toList.length = l.length := by simp [arr]
    simp only [hln] at hrun
    refine ⟨_, hrun, ⟨tl, ?_, by rw [over_length _ _ _ hfit]; exact h2⟩, ⟨rfl, rfl, rfl, by simp, fun i _ hn => setRow_other w g i _ (fun e => hn (by simp [e]))⟩⟩
    rw [setRow_heap w g _ _ 5 _ h1]
    refine congrArg (fun z => some (Obj.cells z 5)) (Array.ext' ?_)
    simp only [over, arr, List.toList_toArray, List.map_append, List.map_take, List.map_drop]
    rw [List.take_append_of_le_length (by simp; omega), List.drop_append_of_le_length (by simp; omega)]
    simp

theorem wp_copyB (hgd : o.guard = none) (d s : Operand) (ho : o.op = .call { callee := .builtin .copy, args := #[d, s], argTypes := #[37, 37] }) (g off : Nat) (dp : Option Addr) (dn dc : Nat) (ad : Option Addr) (sn sc c : Nat) (p l : List UInt8)
    (hd : a.eval d = .slice dp dn dc) (hs : a.eval s = .slice ad sn sc) (hg : RowB w g c p) (hl : l.length = Nat.min sn dn) (hdp : 0 < l.length → dp = some ⟨g, off, none⟩) (hsrc : BytesAt w ad l) (hfit : off + l.length ≤ p.length)
    (h : ∀ w', RowB w' g c (over p off l) → Fr [g] w w' → wpList Tryz.prog ops Q rest (a.put o.dst (goInt l.length)) w') : wpList Tryz.prog ops Q (o :: rest) a w :=
  wpList_plain hgd fun K hK => by
    obtain ⟨w', hrun, h1, h2⟩ := run_copyB g off dp dn dc ad sn sc c p l hg hl hdp hsrc hfit
    unfold Oper.wp execOp
    simp [ho, resolve, invoke, builtin, hd, hs, hrun, Result.andThen]
    exact hK _ _ (h _ h1 h2)

/-- The same as a step of a region that draws its order. -/
theorem step_copyB {K : Act → World → Prop} {E : Prop} (hgd : o.guard = none) (d s : Operand) (ho : o.op = .call { callee := .builtin .copy, args := #[d, s], argTypes := #[37, 37] }) (g off : Nat) (dp : Option Addr) (dn dc : Nat) (ad : Option Addr) (sn sc c : Nat) (p l : List UInt8)
    (hd : a.eval d = .slice dp dn dc) (hs : a.eval s = .slice ad sn sc) (hg : RowB w g c p) (hl : l.length = Nat.min sn dn) (hdp : 0 < l.length → dp = some ⟨g, off, none⟩) (hsrc : BytesAt w ad l) (hfit : off + l.length ≤ p.length)
    (h : ∀ w', RowB w' g c (over p off l) → Fr [g] w w' → K (a.put o.dst (goInt l.length)) w') :
    if Region.wanted o (yielded ops a.tmps) = true then Oper.wp Tryz.prog o a w K Q else E := by
  have hw : Region.wanted o (yielded ops a.tmps) = true := by simp [Region.wanted, hgd]
  rw [if_pos hw]
  obtain ⟨w', hrun, h1, h2⟩ := run_copyB g off dp dn dc ad sn sc c p l hg hl hdp hsrc hfit
  unfold Oper.wp
  simp [execOp, ho, resolve, invoke, builtin, hd, hs, hrun, Result.andThen]
  exact h _ h1 h2

theorem run_clearB (ty : TypeId) (ad : Option Addr) (g off n nc c : Nat) (p : List UInt8) (hg : RowB w g c p) (had : 0 < n → ad = some ⟨g, off, none⟩) (hfit : off + n ≤ p.length) :
    ∃ w', (Builtin.clear_ #[37] ty #[.slice ad n nc]).run Tryz.prog w = .ok (.tuple #[]) w' ∧ RowB w' g c (over p off (zs n)) ∧ Fr [g] w w' := by
  obtain ⟨i, hi, hz, hsz, hb⟩ := info5'
  cases n with
  | zero =>
    refine ⟨w, ?_, by simpa [over, zs] using hg, Fr.refl _ _⟩
    cases ad <;> simp [Builtin.clear_, run_underlying Tryz.underlying37]
  | succ m =>
    rw [had (by omega)]
    obtain ⟨tl, h1, h2⟩ := hg
    have hst := run_storeCells_at Tryz.prog g off 5 (arr (zs (m + 1))).toList 0 _ w h1 (by simp [arr, zs_length]; omega) (arr_one _)
    have hzc : (Builtin.zeroCells (Value.int .u8 0).cells (m + 1)).toList = (arr (zs (m + 1))).toList := by
      simp [Builtin.zeroCells, arr, zs, Value.cells]
      apply List.ext_getElem
      · simp
      · intro i h1 h2
        simp [Nat.mod_one]
    have hrun : (Builtin.clear_ #[37] ty #[.slice (some ⟨g, off, none⟩) (m + 1) nc]).run Tryz.prog w = .ok (.tuple #[]) (w.setRow g (List.take (off + 0) ((arr p).toList ++ tl).toArray.toList ++ (arr (zs (m + 1))).toList ++ List.drop (off + 0 + (arr (zs (m + 1))).toList.length) ((arr p).toList ++ tl).toArray.toList).toArray) := by
      generalize (List.take (off + 0) ((arr p).toList ++ tl).toArray.toList ++ (arr (zs (m + 1))).toList ++ List.drop (off + 0 + (arr (zs (m + 1))).toList.length) ((arr p).toList ++ tl).toArray.toList).toArray = W at hst ⊢
      simp [Builtin.clear_, run_underlying Tryz.underlying37, zeroValue, typeInfo, hi, hz, hzc, hst]
    refine ⟨_, hrun, ⟨tl, ?_, by rw [over_length _ _ _ (by rw [zs_length]; omega)]; exact h2⟩, ⟨rfl, rfl, rfl, by simp, fun i _ hn => setRow_other w g i _ (fun e => hn (by simp [e]))⟩⟩
    rw [setRow_heap w g _ _ 5 _ h1]
    refine congrArg (fun z => some (Obj.cells z 5)) (Array.ext' ?_)
    simp only [over, arr, List.toList_toArray, List.length_map, List.map_append, List.map_take, List.map_drop, Nat.add_zero]
    rw [List.take_append_of_le_length (by simp; omega), List.drop_append_of_le_length (by simp [zs_length]; omega)]
    simp

theorem wp_clearB (hgd : o.guard = none) (d : Operand) (ho : o.op = .call { callee := .builtin .clear, args := #[d], argTypes := #[37] }) (ad : Option Addr) (g off n nc c : Nat) (p : List UInt8)
    (hd : a.eval d = .slice ad n nc) (hg : RowB w g c p) (had : 0 < n → ad = some ⟨g, off, none⟩) (hfit : off + n ≤ p.length)
    (h : ∀ w', RowB w' g c (over p off (zs n)) → Fr [g] w w' → wpList Tryz.prog ops Q rest (a.put o.dst (.tuple #[])) w') : wpList Tryz.prog ops Q (o :: rest) a w :=
  wpList_plain hgd fun K hK => by
    obtain ⟨w', hrun, h1, h2⟩ := run_clearB o.type ad g off n nc c p hg had hfit
    unfold Oper.wp execOp
    simp [ho, resolve, invoke, builtin, hd, hrun, Result.andThen]
    exact hK _ _ (h _ h1 h2)
end

set_option maxHeartbeats 400000 in
set_option maxRecDepth 100000 in
theorem copied_any (w : World) (ad : Option Addr) (n c : Nat) (l : List UInt8) (hl : l.length = n) (hb : BytesAt w ad l) (hn : n ≤ 1000000) :
    Calls Tryz.prog 235 #[.slice ad n c] w fun r w' => ∃ g, r = .returned (.slice (some ⟨g, 0, none⟩) n n) ∧ Blk w' g l ∧ w.heap.size ≤ g ∧ Fr [] w w' := by
  have HL : Hid (l.length = n) := hl
  clear hl
  go_enter Tryz.func235, Tryz.ntmps235
  go_wp2_with (first
    | (refine wp_make rfl _ _ rfl n rfl rfl (by omega) ?_; intro w1 g1 hg1 b1 f1)
    | (refine wp_copyB rfl _ _ rfl g1 0 _ n n ad n c _ _ l rfl rfl b1.row (by rw [HL.out]; exact (Nat.min_self n).symm) (fun _ => rfl) (hb.kept f1 (by simp)) (by rw [HL.out]; simp) ?_; intro w2 r2 f2))
  go_ret
  refine ⟨g1, rfl, ?_, hg1, f1.then f2 (fun i hi hm => by simp at hm; omega)⟩
  obtain ⟨tl, h1, h2⟩ := r2
  rw [over_length _ _ _ (by rw [HL.out]; simp), List.length_replicate] at h2
  have : tl = [] := List.eq_nil_of_length_eq_zero (by omega)
  subst this
  unfold Blk
  rw [h1]
  simp [over, HL.out]

theorem zs_set0 (n : Nat) (k : UInt8) : (zs (n + 1)).set 0 k = k :: zs n := by simp [zs, List.replicate_succ]
theorem pgB_new (k : UInt8) : pgB k 0 [] = k :: zs 511 := by
  show k :: (UInt8.ofNat 0 :: UInt8.ofNat 0 :: UInt8.ofNat 0 :: UInt8.ofNat 0 :: UInt8.ofNat 0 :: zs 506) = k :: zs 511
  have h : zs 5 ++ zs 506 = zs 511 := zs_add 5 506
  rw [← h]
  rfl
theorem BytesAt.ifAd {w : World} {g o k c : Nat} {l : List UInt8} (h : BytesAt w (some ⟨g, o + k, none⟩) l) (h0 : c = k → l = []) : BytesAt w (if c = k then some ⟨g, o, none⟩ else some ⟨g, o + k, none⟩) l := by
  split
  · next e => rw [h0 e]; exact BytesAt.nil _ _
  · exact h

end Go.Proofs.YtopaeomjndblkaaGreat.Pg

namespace Go.Proofs.YtopaeomjndblkaaGreat.Pg
open Go.RowKit Go.Maps

theorem zeroCells_zs (m : Nat) : Builtin.zeroCells (Value.int .u8 0).cells m = arr (zs m) := by
  apply Array.ext'
  simp [Builtin.zeroCells, arr, zs, Value.cells]
  apply List.ext_getElem
  · simp
  · intro i h1 h2
    simp [Nat.mod_one]

section
variable {ops : Array Oper} {rest : List Oper} {o : Oper} {a : Act} {w : World} {Q : Exit → Act → World → Prop}
set_option maxRecDepth 100000 in
theorem run_appZ (ty : TypeId) (w0 : World) (g n cap k : Nat) (xs : List Value) (hown : Own w0 w (.slice (some ⟨g, 0, none⟩) n cap) n xs) (hk : n + k ≤ 1000000) :
    ∃ v' w', (Builtin.append_ #[37, 3] ty #[.slice (some ⟨g, 0, none⟩) n cap, .int .i64 (k : Int)]).run Tryz.prog w = .ok v' w' ∧ Own w0 w' v' (n + k) (xs ++ (arr (zs k)).toList) := by
  obtain ⟨i, hi, hz, hs, hb⟩ := info5'
  have hw : IntKind.i64.wrap (k : Int) = k := by
    unfold IntKind.wrap
    simp [IntKind.signed, IntKind.bits]
    omega
  have h0 : ¬ (k : Int) < 0 := by omega
  have h48 : ¬ (281474976710656 : Int) < (k : Int) := by omega
  have hlz : (arr (zs k)).toList.length = k := by simp [arr, zs_length]
  have hxl : xs.length = n := by have := hown.1.1; omega
  rcases hown.1.2 with ⟨e, _⟩ | ⟨g', cap', cur, e, hbg, hg, hnc, hcm, hcs, htake⟩
  · cases e
  · cases e
    have hzc : (if k = 0 then #[] else Builtin.zeroCells (Value.int .u8 0).cells k) = arr (zs k) := by
      rw [zeroCells_zs]
      split
      · next e => subst e; rfl
      · rfl
    by_cases hroom : n + k ≤ cap
    · have hst := run_storeCells_at Tryz.prog g n 5 (arr (zs k)).toList 0 cur w hg (by rw [hlz, hcs]; omega) (arr_one _)
      simp only [Nat.add_zero] at hst
      have hrun : (Builtin.append_ #[37, 3] ty #[.slice (some ⟨g, 0, none⟩) n cap, .int .i64 (k : Int)]).run Tryz.prog w = .ok (.slice (some ⟨g, 0, none⟩) (n + k) cap) (w.setRow g (List.take n cur.toList ++ (arr (zs k)).toList ++ List.drop (n + (arr (zs k)).toList.length) cur.toList).toArray) := by
        generalize (List.take n cur.toList ++ (arr (zs k)).toList ++ List.drop (n + (arr (zs k)).toList.length) cur.toList).toArray = A at hst ⊢
        by_cases hk0 : k = 0
        · subst hk0
          have ha : (arr (zs 0)).toList = [] := rfl
          rw [ha] at hst
          have hw0 : IntKind.i64.wrap 0 = 0 := rfl
          have hr0 : n ≤ cap := hroom
          simp [hw0, hr0, Builtin.append_, run_underlying Tryz.underlying37, run_underlying Tryz.underlying3, sizeOf, typeInfo, hi, hs, hb, hz, zeroValue, asInt, asIntOf, Addr.add_lit, hst]
        · have ha : (Builtin.zeroCells (Value.int .u8 0).cells k).toList = (arr (zs k)).toList := by rw [zeroCells_zs]
          simp [Builtin.append_, run_underlying Tryz.underlying37, run_underlying Tryz.underlying3, sizeOf, typeInfo, hi, hs, hb, hz, zeroValue, asInt, asIntOf, hw, h0, h48, hk0, hroom, Addr.add_lit, ha, hst]
      refine ⟨_, _, hrun, ⟨⟨by rw [List.length_append, hxl, hlz]; omega, Or.inr ⟨g, cap, _, rfl, hbg, setRow_heap w g cur _ 5 _ hg, hroom, hcm, ?_, ?_⟩⟩, hown.2.then (M := [g]) ⟨rfl, rfl, rfl, by simp, fun j hj hn => setRow_other w g j _ (fun e => hn (by simp [e]))⟩ (fun j hj hm => by simp at hm; omega)⟩⟩
      · simp only [List.size_toArray, List.length_append, List.length_take, List.length_drop, Array.length_toList, hlz]
        omega
      · have h9 : cur.toList.take n = xs := by simpa using htake
        rw [h9]
        rw [List.take_append_of_le_length (by rw [List.length_append, hxl, hlz]; omega)]
        exact List.take_of_length_le (by rw [List.length_append, hxl, hlz]; omega)
    · have h63 : ¬ (9223372036854775807 < (n : Int) + (k : Int)) := by omega
      have hfit := growslice_fits (need := n + k) (old := cap) (by omega) (show (n + k) * 1 ≤ 140737488355328 by omega)
      rw [Nat.mul_one] at hfit
      have hfit' : ¬ (281474976710656 < Builtin.nextslicecap (n + k) cap) := by omega
      have holds : ∀ j u, xs[j]? = some u → w.cell? ((⟨g, 0, none⟩ : Addr).add j) = some u := hown.1.cells (g := g) rfl
      have hfo := run_firstCells_some (P := Tryz.prog) w.drew 1 n ⟨g, 0, none⟩ n cap xs (by omega) (by simpa using holds)
      have hrun : (Builtin.append_ #[37, 3] ty #[.slice (some ⟨g, 0, none⟩) n cap, .int .i64 (k : Int)]).run Tryz.prog w = .ok (.slice (some ⟨w.heap.size, 0, none⟩) (n + k) (grownCap w (n + k) cap 5)) (w.drew.alloc (.cells (xs.toArray ++ arr (zs k) ++ Builtin.zeroCells (Value.int .u8 0).cells (grownCap w (n + k) cap 5 - (n + k))) 5)) := by
        have hk0 : k ≠ 0 := by omega
        have ha := zeroCells_zs k
        simp [Builtin.append_, run_underlying Tryz.underlying37, run_underlying Tryz.underlying3, sizeOf, typeInfo, hi, hs, hb, hz, zeroValue, asInt, asIntOf, hw, h0, h48, hk0, hroom, h63, hfit', Question.forced, hfo, ha, newRow, grownCap]
      have hge := grownCap_ge w (n + k) cap 5
      have hcm2 : grownCap w (n + k) cap 5 ≤ maxLen := grownCap_le_maxLen w (n + k) cap 5 (by unfold maxLen; omega)
      refine ⟨_, _, hrun, ⟨⟨by rw [List.length_append, hxl, hlz]; omega, Or.inr ⟨w.heap.size, _, _, rfl, hown.2.size, heap_alloc_new w.drew _, hge, hcm2, ?_, ?_⟩⟩, hown.2.drew.alloc _⟩⟩
      · simp only [Array.size_append, List.size_toArray, size_zeroCells, arr_size, zs_length, hxl]
        show n + k + (grownCap w (n + k) cap 5 - (n + k)) * 1 = _
        omega
      · simp only [Array.toList_append, List.append_assoc]
        rw [← List.append_assoc, List.take_append_of_le_length (by rw [List.length_append, hxl, hlz]; omega)]
        exact List.take_of_length_le (by rw [List.length_append, hxl, hlz]; omega)

theorem wp_appZ (hgd : o.guard = none) (s x : Operand) (ho : o.op = .call { callee := .builtin .append, args := #[s, x], argTypes := #[37, 3] }) (w0 : World) (g n cap k : Nat) (xs : List Value) (hs : a.eval s = .slice (some ⟨g, 0, none⟩) n cap) (hown : Own w0 w (.slice (some ⟨g, 0, none⟩) n cap) n xs)
    (hx : a.eval x = .int .i64 (k : Int)) (hk : n + k ≤ 1000000)
    (h : ∀ v' w', Own w0 w' v' (n + k) (xs ++ (arr (zs k)).toList) → wpList Tryz.prog ops Q rest (a.put o.dst v') w') : wpList Tryz.prog ops Q (o :: rest) a w :=
  wpList_plain hgd fun K hK => by
    obtain ⟨v', w', hrun, hown'⟩ := run_appZ o.type w0 g n cap k xs hown hk
    unfold Oper.wp execOp
    simp [ho, resolve, invoke, builtin, hs, hx, hrun, Result.andThen]
    exact hK _ _ (h _ _ hown')
end
end Go.Proofs.YtopaeomjndblkaaGreat.Pg

namespace Go.Proofs.YtopaeomjndblkaaGreat.Pg
open Go.RowKit Go.Maps

theorem infoS' : ∃ i, Tryz.prog.info? 37 = some i ∧ i.zero = some (.slice none 0 0) ∧ i.size = 1 ∧ i.bytes = 24 := by
  have h : (Tryz.prog.info? 37).map (fun i => (i.zero, i.size, i.bytes)) = some (some (.slice none 0 0), 1, 24) := by kernel_rfl
  cases hi : Tryz.prog.info? 37 with
  | none => rw [hi] at h; cases h
  | some i =>
    rw [hi] at h
    simp at h
    exact ⟨i, rfl, h.1, h.2.1, h.2.2⟩

/-- Values that lie one behind the other. -/
def ValsAt (w : World) (ad : Option Addr) (ys : List Value) : Prop := ∀ j v, ys[j]? = some v → ∃ b off, ad = some ⟨b, off, none⟩ ∧ w.cell? ⟨b, off + j, none⟩ = some v
theorem ValsAt.nil (w : World) (ad : Option Addr) : ValsAt w ad [] := fun j v hv => by simp at hv
theorem ValsAt.kept {w w' : World} {ad : Option Addr} {ys : List Value} {L : List Nat} (h : ValsAt w ad ys) (k : Fr L w w') (hL : ∀ b off, ad = some ⟨b, off, none⟩ → b ∉ L) : ValsAt w' ad ys := by
  intro j v hv
  obtain ⟨b, off, ha, hc⟩ := h j v hv
  exact ⟨b, off, ha, (World.cell?_of_block (k.block b (block_lt_of_cell hc) (hL b off ha))).trans hc⟩
theorem ValsAt.take {w : World} {ad : Option Addr} {ys : List Value} (h : ValsAt w ad ys) (m : Nat) : ValsAt w ad (ys.take m) := by
  intro j v hv
  refine h j v ?_
  rw [List.getElem?_take] at hv
  split at hv
  · exact hv
  · cases hv
theorem ValsAt.drop {w : World} {b off : Nat} {ys : List Value} (h : ValsAt w (some ⟨b, off, none⟩) ys) (m : Nat) : ValsAt w (some ⟨b, off + m, none⟩) (ys.drop m) := by
  intro j v hv
  rw [List.getElem?_drop] at hv
  obtain ⟨b', off', e, hc⟩ := h (m + j) v hv
  cases e
  exact ⟨b, off + m, rfl, by rw [Nat.add_assoc]; exact hc⟩

/-- A row of values of that kind (slices), new since w0. -/
structure OwnV (e : TypeId) (w0 w : World) (ad : Option Addr) (n cap : Nat) (xs : List Value) : Prop where
  own : w.ownsRow w0.heap.size e 1 (.slice ad n cap) n xs
  fr : Fr [] w0 w
theorem OwnV.kept {e : TypeId} {w0 w w' : World} {ad : Option Addr} {n cap : Nat} {xs : List Value} (h : OwnV e w0 w ad n cap xs) (k : Fr [] w w') : OwnV e w0 w' ad n cap xs := by
  refine ⟨?_, h.fr.trans k⟩
  obtain ⟨h1, h2⟩ := h.own
  refine ⟨h1, ?_⟩
  rcases h2 with hn | ⟨g, c, cur, hv, hb, hg, r⟩
  · exact Or.inl hn
  · exact Or.inr ⟨g, c, cur, hv, hb, k.same (by simp) hg, r⟩
/-- The same seen from an earlier world. -/
theorem OwnV.from {e : TypeId} {w1 w0 w : World} {ad : Option Addr} {n cap : Nat} {xs : List Value} (h : OwnV e w0 w ad n cap xs) (k : Fr [] w1 w0) : OwnV e w1 w ad n cap xs := by
  refine ⟨?_, k.trans h.fr⟩
  obtain ⟨h1, h2⟩ := h.own
  refine ⟨h1, ?_⟩
  rcases h2 with hn | ⟨g, c, cur, hv, hb, r⟩
  · exact Or.inl hn
  · exact Or.inr ⟨g, c, cur, hv, Nat.le_trans k.size hb, r⟩
/-- What stays of a row where other blocks are written. -/
theorem OwnV.keptL {e : TypeId} {w0 w w' : World} {ad : Option Addr} {n cap : Nat} {xs : List Value} {L : List Nat} (h : OwnV e w0 w ad n cap xs) (k : Fr L w w') (hL : ∀ g, ad = some ⟨g, 0, none⟩ → g ∉ L) (k0 : Fr [] w0 w') : OwnV e w0 w' ad n cap xs := by
  refine ⟨?_, k0⟩
  obtain ⟨h1, h2⟩ := h.own
  refine ⟨h1, ?_⟩
  rcases h2 with hn | ⟨g, c, cur, hv, hb, hg, r⟩
  · exact Or.inl hn
  · cases hv
    exact Or.inr ⟨g, cap, cur, rfl, hb, k.same (hL g rfl) hg, r⟩
theorem OwnV.nil {e : TypeId} {w0 w : World} (f : Fr [] w0 w) : OwnV e w0 w none 0 0 [] := ⟨World.ownsRow_nil _ _ _ _, f⟩
theorem OwnV.len {e : TypeId} {w0 w : World} {ad : Option Addr} {n cap : Nat} {xs : List Value} (h : OwnV e w0 w ad n cap xs) : xs.length = n := by have := h.own.1; omega
theorem OwnV.shape {e : TypeId} {w0 w : World} {ad : Option Addr} {n cap : Nat} {xs : List Value} (h : OwnV e w0 w ad n cap xs) : (ad = none ∧ n = 0 ∧ cap = 0 ∧ xs = []) ∨ ∃ g, ad = some ⟨g, 0, none⟩ ∧ n ≤ cap ∧ w0.heap.size ≤ g ∧ g < w.heap.size := by
  rcases h.own.2 with ⟨hv, hn⟩ | ⟨g, c, cur, hv, hb, hg, hnc, _⟩
  · cases hv
    exact Or.inl ⟨rfl, rfl, rfl, List.eq_nil_of_length_eq_zero h.len⟩
  · cases hv
    exact Or.inr ⟨g, rfl, hnc, hb, (Array.getElem?_eq_some_iff.1 hg).1⟩
theorem OwnV.vals {e : TypeId} {w0 w : World} {ad : Option Addr} {n cap : Nat} {xs : List Value} (h : OwnV e w0 w ad n cap xs) : ValsAt w ad xs := by
  intro j v hv
  have hl := h.len
  have hj : j < xs.length := (List.getElem?_eq_some_iff.1 hv).1
  rcases h.own.2 with ⟨hvv, hn⟩ | ⟨g, c, cur, hvv, hb, hg, hnc, _, hcs, ht⟩
  · omega
  · cases hvv
    refine ⟨g, 0, rfl, ?_⟩
    rw [Nat.zero_add, cell_of_row w g j _ _ _ hg, ← hv, ← ht, List.getElem?_take, if_pos (by omega)]
    simp

section
variable {ops : Array Oper} {rest : List Oper} {o : Oper} {a : Act} {w : World} {Q : Exit → Act → World → Prop}

theorem run_appV (ty : TypeId) (w0 : World) (ad0 : Option Addr) (n cap : Nat) (xs : List Value) (hown : OwnV 37 w0 w ad0 n cap xs) (ad : Option Addr) (m c : Nat) (ys : List Value) (hl : ys.length = m) (hsrc : ValsAt w ad ys) (h1 : ∀ u ∈ ys, u.oneCell' = true) (hm : n + m ≤ 1000000)
    (hne : ad = none → m = 0 ∧ c = 0) :
    ∃ ad' cap' w', (Builtin.append_ #[57, 57] ty #[.slice ad0 n cap, .slice ad m c]).run Tryz.prog w = .ok (.slice ad' (n + m) cap') w' ∧ OwnV 37 w0 w' ad' (n + m) cap' (xs ++ ys) := by
  obtain ⟨i, hi, hz, hs, hb⟩ := infoS'
  cases ad with
  | none =>
    obtain ⟨rfl, rfl⟩ := hne rfl
    have e0 : ys = [] := List.eq_nil_of_length_eq_zero hl
    subst e0
    refine ⟨ad0, cap, w, ?_, by simpa using hown⟩
    exact run_append_owned_none (P := Tryz.prog) (w := w) w0.heap.size 57 ty 37 i 1 Tryz.underlying57 hi _ n xs hown.own
  | some a0 =>
    obtain ⟨v', w', hrun, h2, h3, _, _⟩ := run_append_own_at (P := Tryz.prog) w w0.heap.size 57 ty 37 i (.slice none 0 0) 1 24 Tryz.underlying57 hi hz hs hb rfl (by omega) _ n xs hown.own a0 m c ys (by omega)
      (by
        intro j u hu
        obtain ⟨b, off, e, hc⟩ := hsrc j u hu
        cases e
        rw [Addr.add_mid]
        exact hc) h1 (by unfold maxLen; omega) (by omega) hown.fr.size
    have hfr := hown.fr.grown h3 (fun j e hj => by
      have := (hown.own.lt j e).1
      omega)
    rcases h2.2 with ⟨e, hn0⟩ | ⟨g, c', cur, e, r⟩
    · subst e
      have : n + m = 0 := hn0
      refine ⟨none, 0, w', ?_, ⟨?_, hfr⟩⟩
      · rw [hrun, this]
      · rw [this]; rw [this] at h2; exact h2
    · subst e
      exact ⟨_, _, w', hrun, h2, hfr⟩

theorem wp_appV (hgd : o.guard = none) (s x : Operand) (ho : o.op = .call { callee := .builtin .append, args := #[s, x], argTypes := #[57, 57] }) (w0 : World) (ad0 : Option Addr) (n cap : Nat) (xs : List Value) (hs : a.eval s = .slice ad0 n cap) (hown : OwnV 37 w0 w ad0 n cap xs)
    (ad : Option Addr) (m c : Nat) (ys : List Value) (hx : a.eval x = .slice ad m c) (hl : ys.length = m) (hsrc : ValsAt w ad ys) (h1 : ∀ u ∈ ys, u.oneCell' = true) (hm : n + m ≤ 1000000) (hne : ad = none → m = 0 ∧ c = 0)
    (h : ∀ ad' cap' w', OwnV 37 w0 w' ad' (n + m) cap' (xs ++ ys) → wpList Tryz.prog ops Q rest (a.put o.dst (.slice ad' (n + m) cap')) w') : wpList Tryz.prog ops Q (o :: rest) a w :=
  wpList_plain hgd fun K hK => by
    obtain ⟨ad', cap', w', hrun, h2⟩ := run_appV o.type w0 ad0 n cap xs hown ad m c ys hl hsrc h1 hm hne
    unfold Oper.wp execOp
    simp [ho, resolve, invoke, builtin, hs, hx, hrun, Result.andThen]
    exact hK _ _ (h _ _ _ h2)
end
end Go.Proofs.YtopaeomjndblkaaGreat.Pg

namespace Go.Proofs.YtopaeomjndblkaaGreat.Pg
open Go.RowKit Go.Maps

theorem i64_bounds {x : Int} (h : (Lit.int .i64 x).wf = true) : -9223372036854775808 ≤ x ∧ x ≤ 9223372036854775807 := by
  simp [Lit.wf, show IntKind.i64.min = -9223372036854775808 from rfl, show IntKind.i64.max = 9223372036854775807 from rfl] at h
  exact h

theorem tmod_neg {x n : Int} (h1 : 1 ≤ n) (h : x.tmod n < 0) : x.tmod n + n = x % n := by
  have e := Int.tmod_eq_emod (a := x) (b := n)
  have h2 := Int.emod_nonneg x (show n ≠ 0 by omega)
  split at e <;> omega
theorem tmod_pos {x n : Int} (h1 : 1 ≤ n) (h : 0 ≤ x.tmod n) : x.tmod n = x % n := by
  have e := Int.tmod_eq_emod (a := x) (b := n)
  have h2 := Int.emod_lt_of_pos x (show 0 < n by omega)
  split at e <;> omega
theorem wrap64_small {v : Int} (h0 : -9223372036854775808 ≤ v) (h1 : v ≤ 9223372036854775807) : wrap64 v = v := by
  unfold wrap64
  omega

set_option maxHeartbeats 400000 in
theorem pick_any (w : World) (x n : Int) (hx : (Lit.int .i64 x).wf = true) (h1 : 1 ≤ n) (h2 : n ≤ 1000000) :
    Calls Tryz.prog 40 #[.int .i64 x, .int .i64 n] w fun e w' => e = .returned (.int .i64 (x % n)) ∧ w' = w := by
  obtain ⟨b1, b2⟩ := i64_bounds hx
  have hn : ¬ n < 1 := by omega
  have g1 := Int.emod_nonneg x (show n ≠ 0 by omega)
  have g2 := Int.emod_lt_of_pos x (show 0 < n by omega)
  by_cases hneg : x.tmod n < 0
  · have e1 : Hid (wrap64 (x.tmod n + n) = x % n) := by rw [tmod_neg h1 hneg]; exact wrap64_small (by omega) (by omega)
    clear g1 g2
    go_enter Tryz.func40, Tryz.ntmps40
    go_wp2
    go_ret
    exact ⟨ret_int e1.out, rfl⟩
  · have e1 : Hid (x.tmod n = x % n) := tmod_pos h1 (by omega)
    clear g1 g2
    go_enter Tryz.func40, Tryz.ntmps40
    go_wp2
    go_ret
    exact ⟨ret_int e1.out, rfl⟩


theorem own_row {w0 w : World} {v : Value} {n : Nat} {l : List UInt8} (h : Own w0 w v n (arr l).toList) (hl : l.length = n) (h0 : 0 < n) : ∃ g cap, v = .slice (some ⟨g, 0, none⟩) n cap ∧ RowB w g cap l ∧ w0.heap.size ≤ g := by
  rcases h.1.2 with ⟨_, hn⟩ | ⟨g, cap, cur, rfl, hb, hg, hnc, _, hcs, ht⟩
  · omega
  · refine ⟨g, cap, rfl, ⟨cur.toList.drop n, ?_, ?_⟩, hb⟩
    · rw [hg]
      refine congrArg (fun z => some (Obj.cells z 5)) (Array.ext' ?_)
      have h2 : cur.toList.take n = (arr l).toList := by simpa using ht
      rw [← h2]
      simp
    · have e1 : cur.toList.length = cur.size := rfl
      rw [List.length_drop, hl]
      omega

set_option maxHeartbeats 400000 in
set_option maxRecDepth 100000 in
theorem copyBytes_any (w : World) (ad : Option Addr) (n c : Nat) (l : List UInt8) (h : SlAt w ad n c l) (hn : n ≤ 1000000) (hnil : ad = none → c = 0) :
    Calls Tryz.prog 42 #[.slice ad n c] w fun e w' => ∃ ad' cap', e = .returned (.slice ad' n cap') ∧ SlAt w' ad' n cap' l ∧ (ad' = none → cap' = 0) ∧ (0 < n → ∃ g, ad' = some ⟨g, 0, none⟩ ∧ RowB w' g cap' l ∧ w.heap.size ≤ g) ∧ Fr [] w w' := by
  obtain ⟨i, hi, hz, hs, hb⟩ := info5'
  cases ad with
  | none =>
    obtain rfl : c = 0 := hnil rfl
    obtain rfl : n = 0 := by have := h.cap; omega
    go_enter Tryz.func42, Tryz.ntmps42
    go_wp2_with (refine wpList_append_own_none rfl _ _ 37 rfl w.heap.size 5 i 1 Tryz.underlying37 hi _ 0 [] rfl (World.ownsRow_nil _ _ _ _) rfl ?_)
    go_ret
    refine ⟨none, 0, rfl, h, fun _ => rfl, ?_⟩
    first
      | exact Fr.refl _ _
      | exact ⟨fun h0 => absurd h0 (by omega), Fr.refl _ _⟩
  | some a0 =>
    have HL : Hid (l.length = n) := h.len
    go_enter Tryz.func42, Tryz.ntmps42
    go_wp2_with (refine wp_app rfl _ _ rfl w _ 0 [] rfl ⟨World.ownsRow_nil _ _ _ _, Fr.refl _ _⟩ _ n c l rfl HL.out h.bytes (by omega) (fun _ => ⟨_, rfl⟩) ?_; intro v2 w2 o2; rw [Nat.zero_add, List.nil_append] at o2)
    go_ret
    by_cases h0 : 0 < n
    · obtain ⟨g, cap, rfl, row, hg⟩ := own_row o2 HL.out h0
      refine ⟨_, cap, rfl, ⟨HL.out, row.bytes, by have := row.cap; rw [HL.out] at this; exact this⟩, (fun e => nomatch e), fun _ => ⟨g, rfl, row, hg⟩, o2.2⟩
    · obtain rfl : n = 0 := by omega
      have e0 : l = [] := List.eq_nil_of_length_eq_zero HL.out
      subst e0
      rcases o2.1.2 with ⟨rfl, _⟩ | ⟨g, cap, cur, rfl, _⟩
      · exact ⟨none, 0, rfl, ⟨rfl, BytesAt.nil _ _, Nat.le_refl _⟩, fun _ => rfl, fun h1 => absurd h1 h0, o2.2⟩
      · exact ⟨_, cap, rfl, ⟨rfl, BytesAt.nil _ _, Nat.zero_le _⟩, (fun e => nomatch e), fun h1 => absurd h1 h0, o2.2⟩

end Go.Proofs.YtopaeomjndblkaaGreat.Pg

namespace Go.Proofs.YtopaeomjndblkaaGreat.Pg
open Go.RowKit Go.Maps

def beN : Nat → Nat → List UInt8
  | 0, _ => []
  | i + 1, n => UInt8.ofNat (n / 256 ^ i) :: beN i n
theorem beN_length (i n : Nat) : (beN i n).length = i := by
  induction i with
  | zero => rfl
  | succ i ih => simp [beN, ih]
theorem beN_two (n : Nat) : beN 2 n = be2 n := by simp [beN, be2]
theorem beN_four (n : Nat) : beN 4 n = be4 n := by simp [beN, be4]
theorem over_step (p : List UInt8) (k : Nat) (b : UInt8) (l : List UInt8) (h : k + 1 + l.length ≤ p.length) : over p k (b :: l) = (over p (k + 1) l).set k b := by
  unfold over
  rw [List.take_succ_eq_append_getElem (by omega), List.append_assoc, List.set_append_right _ _ (by simp; omega)]
  simp [show k - min k p.length = 0 by omega]
  congr 1
  omega

/-! ### lists written over -/
theorem over_at (X R l : List UInt8) (k : Nat) (hk : k = X.length) : over (X ++ R) k l = X ++ (l ++ R.drop l.length) := by
  subst hk
  unfold over
  rw [List.take_left, List.drop_append, List.drop_eq_nil_of_le (by omega), List.nil_append]
  congr 3
  omega
theorem over_mid (X Y R l : List UInt8) (k : Nat) (hk : k = X.length) (hl : l.length = Y.length) : over (X ++ (Y ++ R)) k l = X ++ (l ++ R) := by
  rw [over_at X _ l k hk, hl, List.drop_left]

theorem pgB_setNext (k : UInt8) (x y : Nat) (cs : List (List UInt8)) : over (pgB k x cs) 2 (be4 y) = pgB k y cs := by
  unfold pgB
  exact over_mid [k, UInt8.ofNat cs.length] (be4 x) _ (be4 y) 2 rfl rfl

end Go.Proofs.YtopaeomjndblkaaGreat.Pg

namespace Go.Proofs.YtopaeomjndblkaaGreat.Pg

def hd6 (k : UInt8) (n x : Nat) : List UInt8 := [k, UInt8.ofNat n] ++ be4 x
theorem hd6_length (k : UInt8) (n x : Nat) : (hd6 k n x).length = 6 := rfl
theorem pgB_hd (k : UInt8) (x : Nat) (cs : List (List UInt8)) : pgB k x cs = hd6 k cs.length x ++ (enc cs ++ zs (506 - elen cs)) := by
  unfold pgB hd6; simp
theorem hd6_set (k : UInt8) (n m x : Nat) (R : List UInt8) : (hd6 k n x ++ R).set 1 (UInt8.ofNat m) = hd6 k m x ++ R := by
  unfold hd6 be4; rfl
theorem hd6_one (k : UInt8) (n x : Nat) (R : List UInt8) (h : n < 256) : (byteAt (hd6 k n x ++ R) 1).toNat = n := by
  show (UInt8.ofNat n).toNat = n
  rw [u8_ofNat_toNat]; omega
theorem zs_drop (n k : Nat) : (zs n).drop k = zs (n - k) := by simp [zs]

/-- The bytes behind the three writings of Insert, ahead of the count's. -/
theorem ins_bytes (k : UInt8) (x : Nat) (cs : List (List UInt8)) (s : Nat) (cell : List UInt8) (hf : elen cs + 2 + cell.length ≤ 506) :
    over (over (over (pgB k x cs) (slotAt cs s + 2 + cell.length) (enc (cs.drop s))) (slotAt cs s) (be2 cell.length)) (slotAt cs s + 2) cell = hd6 k cs.length x ++ (enc (insC cs s cell) ++ zs (506 - elen (insC cs s cell))) := by
  have hsp := elen_split cs s
  have hA : (hd6 k cs.length x ++ enc (cs.take s)).length = slotAt cs s := by
    rw [List.length_append, hd6_length]; rfl
  have hB : (enc (cs.drop s)).length = elen (cs.drop s) := rfl
  have e0 : pgB k x cs = (hd6 k cs.length x ++ enc (cs.take s)) ++ (enc (cs.drop s) ++ zs (506 - elen cs)) := by
    rw [pgB_hd, enc_split cs s]; simp
  obtain ⟨T, hT⟩ : ∃ T, T = enc (cs.drop s) ++ zs (506 - elen cs) := ⟨_, rfl⟩
  have hTl : T.length = elen (cs.drop s) + (506 - elen cs) := by rw [hT, List.length_append, zs_length]; rfl
  have hT3 : T = T.take 2 ++ ((T.drop 2).take cell.length ++ T.drop (2 + cell.length)) := by
    conv => lhs; rw [← List.take_append_drop 2 T, ← List.take_append_drop cell.length (T.drop 2), List.drop_drop]
  have h1 : over (pgB k x cs) (slotAt cs s + 2 + cell.length) (enc (cs.drop s)) = (hd6 k cs.length x ++ enc (cs.take s)) ++ (T.take 2 ++ ((T.drop 2).take cell.length ++ (enc (cs.drop s) ++ zs (506 - elen cs - (2 + cell.length))))) := by
    rw [e0, ← hT]
    have e1 : (hd6 k cs.length x ++ enc (cs.take s)) ++ T = ((hd6 k cs.length x ++ enc (cs.take s)) ++ (T.take 2 ++ (T.drop 2).take cell.length)) ++ T.drop (2 + cell.length) := by
      conv => lhs; rw [hT3]
      simp
    rw [e1, over_at _ _ _ _ (by rw [List.length_append, hA, List.length_append, List.length_take, List.length_take, List.length_drop]; omega)]
    rw [List.drop_drop, hT]
    have e2 : (enc (cs.drop s) ++ zs (506 - elen cs)).drop (2 + cell.length + (enc (cs.drop s)).length) = zs (506 - elen cs - (2 + cell.length)) := by
      rw [Nat.add_comm, ← List.drop_drop, List.drop_left, zs_drop]
    rw [e2]
    simp only [List.append_assoc]
  rw [h1, over_mid _ (T.take 2) _ _ _ hA.symm (by rw [be2_length, List.length_take]; omega)]
  rw [← List.append_assoc, over_mid _ ((T.drop 2).take cell.length) _ _ _ (by rw [List.length_append, hA, be2_length]) (by rw [List.length_take, List.length_drop]; omega)]
  rw [insC_enc, insC_elen]
  simp only [List.append_assoc]
  congr 6
  omega

/-- The bytes behind the two writings of Delete, ahead of the count's. -/
theorem del_bytes (k : UInt8) (x : Nat) (cs : List (List UInt8)) (s : Nat) (hs : s < cs.length) (hf : elen cs ≤ 506) :
    over (over (pgB k x cs) (slotAt cs s) (enc (cs.drop (s + 1)))) (slotAt cs s + elen (cs.drop (s + 1))) (zs (2 + cs[s].length)) = hd6 k cs.length x ++ (enc (delC cs s) ++ zs (506 - elen (delC cs s))) := by
  have hsp := elen_split cs s
  have hA : (hd6 k cs.length x ++ enc (cs.take s)).length = slotAt cs s := by
    rw [List.length_append, hd6_length]; rfl
  have hd := delC_elen cs s hs
  have hB : (enc (cs.drop (s + 1))).length = elen (cs.drop (s + 1)) := rfl
  have hBs : elen (cs.drop s) = 2 + cs[s].length + elen (cs.drop (s + 1)) := by rw [drop_at cs s hs, elen_cons]
  have e0 : pgB k x cs = (hd6 k cs.length x ++ enc (cs.take s)) ++ ((be2 cs[s].length ++ cs[s] ++ enc (cs.drop (s + 1))) ++ zs (506 - elen cs)) := by
    rw [pgB_hd, enc_split cs s, drop_at cs s hs, enc]; simp
  obtain ⟨T, hT⟩ : ∃ T, T = be2 cs[s].length ++ cs[s] ++ enc (cs.drop (s + 1)) := ⟨_, rfl⟩
  have hTl : T.length = 2 + cs[s].length + elen (cs.drop (s + 1)) := by rw [hT, List.length_append, List.length_append, be2_length]; rfl
  have h1 : over (pgB k x cs) (slotAt cs s) (enc (cs.drop (s + 1))) = (hd6 k cs.length x ++ enc (cs.take s)) ++ (enc (cs.drop (s + 1)) ++ (T.drop (elen (cs.drop (s + 1))) ++ zs (506 - elen cs))) := by
    rw [e0, ← hT, over_at _ _ _ _ hA.symm, hB, List.drop_append_of_le_length (by omega)]
  rw [h1, ← List.append_assoc, over_mid _ (T.drop (elen (cs.drop (s + 1)))) _ _ _ (by rw [List.length_append, hA]; rfl) (by rw [zs_length, List.length_drop]; omega)]
  unfold delC
  rw [enc_append, zs_add]
  simp only [List.append_assoc]
  congr 4
  have : elen (cs.take s ++ cs.drop (s + 1)) = elen (cs.take s) + elen (cs.drop (s + 1)) := elen_append _ _
  omega
theorem src_ins (k : UInt8) (x : Nat) (cs : List (List UInt8)) (s : Nat) : ((pgB k x cs).drop (slotAt cs s)).take (elen (cs.drop s)) = enc (cs.drop s) := by
  rw [pgB_slot]; exact List.take_left
theorem ins_page (k : UInt8) (x : Nat) (cs : List (List UInt8)) (s : Nat) (cell : List UInt8) (hs : s ≤ cs.length) (m : Nat) (hm : m = cs.length + 1) :
    (hd6 k cs.length x ++ (enc (insC cs s cell) ++ zs (506 - elen (insC cs s cell)))).set 1 (UInt8.ofNat m) = pgB k x (insC cs s cell) := by
  rw [hd6_set, pgB_hd, insC_length cs s cell hs, hm]
theorem del_page (k : UInt8) (x : Nat) (cs : List (List UInt8)) (s : Nat) (hs : s < cs.length) (m : Nat) (hm : m + 1 = cs.length) :
    (hd6 k cs.length x ++ (enc (delC cs s) ++ zs (506 - elen (delC cs s)))).set 1 (UInt8.ofNat m) = pgB k x (delC cs s) := by
  rw [hd6_set, pgB_hd]
  have := delC_length cs s hs
  rw [show m = (delC cs s).length by omega]
end Go.Proofs.YtopaeomjndblkaaGreat.Pg

namespace Go.Proofs.YtopaeomjndblkaaGreat.Pg
open Go.RowKit Go.Maps

theorem own_alloc {w0 w : World} (f : Fr [] w0 w) (l : List UInt8) (A : Array Value) (hA : A = arr l) (n : Nat) (hn : l.length = n) (hm : n ≤ 1000000) : Own w0 (w.alloc (.cells A 5)) (.slice (some ⟨w.heap.size, 0, none⟩) n n) n (arr l).toList := by
  subst hA
  subst hn
  refine ⟨⟨by simp [arr], Or.inr ⟨w.heap.size, l.length, arr l, rfl, f.size, heap_alloc_new w _, Nat.le_refl _, by unfold maxLen; omega, by simp [arr_size], ?_⟩⟩, f.alloc _⟩
  exact List.take_of_length_le (by simp [arr])

section
variable {ops : Array Oper} {rest : List Oper} {o : Oper} {a : Act} {w : World} {Q : Exit → Act → World → Prop}
/-- append of bytes to a row of one's own that has a place. -/
theorem wp_appB (hgd : o.guard = none) (s x : Operand) (ho : o.op = .call { callee := .builtin .append, args := #[s, x], argTypes := #[37, 37] }) (w0 : World) (g n cap : Nat) (xs : List Value) (hs : a.eval s = .slice (some ⟨g, 0, none⟩) n cap) (hown : Own w0 w (.slice (some ⟨g, 0, none⟩) n cap) n xs)
    (ad : Option Addr) (m c : Nat) (l : List UInt8) (hx : a.eval x = .slice ad m c) (hl : l.length = m) (hsrc : BytesAt w ad l) (hm : n + m ≤ 1000000) (hn : 0 < n) (hne : ad = none → m = 0 ∧ c = 0)
    (h : ∀ g' cap' w', Own w0 w' (.slice (some ⟨g', 0, none⟩) (n + m) cap') (n + m) (xs ++ (arr l).toList) → wpList Tryz.prog ops Q rest (a.put o.dst (.slice (some ⟨g', 0, none⟩) (n + m) cap')) w') : wpList Tryz.prog ops Q (o :: rest) a w := by
  obtain ⟨i, hi, hz, hsz, hb⟩ := info5'
  cases ad with
  | none =>
    obtain ⟨rfl, rfl⟩ := hne rfl
    have e0 : l = [] := List.eq_nil_of_length_eq_zero hl
    subst e0
    refine wpList_append_own_none hgd s x 37 ho w0.heap.size 5 i 1 Tryz.underlying37 hi _ n xs hs hown.1 hx ?_
    have := h g cap w (by simpa [arr] using hown)
    simpa using this
  | some a0 =>
    refine wp_app hgd s x ho w0 _ n xs hs hown (some a0) m c l hx hl hsrc hm (fun _ => ⟨_, rfl⟩) ?_
    intro v' w' o'
    rcases o'.1.2 with ⟨rfl, h0⟩ | ⟨g', cap', cur, rfl, _⟩
    · omega
    · exact h g' cap' w' o'
end

/-- A cell that the document's page has, in memory. -/
structure RCell where
  ad : Option Addr
  n : Nat
  c : Nat
  l : List UInt8
def RCell.val (e : RCell) : Value := .slice e.ad e.n e.c
structure RCell.ok (w : World) (e : RCell) : Prop where
  len : e.l.length = e.n
  bytes : BytesAt w e.ad e.l
  nil : e.ad = none → e.n = 0 ∧ e.c = 0
theorem RCell.ok.kept {w w' : World} {e : RCell} (h : e.ok w) (f : Fr [] w w') : e.ok w' := ⟨h.len, h.bytes.kept f (by simp), h.nil⟩
def rcells (E : List RCell) : List (List UInt8) := E.map RCell.l
def rvals (E : List RCell) : List Value := E.map RCell.val
theorem rcells_length (E : List RCell) : (rcells E).length = E.length := by simp [rcells]
theorem rvals_length (E : List RCell) : (rvals E).length = E.length := by simp [rvals]
theorem rvals_one (E : List RCell) : ∀ u ∈ rvals E, u.oneCell' = true := by
  intro u hu
  simp [rvals] at hu
  obtain ⟨e, _, rfl⟩ := hu
  rfl

/-- The document's page in memory: a row of cells. -/
structure RPage (w : World) (ad : Option Addr) (n cp : Nat) (E : List RCell) : Prop where
  len : E.length = n
  cap : n ≤ cp
  vals : ValsAt w ad (rvals E)
  ok : ∀ e ∈ E, e.ok w
  nil : ad = none → cp = 0
theorem RPage.kept {w w' : World} {ad : Option Addr} {n cap : Nat} {E : List RCell} (h : RPage w ad n cap E) (f : Fr [] w w') : RPage w' ad n cap E :=
  ⟨h.len, h.cap, h.vals.kept f (by simp), fun e he => (h.ok e he).kept f, h.nil⟩

def hdX (k : UInt8) (n : Nat) (X : Int) : List UInt8 := [k, UInt8.ofNat n, UInt8.ofNat (X / 16777216 % 256).toNat, UInt8.ofNat (X / 65536 % 256).toNat, UInt8.ofNat (X / 256 % 256).toNat, UInt8.ofNat (X % 256).toNat]
theorem hdX_length (k : UInt8) (n : Nat) (X : Int) : (hdX k n X).length = 6 := rfl
theorem hdX_hd6 (k : UInt8) (n x : Nat) : hdX k n (x : Int) = hd6 k n x := by
  unfold hdX hd6 be4
  have e (d : Nat) (hd : 0 < d) : UInt8.ofNat ((x : Int) / (d : Int) % 256).toNat = UInt8.ofNat (x / d) := by
    apply UInt8.toNat_inj.1
    rw [u8_ofNat_toNat, u8_ofNat_toNat]
    have h1 : ((x : Int) / (d : Int) % 256).toNat = (x / d) % 256 := by
      rw [← Int.natCast_ediv]
      omega
    rw [h1]
    omega
  have e1 := e 16777216 (by omega)
  have e2 := e 65536 (by omega)
  have e3 := e 256 (by omega)
  have e4 : UInt8.ofNat ((x : Int) % 256).toNat = UInt8.ofNat x := by
    apply UInt8.toNat_inj.1
    rw [u8_ofNat_toNat, u8_ofNat_toNat]
    omega
  rw [show ((16777216 : Nat) : Int) = 16777216 from rfl] at e1
  rw [show ((65536 : Nat) : Int) = 65536 from rfl] at e2
  rw [show ((256 : Nat) : Int) = 256 from rfl] at e3
  rw [e1, e2, e3, e4]
  rfl
theorem six_arr (k : UInt8) (n : Nat) (X K : Int) (hK : K = k.toNat) (hn : n < 256) : #[.int .u8 K, .int .u8 (n : Int), .int .u8 (X / 16777216 % 256), .int .u8 (X / 65536 % 256), .int .u8 (X / 256 % 256), .int .u8 (X % 256)] = arr (hdX k n X) := by
  apply Array.ext'
  simp [arr, hdX, hK]
  omega

theorem two_blk (w : World) (n : Nat) (h : n < 65536) : Blk (w.alloc (.cells #[.int .u8 ((n : Int) / 256), .int .u8 ((n : Int) % 256)] 5)) w.heap.size (be2 n) := by
  have e : #[Value.int .u8 ((n : Int) / 256), Value.int .u8 ((n : Int) % 256)] = arr (be2 n) := by
    apply Array.ext'
    simp [arr, be2]
    omega
  rw [e]
  exact heap_alloc_new w _

/-- What Put answers. -/
def PutTo (w : World) (k : UInt8) (n : Nat) (X : Int) (E : List RCell) (r : Ending) (w' : World) : Prop :=
  (6 + elen (rcells E) ≤ 512 ∧ 0 ≤ X ∧ X ≤ 4294967295 ∧ ∃ g c, r = .returned (.tuple #[.slice (some ⟨g, 0, none⟩) 512 c, .bool true]) ∧ RowB w' g c (hdX k n X ++ (enc (rcells E) ++ zs (506 - elen (rcells E)))) ∧ w.heap.size ≤ g ∧ Fr [] w w') ∨
  (¬ (6 + elen (rcells E) ≤ 512 ∧ 0 ≤ X ∧ X ≤ 4294967295) ∧ r = .returned (.tuple #[.slice none 0 0, .bool false]) ∧ Fr [] w w')

end Go.Proofs.YtopaeomjndblkaaGreat.Pg

