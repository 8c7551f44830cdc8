/-
  A row of deeds that is handed in, opened.
-/
import Derived.Test.YtopaeomjndblkaaGreatBase
import Derived.Deep.Slices
import Derived.ProofKit
import Derived.SizedLaws
import Derived.Test.YtopaeomjndblkaaGreatQBody
import Derived.Lib.SmallJoins
namespace Go.Proofs.YtopaeomjndblkaaGreat
open Go.RowKit Go.Deep Go.ChangeShapes Go.WideShapes Go.ChangeAt

theorem Tryz.cells5 : Tryz.prog.cellsOf 5 = 1 := by kernel_rfl

theorem u8_bounds {x : Int} (h : (Lit.int .u8 x).wf = true) : 0 ≤ x ∧ x < 256 := by
  simp [Lit.wf, show IntKind.u8.min = 0 from rfl, show IntKind.u8.max = 255 from rfl] at h
  omega

variable {H : Type} {enc : TypeId × Value → H} {w : World} {base : Nat} {spare : Nat → Bool} {held : Bool}

set_option maxRecDepth 100000 in
theorem bytes_open {fuel : Nat} {cs : List Value} {x : DataW H × List MemPlace} (h : DataW.trod enc Tryz.prog w base spare held fuel 37 cs = some x) :
    ∃ ad len cap L, cs = [.slice ad len cap] ∧ L.length = len ∧ len ≤ cap ∧ cap ≤ maxLen ∧ BytesAt w ad L := by
  rcases open_slice Tryz.underlying37 h with ⟨hcs, _⟩ | ⟨a, len, cap, m, n, D, Pl, rfl, _, hl, hm, hmm, _, hx⟩
  · exact ⟨none, 0, 0, [], hcs, rfl, Nat.le_refl _, by unfold maxLen; omega, BytesAt.nil _ _⟩
  · have hlm : len ≤ m := by rw [hmm]; split <;> omega
    rw [Tryz.cells5] at hx
    have hel : ∀ i, i < m → ∃ v : Int, w.cell? (a.add i) = some (.int .u8 v) ∧ (Lit.int .u8 v).wf = true := by
      intro i hi
      obtain ⟨cs', h1, h2⟩ := hx i hi
      obtain ⟨_, hlen, hc⟩ := World.cells?_some h1
      match cs', hlen with
      | [c0], _ =>
        obtain ⟨v0, e0, _, w0⟩ := DataW.trod_int Tryz.underlying5 h2
        simp at e0
        subst e0
        have q0 := hc 0 (by omega)
        refine ⟨v0, ?_, w0⟩
        simpa [Addr.add] using q0
    obtain ⟨f, hf⟩ := choose_lt (α := Int) hel
    refine ⟨some a, len, cap, (List.range len).map fun i => UInt8.ofNat (f i).toNat, rfl, by simp, hl, hm, ?_⟩
    intro i g hg
    have hi : i < len := by
      have := (List.getElem?_eq_some_iff.1 hg).1
      simpa [arr] using this
    have h0 := (hf 0 (by omega)).1
    obtain ⟨b, off, spot⟩ := a
    have hspot : spot = none := by simpa [Addr.add] using World.cell?_spot h0
    subst hspot
    obtain ⟨c0, w0⟩ := hf i (by omega)
    obtain ⟨w1, w2⟩ := u8_bounds w0
    refine ⟨b, off, rfl, ?_⟩
    rw [Addr.add_mid] at c0
    rw [c0, ← hg]
    have e : ((UInt8.ofNat (f i).toNat).toNat : Int) = f i := by rw [UInt8.toNat_ofNat']; omega
    simp only [arr, List.map_map, List.getElem?_map, List.getElem?_range hi, Option.map_some, Function.comp, e]

end Go.Proofs.YtopaeomjndblkaaGreat

namespace Go.Proofs.YtopaeomjndblkaaGreat
open Go.RowKit Go.Deep Go.ChangeShapes Go.WideShapes Go.ChangeAt

theorem Tryz.bytes5 : Tryz.prog.bytesOf 5 = 1 := by kernel_rfl

variable {H : Type} {enc : TypeId × Value → H} {w : World} {base : Nat} {spare : Nat → Bool} {held : Bool}

set_option maxRecDepth 100000 in
theorem bytes_open2 {fuel : Nat} {cs : List Value} {x : DataW H × List MemPlace} (h : DataW.trod enc Tryz.prog w base spare held fuel 37 cs = some x) :
    ∃ ad len cap L, cs = [.slice ad len cap] ∧ L.length = len ∧ len ≤ cap ∧ cap ≤ maxLen ∧ BytesAt w ad L ∧ (ad = none → cap = 0) ∧ (len = 0 ∨ ∃ elems sp, x.1 = .slice elems sp ∧ elems.length = len) := by
  rcases open_slice Tryz.underlying37 h with ⟨hcs, _⟩ | ⟨a, len, cap, m, n, D, Pl, rfl, _, hl, hm, hmm, hxe, hx⟩
  · exact ⟨none, 0, 0, [], hcs, rfl, Nat.le_refl _, by unfold maxLen; omega, BytesAt.nil _ _, fun _ => rfl, Or.inl rfl⟩
  · have hlm : len ≤ m := by rw [hmm]; split <;> omega
    rw [Tryz.cells5] at hx
    have hel : ∀ i, i < m → ∃ v : Int, w.cell? (a.add i) = some (.int .u8 v) ∧ (Lit.int .u8 v).wf = true := by
      intro i hi
      obtain ⟨cs', h1, h2⟩ := hx i hi
      obtain ⟨_, hlen, hc⟩ := World.cells?_some h1
      match cs', hlen with
      | [c0], _ =>
        obtain ⟨v0, e0, _, w0⟩ := DataW.trod_int Tryz.underlying5 h2
        simp at e0
        subst e0
        have q0 := hc 0 (by omega)
        refine ⟨v0, ?_, w0⟩
        simpa [Addr.add] using q0
    obtain ⟨f, hf⟩ := choose_lt (α := Int) hel
    refine ⟨some a, len, cap, (List.range len).map fun i => UInt8.ofNat (f i).toNat, rfl, by simp, hl, hm, ?_, (fun h => nomatch h), Or.inr ⟨_, _, by rw [hxe], by simp⟩⟩
    intro i g hg
    have hi : i < len := by
      have := (List.getElem?_eq_some_iff.1 hg).1
      simpa [arr] using this
    have h0 := (hf 0 (by omega)).1
    obtain ⟨b, off, spot⟩ := a
    have hspot : spot = none := by simpa [Addr.add] using World.cell?_spot h0
    subst hspot
    obtain ⟨c0, w0⟩ := hf i (by omega)
    obtain ⟨w1, w2⟩ := u8_bounds w0
    refine ⟨b, off, rfl, ?_⟩
    rw [Addr.add_mid] at c0
    rw [c0, ← hg]
    have e : ((UInt8.ofNat (f i).toNat).toNat : Int) = f i := by rw [UInt8.toNat_ofNat']; omega
    simp only [arr, List.map_map, List.getElem?_map, List.getElem?_range hi, Option.map_some, Function.comp, e]

end Go.Proofs.YtopaeomjndblkaaGreat

namespace Go.Proofs.YtopaeomjndblkaaGreat
open Go.RowKit Go.Maps Go.ChangeShapes Go.WideShapes Go.ChangeAt

theorem celSpan : Tryz.prog.cellsOf 42 = 4 := by kernel_rfl
theorem celI : Tryz.prog.cellsOf 3 = 1 := by kernel_rfl
theorem celS : Tryz.prog.cellsOf 37 = 1 := by kernel_rfl
/-- A span in memory: where its lists lie. -/
structure SpanAt (w : World) (a1 : Option Addr) (c1 : Nat) (l1 : List UInt8) (a2 : Option Addr) (c2 : Nat) (l2 : List UInt8) : Prop where
  b1 : BytesAt w a1 l1
  b2 : BytesAt w a2 l2
  n1 : a1 = none → l1.length = 0 ∧ c1 = 0
  n2 : a2 = none → l2.length = 0 ∧ c2 = 0
section
variable {H : Type} {enc : TypeId × Value → H} {w : World} {base : Nat} {spare : TypeId → Bool} {held : Bool}
theorem list4 {α : Type} {l : List α} (h : l.length = 4) : ∃ c0 c1 c2 c3, l = [c0, c1, c2, c3] := by
  match l, h with
  | [c0, c1, c2, c3], _ => exact ⟨c0, c1, c2, c3, rfl⟩
set_option maxRecDepth 100000 in
theorem span_open {fuel : Nat} {cs : List Value} {x : DataW H × List MemPlace} (h : DataW.trod enc Tryz.prog w base spare held fuel 42 cs = some x) :
    ∃ (blk off : Int) (a1 a2 : Option Addr) (c1 c2 : Nat) (l1 l2 : List UInt8), cs = [.int .i64 blk, .int .i64 off, .slice a1 l1.length c1, .slice a2 l2.length c2] ∧ SpanAt w a1 c1 l1 a2 c2 l2 := by
  obtain ⟨ys, m, _, _, hl, hyl, hgg⟩ := DataW.trod_struct Tryz.underlying42 h
  rw [celSpan] at hl
  obtain ⟨c0, c1, c2, c3, rfl⟩ := list4 hl
  obtain ⟨s0, s1, s2, s3, rfl⟩ := list4 hyl
  have u0 := hgg 0 _ rfl
  have u1 := hgg 1 _ rfl
  have u2 := hgg 2 _ rfl
  have u3 := hgg 3 _ rfl
  simp [celI, celS] at u0 u1 u2 u3
  obtain ⟨v6, e6, _, w6⟩ := DataW.trod_int Tryz.underlying3 u0
  obtain ⟨v7, e7, _, w7⟩ := DataW.trod_int Tryz.underlying3 u1
  obtain ⟨a8, n8, d8, L8, e8, h8, _, _, b8, z8, _⟩ := bytes_open2 u2
  obtain ⟨a9, n9, d9, L9, e9, h9, _, _, b9, z9, _⟩ := bytes_open2 u3
  simp at e6 e7 e8 e9
  subst e6 e7 e8 e9 h8 h9
  refine ⟨v6, v7, a8, a9, d8, d9, L8, L9, rfl, ⟨b8, b9, fun e => ⟨?_, z8 e⟩, fun e => ⟨?_, z9 e⟩⟩⟩
  · subst e
    cases L8 with
    | nil => rfl
    | cons x l => obtain ⟨_, _, e, _⟩ := b8.at 0 (by simp); cases e
  · subst e
    cases L9 with
    | nil => rfl
    | cons x l => obtain ⟨_, _, e, _⟩ := b9.at 0 (by simp); cases e
end
end Go.Proofs.YtopaeomjndblkaaGreat

namespace Go.Proofs.YtopaeomjndblkaaGreat
open Go.RowKit Go.Deep Go.ChangeShapes Go.WideShapes Go.ChangeAt

structure DeedV where
  kind : Int
  page : Int
  blk : Int
  off : Int
  a1 : Option Addr
  c1 : Nat
  l1 : List UInt8
  a2 : Option Addr
  c2 : Nat
  l2 : List UInt8
  N : Int
  odd : Bool
structure DeedOk (w : World) (d : DeedV) : Prop where
  kind : (Lit.int .i64 d.kind).wf = true
  page : (Lit.int .i64 d.page).wf = true
  blk : (Lit.int .i64 d.blk).wf = true
  off : (Lit.int .i64 d.off).wf = true
  N : (Lit.int .i64 d.N).wf = true
  sp : SpanAt w d.a1 d.c1 d.l1 d.a2 d.c2 d.l2
  s1 : d.l1.length ≤ maxLen
  s2 : d.l2.length ≤ maxLen
  k2 : d.l2.length ≤ d.c2
/-- Its eight cells. -/
def deedV (d : DeedV) : List Value := [.int .i64 d.kind, .int .i64 d.page, .int .i64 d.blk, .int .i64 d.off, .slice d.a1 d.l1.length d.c1, .slice d.a2 d.l2.length d.c2, .int .i64 d.N, .bool d.odd]
def DeedsAt (w : World) (ad : Option Addr) (L : List DeedV) : Prop :=
  ∀ i d, L[i]? = some d → DeedOk w d ∧ ∃ b off, ad = some ⟨b, off, none⟩ ∧ ∀ j v, (deedV d)[j]? = some v → w.cell? ⟨b, off + i * 8 + j, none⟩ = some v
theorem SpanAt.kept {w w' : World} {a1 : Option Addr} {c1 : Nat} {l1 : List UInt8} {a2 : Option Addr} {c2 : Nat} {l2 : List UInt8} (h : SpanAt w a1 c1 l1 a2 c2 l2) (f : Fr [] w w') : SpanAt w' a1 c1 l1 a2 c2 l2 := ⟨h.b1.kept f (by simp), h.b2.kept f (by simp), h.n1, h.n2⟩
theorem DeedsAt.kept {w w' : World} {ad : Option Addr} {L : List DeedV} (h : DeedsAt w ad L) (k : Fr [] w w') : DeedsAt w' ad L := by
  intro i d hd
  obtain ⟨ok, b, off, ha, hc⟩ := h i d hd
  refine ⟨{ ok with sp := ok.sp.kept k }, b, off, ha, fun j v hv => ?_⟩
  have h1 := hc j v hv
  exact (World.cell?_of_block (k.block b (block_lt_of_cell h1) (by simp))).trans h1
theorem Tryz.cellsDeed : Tryz.prog.cellsOf 44 = 8 := by kernel_rfl
theorem Tryz.cellsBool : Tryz.prog.cellsOf 4 = 1 := by kernel_rfl

variable {H : Type} {enc : TypeId × Value → H} {w : World} {base : Nat} {spare : Nat → Bool} {held : Bool}
theorem list8 {α : Type} {l : List α} (h : l.length = 8) : ∃ c0 c1 c2 c3 c4 c5 c6 c7, l = [c0, c1, c2, c3, c4, c5, c6, c7] := by
  match l, h with
  | [c0, c1, c2, c3, c4, c5, c6, c7], _ => exact ⟨c0, c1, c2, c3, c4, c5, c6, c7, rfl⟩
theorem list5 {α : Type} {l : List α} (h : l.length = 5) : ∃ c0 c1 c2 c3 c4, l = [c0, c1, c2, c3, c4] := by
  match l, h with
  | [c0, c1, c2, c3, c4], _ => exact ⟨c0, c1, c2, c3, c4, rfl⟩
set_option maxRecDepth 100000 in
theorem deed_open {fuel : Nat} {cs : List Value} {x : DataW H × List MemPlace} (h : DataW.trod enc Tryz.prog w base spare held fuel 44 cs = some x) : ∃ d, DeedOk w d ∧ cs = deedV d := by
  obtain ⟨xs, n, _, _, hl, hxl, hff⟩ := DataW.trod_struct Tryz.underlying44 h
  rw [Tryz.cellsDeed] at hl
  obtain ⟨c0, c1, c2, c3, c4, c5, c6, c7, rfl⟩ := list8 hl
  obtain ⟨y0, y1, y2, y3, y4, rfl⟩ := list5 hxl
  have t0 := hff 0 _ rfl
  have t1 := hff 1 _ rfl
  have t2 := hff 2 _ rfl
  have t3 := hff 3 _ rfl
  have t4 := hff 4 _ rfl
  simp [celI, celSpan, Tryz.cellsBool] at t0 t1 t2 t3 t4
  obtain ⟨v0, e0, _, w0⟩ := DataW.trod_int Tryz.underlying3 t0
  obtain ⟨v1, e1, _, w1⟩ := DataW.trod_int Tryz.underlying3 t1
  obtain ⟨v6, e6, _, w6⟩ := DataW.trod_int Tryz.underlying3 t3
  obtain ⟨v7, e7, _⟩ := DataW.trod_bool Tryz.underlying4 t4
  obtain ⟨ys, m, _, _, _, hyl, hgg⟩ := DataW.trod_struct Tryz.underlying42 t2
  obtain ⟨s0, s1, s2, s3, rfl⟩ := list4 hyl
  have u0 := hgg 0 _ rfl
  have u1 := hgg 1 _ rfl
  have u2 := hgg 2 _ rfl
  have u3 := hgg 3 _ rfl
  simp [celI, celS] at u0 u1 u2 u3
  obtain ⟨v2, e2, _, w2⟩ := DataW.trod_int Tryz.underlying3 u0
  obtain ⟨v3, e3, _, w3⟩ := DataW.trod_int Tryz.underlying3 u1
  obtain ⟨a8, n8, d8, L8, e8, h8, k8, m8, b8, z8, _⟩ := bytes_open2 u2
  obtain ⟨a9, n9, d9, L9, e9, h9, k9, m9, b9, z9, _⟩ := bytes_open2 u3
  simp at e0 e1 e2 e3 e6 e7 e8 e9
  subst e0 e1 e2 e3 e6 e7 e8 e9 h8 h9
  refine ⟨⟨v0, v1, v2, v3, a8, d8, L8, a9, d9, L9, v6, v7⟩, ⟨w0, w1, w2, w3, w6, ⟨b8, b9, fun e => ⟨?_, z8 e⟩, fun e => ⟨?_, z9 e⟩⟩, Nat.le_trans k8 m8, Nat.le_trans k9 m9, k9⟩, rfl⟩
  · subst e
    cases L8 with
    | nil => rfl
    | cons x l => obtain ⟨_, _, e, _⟩ := b8.at 0 (by simp); cases e
  · subst e
    cases L9 with
    | nil => rfl
    | cons x l => obtain ⟨_, _, e, _⟩ := b9.at 0 (by simp); cases e
set_option maxRecDepth 100000 in
theorem deeds_open {fuel : Nat} {cs : List Value} {x : DataW H × List MemPlace} (h : DataW.trod enc Tryz.prog w base spare held fuel 22 cs = some x) :
    ∃ ad len cap L, cs = [.slice ad len cap] ∧ L.length = len ∧ len ≤ cap ∧ cap ≤ maxLen ∧ DeedsAt w ad L := by
  rcases open_slice Tryz.underlying22 h with ⟨hcs, _⟩ | ⟨a, len, cap, m, n, D, Pl, rfl, _, hl, hm, hmm, _, hx⟩
  · exact ⟨none, 0, 0, [], hcs, rfl, Nat.le_refl _, by unfold maxLen; omega, fun i f hf => by simp at hf⟩
  · have hlm : len ≤ m := by rw [hmm]; split <;> omega
    rw [Tryz.cellsDeed] at hx
    have hel : ∀ i, i < m → ∃ d : DeedV, DeedOk w d ∧ ∀ j v, (deedV d)[j]? = some v → w.cell? ((a.add (i * 8)).add j) = some v := by
      intro i hi
      obtain ⟨cs', h1, h2⟩ := hx i hi
      obtain ⟨_, hlen, hc⟩ := World.cells?_some h1
      obtain ⟨d, hok, rfl⟩ := deed_open h2
      refine ⟨d, hok, fun j v hv => ?_⟩
      have hj := (List.getElem?_eq_some_iff.1 hv).1
      have q := hc j (by have h3 : (deedV d).length = 8 := rfl; omega)
      rw [q]
      exact hv
    haveI : Inhabited DeedV := ⟨⟨0, 0, 0, 0, none, 0, [], none, 0, [], 0, false⟩⟩
    obtain ⟨f, hf⟩ := choose_lt (α := DeedV) hel
    refine ⟨some a, len, cap, (List.range len).map f, rfl, by simp, hl, hm, ?_⟩
    intro i g hg
    have hi : i < len := by
      have := (List.getElem?_eq_some_iff.1 hg).1
      simpa using this
    have eg : g = f i := by
      rw [List.getElem?_map, List.getElem?_range hi] at hg
      simpa using hg.symm
    subst eg
    have h0 := (hf 0 (by omega)).2 0 _ rfl
    obtain ⟨b, off, spot⟩ := a
    have hspot : spot = none := by simpa [Addr.add] using World.cell?_spot h0
    subst hspot
    obtain ⟨ok, hc⟩ := hf i (by omega)
    refine ⟨ok, b, off, rfl, fun j v hv => ?_⟩
    have h3 := hc j v hv
    rw [Addr.add_mid, Addr.add_mid] at h3
    exact h3
end Go.Proofs.YtopaeomjndblkaaGreat

