/-
  A row of deeds that is handed in, opened.
-/
import Derived.Test.YtopaeomjndblkaaGreatBase
import Derived.Deep.Slices
import Derived.ProofKit
import Derived.SizedLaws
import Derived.Test.YtopaeomjndblkaaGreatX27Z
import Derived.Lib.SmallJoins
namespace Go.Proofs.YtopaeomjndblkaaGreat
open Go.RowKit Go.Deep Go.ChangeShapes Go.WideShapes Go.ChangeAt

theorem Tryz.cells5 : Tryz.prog.cellsOf 5 = 1 := by kernel_rfl

theorem u8_bounds {x : Int} (h : (Lit.int .u8 x).wf = true) : 0 ≤ x ∧ x < 256 := by
  simp [Lit.wf, show IntKind.u8.min = 0 from rfl, show IntKind.u8.max = 255 from rfl] at h
  omega

variable {H : Type} {enc : TypeId × Value → H} {w : World} {base : Nat} {spare : Nat → Bool} {held : Bool}

set_option maxRecDepth 100000 in
theorem bytes_open {fuel : Nat} {cs : List Value} {x : DataW H × List MemPlace} (h : DataW.trod enc Tryz.prog w base spare held fuel 37 cs = some x) :
    ∃ ad len cap L, cs = [.slice ad len cap] ∧ L.length = len ∧ len ≤ cap ∧ cap ≤ maxLen ∧ BytesAt w ad L := by
  rcases open_slice Tryz.underlying37 h with ⟨hcs, _⟩ | ⟨a, len, cap, m, n, D, Pl, rfl, _, hl, hm, hmm, _, hx⟩
  · exact ⟨none, 0, 0, [], hcs, rfl, Nat.le_refl _, by unfold maxLen; omega, BytesAt.nil _ _⟩
  · have hlm : len ≤ m := by rw [hmm]; split <;> omega
    rw [Tryz.cells5] at hx
    have hel : ∀ i, i < m → ∃ v : Int, w.cell? (a.add i) = some (.int .u8 v) ∧ (Lit.int .u8 v).wf = true := by
      intro i hi
      obtain ⟨cs', h1, h2⟩ := hx i hi
      obtain ⟨_, hlen, hc⟩ := World.cells?_some h1
      match cs', hlen with
      | [c0], _ =>
        obtain ⟨v0, e0, _, w0⟩ := DataW.trod_int Tryz.underlying5 h2
        simp at e0
        subst e0
        have q0 := hc 0 (by omega)
        refine ⟨v0, ?_, w0⟩
        simpa [Addr.add] using q0
    obtain ⟨f, hf⟩ := choose_lt (α := Int) hel
    refine ⟨some a, len, cap, (List.range len).map fun i => UInt8.ofNat (f i).toNat, rfl, by simp, hl, hm, ?_⟩
    intro i g hg
    have hi : i < len := by
      have := (List.getElem?_eq_some_iff.1 hg).1
      simpa [arr] using this
    have h0 := (hf 0 (by omega)).1
    obtain ⟨b, off, spot⟩ := a
    have hspot : spot = none := by simpa [Addr.add] using World.cell?_spot h0
    subst hspot
    obtain ⟨c0, w0⟩ := hf i (by omega)
    obtain ⟨w1, w2⟩ := u8_bounds w0
    refine ⟨b, off, rfl, ?_⟩
    rw [Addr.add_mid] at c0
    rw [c0, ← hg]
    have e : ((UInt8.ofNat (f i).toNat).toNat : Int) = f i := by rw [UInt8.toNat_ofNat']; omega
    simp only [arr, List.map_map, List.getElem?_map, List.getElem?_range hi, Option.map_some, Function.comp, e]

end Go.Proofs.YtopaeomjndblkaaGreat

namespace Go.Proofs.YtopaeomjndblkaaGreat
open Go.RowKit Go.Deep Go.ChangeShapes Go.WideShapes Go.ChangeAt

theorem Tryz.bytes5 : Tryz.prog.bytesOf 5 = 1 := by kernel_rfl

variable {H : Type} {enc : TypeId × Value → H} {w : World} {base : Nat} {spare : Nat → Bool} {held : Bool}

set_option maxRecDepth 100000 in
theorem bytes_open2 {fuel : Nat} {cs : List Value} {x : DataW H × List MemPlace} (h : DataW.trod enc Tryz.prog w base spare held fuel 37 cs = some x) :
    ∃ ad len cap L, cs = [.slice ad len cap] ∧ L.length = len ∧ len ≤ cap ∧ cap ≤ maxLen ∧ BytesAt w ad L ∧ (ad = none → cap = 0) ∧ (len = 0 ∨ ∃ elems sp, x.1 = .slice elems sp ∧ elems.length = len) := by
  rcases open_slice Tryz.underlying37 h with ⟨hcs, _⟩ | ⟨a, len, cap, m, n, D, Pl, rfl, _, hl, hm, hmm, hxe, hx⟩
  · exact ⟨none, 0, 0, [], hcs, rfl, Nat.le_refl _, by unfold maxLen; omega, BytesAt.nil _ _, fun _ => rfl, Or.inl rfl⟩
  · have hlm : len ≤ m := by rw [hmm]; split <;> omega
    rw [Tryz.cells5] at hx
    have hel : ∀ i, i < m → ∃ v : Int, w.cell? (a.add i) = some (.int .u8 v) ∧ (Lit.int .u8 v).wf = true := by
      intro i hi
      obtain ⟨cs', h1, h2⟩ := hx i hi
      obtain ⟨_, hlen, hc⟩ := World.cells?_some h1
      match cs', hlen with
      | [c0], _ =>
        obtain ⟨v0, e0, _, w0⟩ := DataW.trod_int Tryz.underlying5 h2
        simp at e0
        subst e0
        have q0 := hc 0 (by omega)
        refine ⟨v0, ?_, w0⟩
        simpa [Addr.add] using q0
    obtain ⟨f, hf⟩ := choose_lt (α := Int) hel
    refine ⟨some a, len, cap, (List.range len).map fun i => UInt8.ofNat (f i).toNat, rfl, by simp, hl, hm, ?_, (fun h => nomatch h), Or.inr ⟨_, _, by rw [hxe], by simp⟩⟩
    intro i g hg
    have hi : i < len := by
      have := (List.getElem?_eq_some_iff.1 hg).1
      simpa [arr] using this
    have h0 := (hf 0 (by omega)).1
    obtain ⟨b, off, spot⟩ := a
    have hspot : spot = none := by simpa [Addr.add] using World.cell?_spot h0
    subst hspot
    obtain ⟨c0, w0⟩ := hf i (by omega)
    obtain ⟨w1, w2⟩ := u8_bounds w0
    refine ⟨b, off, rfl, ?_⟩
    rw [Addr.add_mid] at c0
    rw [c0, ← hg]
    have e : ((UInt8.ofNat (f i).toNat).toNat : Int) = f i := by rw [UInt8.toNat_ofNat']; omega
    simp only [arr, List.map_map, List.getElem?_map, List.getElem?_range hi, Option.map_some, Function.comp, e]

end Go.Proofs.YtopaeomjndblkaaGreat

namespace Go.Proofs.YtopaeomjndblkaaGreat
open Go.RowKit Go.Deep Go.ChangeShapes Go.WideShapes Go.ChangeAt

theorem Tryz.celDd : Tryz.prog.cellsOf 64 = 6 := by kernel_rfl
theorem Tryz.celDb : Tryz.prog.cellsOf 4 = 1 := by kernel_rfl
theorem Tryz.celDi : Tryz.prog.cellsOf 3 = 1 := by kernel_rfl
theorem Tryz.celDs : Tryz.prog.cellsOf 37 = 1 := by kernel_rfl
section
variable {H : Type} {enc : TypeId × Value → H} {w : World} {base : Nat} {spare : Nat → Bool} {held : Bool}
theorem list6 {α : Type} {l : List α} (h : l.length = 6) : ∃ c0 c1 c2 c3 c4 c5, l = [c0, c1, c2, c3, c4, c5] := by
  match l, h with
  | [c0, c1, c2, c3, c4, c5], _ => exact ⟨c0, c1, c2, c3, c4, c5, rfl⟩
set_option maxRecDepth 100000 in
theorem dd_open {fuel : Nat} {cs : List Value} {x : DataW H × List MemPlace} (h : DataW.trod enc Tryz.prog w base spare held fuel 64 cs = some x) : ∃ d, DdOk w d ∧ cs = ddV d := by
  obtain ⟨xs, n, _, _, hl, hxl, hff⟩ := DataW.trod_struct Tryz.underlying64 h
  rw [Tryz.celDd] at hl
  obtain ⟨c0, c1, c2, c3, c4, c5, rfl⟩ := list6 hl
  obtain ⟨y0, y1, y2, y3, y4, y5, rfl⟩ := list6 hxl
  have t0 := hff 0 _ rfl
  have t1 := hff 1 _ rfl
  have t2 := hff 2 _ rfl
  have t3 := hff 3 _ rfl
  have t4 := hff 4 _ rfl
  have t5 := hff 5 _ rfl
  simp [Tryz.celDi, Tryz.celDs, Tryz.celDb] at t0 t1 t2 t3 t4 t5
  obtain ⟨v0, e0, _, w0⟩ := DataW.trod_int Tryz.underlying3 t0
  obtain ⟨v1, e1, _, w1⟩ := DataW.trod_int Tryz.underlying3 t1
  obtain ⟨v2, e2, _, w2⟩ := DataW.trod_int Tryz.underlying3 t2
  obtain ⟨v3, e3, _, w3⟩ := DataW.trod_int Tryz.underlying3 t3
  obtain ⟨a8, n8, d8, L8, e8, h8, k8, m8, b8, z8, _⟩ := bytes_open2 t4
  obtain ⟨v5, e5, _⟩ := DataW.trod_bool Tryz.underlying4 t5
  simp at e0 e1 e2 e3 e5 e8
  subst e0 e1 e2 e3 e5 e8 h8
  refine ⟨⟨v0, v1, v2, v3, a8, d8, L8, v5⟩, ⟨w0, w1, w2, w3, b8, fun e => ⟨?_, z8 e⟩, Nat.le_trans k8 m8, k8⟩, rfl⟩
  subst e
  cases L8 with
  | nil => rfl
  | cons x l => obtain ⟨_, _, e, _⟩ := b8.at 0 (by simp); cases e
set_option maxRecDepth 100000 in
theorem dds_open {fuel : Nat} {cs : List Value} {x : DataW H × List MemPlace} (h : DataW.trod enc Tryz.prog w base spare held fuel 52 cs = some x) :
    ∃ ad len cap L, cs = [.slice ad len cap] ∧ L.length = len ∧ len ≤ cap ∧ cap ≤ maxLen ∧ DdsAt w ad L := by
  rcases open_slice Tryz.underlying52 h with ⟨hcs, _⟩ | ⟨a, len, cap, m, n, D, Pl, rfl, _, hl, hm, hmm, _, hx⟩
  · exact ⟨none, 0, 0, [], hcs, rfl, Nat.le_refl _, by unfold maxLen; omega, fun i f hf => by simp at hf⟩
  · have hlm : len ≤ m := by rw [hmm]; split <;> omega
    rw [Tryz.celDd] at hx
    have hel : ∀ i, i < m → ∃ d : DdV, DdOk w d ∧ ∀ j v, (ddV d)[j]? = some v → w.cell? ((a.add (i * 6)).add j) = some v := by
      intro i hi
      obtain ⟨cs', h1, h2⟩ := hx i hi
      obtain ⟨_, hlen, hc⟩ := World.cells?_some h1
      obtain ⟨d, hok, rfl⟩ := dd_open h2
      refine ⟨d, hok, fun j v hv => ?_⟩
      have hj := (List.getElem?_eq_some_iff.1 hv).1
      have q := hc j (by have h3 : (ddV d).length = 6 := rfl; omega)
      rw [q]
      exact hv
    haveI : Inhabited DdV := ⟨⟨0, 0, 0, 0, none, 0, [], false⟩⟩
    obtain ⟨f, hf⟩ := choose_lt (α := DdV) hel
    refine ⟨some a, len, cap, (List.range len).map f, rfl, by simp, hl, hm, ?_⟩
    intro i g hg
    have hi : i < len := by
      have := (List.getElem?_eq_some_iff.1 hg).1
      simpa using this
    have eg : g = f i := by
      rw [List.getElem?_map, List.getElem?_range hi] at hg
      simpa using hg.symm
    subst eg
    have h0 := (hf 0 (by omega)).2 0 _ rfl
    obtain ⟨b, off, spot⟩ := a
    have hspot : spot = none := by simpa [Addr.add] using World.cell?_spot h0
    subst hspot
    obtain ⟨ok, hc⟩ := hf i (by omega)
    refine ⟨ok, b, off, rfl, fun j v hv => ?_⟩
    have h3 := hc j v hv
    rw [Addr.add_mid, Addr.add_mid] at h3
    exact h3
end
end Go.Proofs.YtopaeomjndblkaaGreat

