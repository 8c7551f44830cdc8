/-
  A slice of bytes that came in, opened: with what its reading is.
-/
import Derived.Test.YtopaeomjndblkaaGreatBase
import Derived.Deep.Slices
import Derived.ProofKit
import Derived.SizedLaws
namespace Go.Proofs.YtopaeomjndblkaaGreat
open Go.RowKit Go.Deep Go.ChangeShapes Go.WideShapes Go.ChangeAt

theorem Tryz.cells5 : Tryz.prog.cellsOf 5 = 1 := by kernel_rfl

theorem u8_bounds {x : Int} (h : (Lit.int .u8 x).wf = true) : 0 ≤ x ∧ x < 256 := by
  simp [Lit.wf, show IntKind.u8.min = 0 from rfl, show IntKind.u8.max = 255 from rfl] at h
  omega

variable {H : Type} {enc : TypeId × Value → H} {w : World} {base : Nat} {spare : Nat → Bool} {held : Bool}

set_option maxRecDepth 100000 in
theorem bytes_open {fuel : Nat} {cs : List Value} {x : DataW H × List MemPlace} (h : DataW.trod enc Tryz.prog w base spare held fuel 37 cs = some x) :
    ∃ ad len cap L, cs = [.slice ad len cap] ∧ L.length = len ∧ len ≤ cap ∧ cap ≤ maxLen ∧ BytesAt w ad L := by
  rcases open_slice Tryz.underlying37 h with ⟨hcs, _⟩ | ⟨a, len, cap, m, n, D, Pl, rfl, _, hl, hm, hmm, _, hx⟩
  · exact ⟨none, 0, 0, [], hcs, rfl, Nat.le_refl _, by unfold maxLen; omega, BytesAt.nil _ _⟩
  · have hlm : len ≤ m := by rw [hmm]; split <;> omega
    rw [Tryz.cells5] at hx
    have hel : ∀ i, i < m → ∃ v : Int, w.cell? (a.add i) = some (.int .u8 v) ∧ (Lit.int .u8 v).wf = true := by
      intro i hi
      obtain ⟨cs', h1, h2⟩ := hx i hi
      obtain ⟨_, hlen, hc⟩ := World.cells?_some h1
      match cs', hlen with
      | [c0], _ =>
        obtain ⟨v0, e0, _, w0⟩ := DataW.trod_int Tryz.underlying5 h2
        simp at e0
        subst e0
        have q0 := hc 0 (by omega)
        refine ⟨v0, ?_, w0⟩
        simpa [Addr.add] using q0
    obtain ⟨f, hf⟩ := choose_lt (α := Int) hel
    refine ⟨some a, len, cap, (List.range len).map fun i => UInt8.ofNat (f i).toNat, rfl, by simp, hl, hm, ?_⟩
    intro i g hg
    have hi : i < len := by
      have := (List.getElem?_eq_some_iff.1 hg).1
      simpa [arr] using this
    have h0 := (hf 0 (by omega)).1
    obtain ⟨b, off, spot⟩ := a
    have hspot : spot = none := by simpa [Addr.add] using World.cell?_spot h0
    subst hspot
    obtain ⟨c0, w0⟩ := hf i (by omega)
    obtain ⟨w1, w2⟩ := u8_bounds w0
    refine ⟨b, off, rfl, ?_⟩
    rw [Addr.add_mid] at c0
    rw [c0, ← hg]
    have e : ((UInt8.ofNat (f i).toNat).toNat : Int) = f i := by rw [UInt8.toNat_ofNat']; omega
    simp only [arr, List.map_map, List.getElem?_map, List.getElem?_range hi, Option.map_some, Function.comp, e]

end Go.Proofs.YtopaeomjndblkaaGreat

namespace Go.Proofs.YtopaeomjndblkaaGreat
open Go.RowKit Go.Deep Go.ChangeShapes Go.WideShapes Go.ChangeAt

theorem Tryz.bytes5 : Tryz.prog.bytesOf 5 = 1 := by kernel_rfl

variable {H : Type} {enc : TypeId × Value → H} {w : World} {base : Nat} {spare : Nat → Bool} {held : Bool}

set_option maxRecDepth 100000 in
theorem bytes_open2 {fuel : Nat} {cs : List Value} {x : DataW H × List MemPlace} (h : DataW.trod enc Tryz.prog w base spare held fuel 37 cs = some x) :
    ∃ ad len cap L, cs = [.slice ad len cap] ∧ L.length = len ∧ len ≤ cap ∧ cap ≤ maxLen ∧ BytesAt w ad L ∧ (ad = none → cap = 0) ∧ (len = 0 ∨ ∃ elems sp, x.1 = .slice elems sp ∧ elems.length = len) := by
  rcases open_slice Tryz.underlying37 h with ⟨hcs, _⟩ | ⟨a, len, cap, m, n, D, Pl, rfl, _, hl, hm, hmm, hxe, hx⟩
  · exact ⟨none, 0, 0, [], hcs, rfl, Nat.le_refl _, by unfold maxLen; omega, BytesAt.nil _ _, fun _ => rfl, Or.inl rfl⟩
  · have hlm : len ≤ m := by rw [hmm]; split <;> omega
    rw [Tryz.cells5] at hx
    have hel : ∀ i, i < m → ∃ v : Int, w.cell? (a.add i) = some (.int .u8 v) ∧ (Lit.int .u8 v).wf = true := by
      intro i hi
      obtain ⟨cs', h1, h2⟩ := hx i hi
      obtain ⟨_, hlen, hc⟩ := World.cells?_some h1
      match cs', hlen with
      | [c0], _ =>
        obtain ⟨v0, e0, _, w0⟩ := DataW.trod_int Tryz.underlying5 h2
        simp at e0
        subst e0
        have q0 := hc 0 (by omega)
        refine ⟨v0, ?_, w0⟩
        simpa [Addr.add] using q0
    obtain ⟨f, hf⟩ := choose_lt (α := Int) hel
    refine ⟨some a, len, cap, (List.range len).map fun i => UInt8.ofNat (f i).toNat, rfl, by simp, hl, hm, ?_, (fun h => nomatch h), Or.inr ⟨_, _, by rw [hxe], by simp⟩⟩
    intro i g hg
    have hi : i < len := by
      have := (List.getElem?_eq_some_iff.1 hg).1
      simpa [arr] using this
    have h0 := (hf 0 (by omega)).1
    obtain ⟨b, off, spot⟩ := a
    have hspot : spot = none := by simpa [Addr.add] using World.cell?_spot h0
    subst hspot
    obtain ⟨c0, w0⟩ := hf i (by omega)
    obtain ⟨w1, w2⟩ := u8_bounds w0
    refine ⟨b, off, rfl, ?_⟩
    rw [Addr.add_mid] at c0
    rw [c0, ← hg]
    have e : ((UInt8.ofNat (f i).toNat).toNat : Int) = f i := by rw [UInt8.toNat_ofNat']; omega
    simp only [arr, List.map_map, List.getElem?_map, List.getElem?_range hi, Option.map_some, Function.comp, e]

end Go.Proofs.YtopaeomjndblkaaGreat

