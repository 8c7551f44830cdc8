/-
  A span that is handed in, opened.
-/
import Derived.Test.YtplboeplknggbaaGreatQBody
import Derived.Test.YtplboeplknggbaaGreatOpens2
import Derived.Lib.SmallJoins
namespace Go.Proofs.YtplboeplknggbaaGreat
open Go.RowKit Go.Maps Go.ChangeShapes Go.WideShapes Go.ChangeAt

theorem celSpan : Tryz.prog.cellsOf 42 = 4 := by kernel_rfl
theorem celI : Tryz.prog.cellsOf 3 = 1 := by kernel_rfl
theorem celS : Tryz.prog.cellsOf 37 = 1 := by kernel_rfl
/-- A span in memory: where its lists lie. -/
structure SpanAt (w : World) (a1 : Option Addr) (c1 : Nat) (l1 : List UInt8) (a2 : Option Addr) (c2 : Nat) (l2 : List UInt8) : Prop where
  b1 : BytesAt w a1 l1
  b2 : BytesAt w a2 l2
  n1 : a1 = none → l1.length = 0 ∧ c1 = 0
  n2 : a2 = none → l2.length = 0 ∧ c2 = 0
section
variable {H : Type} {enc : TypeId × Value → H} {w : World} {base : Nat} {spare : TypeId → Bool} {held : Bool}
theorem list4 {α : Type} {l : List α} (h : l.length = 4) : ∃ c0 c1 c2 c3, l = [c0, c1, c2, c3] := by
  match l, h with
  | [c0, c1, c2, c3], _ => exact ⟨c0, c1, c2, c3, rfl⟩
set_option maxRecDepth 100000 in
theorem span_open {fuel : Nat} {cs : List Value} {x : DataW H × List MemPlace} (h : DataW.trod enc Tryz.prog w base spare held fuel 42 cs = some x) :
    ∃ (blk off : Int) (a1 a2 : Option Addr) (c1 c2 : Nat) (l1 l2 : List UInt8), cs = [.int .i64 blk, .int .i64 off, .slice a1 l1.length c1, .slice a2 l2.length c2] ∧ SpanAt w a1 c1 l1 a2 c2 l2 := by
  obtain ⟨ys, m, _, _, hl, hyl, hgg⟩ := DataW.trod_struct Tryz.underlying42 h
  rw [celSpan] at hl
  obtain ⟨c0, c1, c2, c3, rfl⟩ := list4 hl
  obtain ⟨s0, s1, s2, s3, rfl⟩ := list4 hyl
  have u0 := hgg 0 _ rfl
  have u1 := hgg 1 _ rfl
  have u2 := hgg 2 _ rfl
  have u3 := hgg 3 _ rfl
  simp [celI, celS] at u0 u1 u2 u3
  obtain ⟨v6, e6, _, w6⟩ := DataW.trod_int Tryz.underlying3 u0
  obtain ⟨v7, e7, _, w7⟩ := DataW.trod_int Tryz.underlying3 u1
  obtain ⟨a8, n8, d8, L8, e8, h8, _, _, b8, z8, _⟩ := bytes_open2 u2
  obtain ⟨a9, n9, d9, L9, e9, h9, _, _, b9, z9, _⟩ := bytes_open2 u3
  simp at e6 e7 e8 e9
  subst e6 e7 e8 e9 h8 h9
  refine ⟨v6, v7, a8, a9, d8, d9, L8, L9, rfl, ⟨b8, b9, fun e => ⟨?_, z8 e⟩, fun e => ⟨?_, z9 e⟩⟩⟩
  · subst e
    cases L8 with
    | nil => rfl
    | cons x l => obtain ⟨_, _, e, _⟩ := b8.at 0 (by simp); cases e
  · subst e
    cases L9 with
    | nil => rfl
    | cons x l => obtain ⟨_, _, e, _⟩ := b9.at 0 (by simp); cases e
end
end Go.Proofs.YtplboeplknggbaaGreat
