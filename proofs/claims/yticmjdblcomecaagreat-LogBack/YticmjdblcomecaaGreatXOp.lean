/-
  A record that is handed in, opened, with how long its lists may be.
-/
import Derived.Test.YticmjdblcomecaaGreatQBody
import Derived.Test.YticmjdblcomecaaGreatOpens2
import Derived.Lib.SmallJoins
import Derived.SizedLaws
namespace Go.Proofs.YticmjdblcomecaaGreat
open Go.RowKit Go.Maps Go.ChangeShapes Go.WideShapes Go.ChangeAt

theorem celRec : Tryz.prog.cellsOf 27 = 10 := by kernel_rfl
theorem celSpan : Tryz.prog.cellsOf 25 = 4 := by kernel_rfl
theorem celI64 : Tryz.prog.cellsOf 2 = 1 := by kernel_rfl
theorem celI : Tryz.prog.cellsOf 3 = 1 := by kernel_rfl
theorem celK : Tryz.prog.cellsOf 22 = 1 := by kernel_rfl
theorem celS : Tryz.prog.cellsOf 23 = 1 := by kernel_rfl

section
variable {H : Type} {enc : TypeId × Value → H} {w : World} {base : Nat} {spare : TypeId → Bool} {held : Bool}
theorem list10 {α : Type} {l : List α} (h : l.length = 10) : ∃ c0 c1 c2 c3 c4 c5 c6 c7 c8 c9, l = [c0, c1, c2, c3, c4, c5, c6, c7, c8, c9] := by
  match l, h with
  | [c0, c1, c2, c3, c4, c5, c6, c7, c8, c9], _ => exact ⟨c0, c1, c2, c3, c4, c5, c6, c7, c8, c9, rfl⟩
theorem list7 {α : Type} {l : List α} (h : l.length = 7) : ∃ c0 c1 c2 c3 c4 c5 c6, l = [c0, c1, c2, c3, c4, c5, c6] := by
  match l, h with
  | [c0, c1, c2, c3, c4, c5, c6], _ => exact ⟨c0, c1, c2, c3, c4, c5, c6, rfl⟩
theorem list4 {α : Type} {l : List α} (h : l.length = 4) : ∃ c0 c1 c2 c3, l = [c0, c1, c2, c3] := by
  match l, h with
  | [c0, c1, c2, c3], _ => exact ⟨c0, c1, c2, c3, rfl⟩
set_option maxRecDepth 100000 in
theorem rec_open {fuel : Nat} {cs : List Value} {x : DataW H × List MemPlace} (h : DataW.trod enc Tryz.prog w base spare held fuel 27 cs = some x) :
    ∃ r s, cs = (recV r s).toList ∧ SpotsAt w r s ∧ r.kind < 256 := by
  obtain ⟨xs, n, _, _, hl, hxl, hff⟩ := DataW.trod_struct Tryz.underlying27 h
  rw [celRec] at hl
  obtain ⟨c0, c1, c2, c3, c4, c5, c6, c7, c8, c9, rfl⟩ := list10 hl
  obtain ⟨y0, y1, y2, y3, y4, y5, y6, rfl⟩ := list7 hxl
  have t0 := hff 0 _ rfl
  have t1 := hff 1 _ rfl
  have t2 := hff 2 _ rfl
  have t3 := hff 3 _ rfl
  have t4 := hff 4 _ rfl
  have t5 := hff 5 _ rfl
  have t6 := hff 6 _ rfl
  simp [celI64, celK, celSpan] at t0 t1 t2 t3 t4 t5 t6
  obtain ⟨v0, e0, _, w0⟩ := DataW.trod_int Tryz.underlying2 t0
  obtain ⟨v1, e1, _, w1⟩ := DataW.trod_int Tryz.underlying2 t1
  obtain ⟨v2, e2, _, w2⟩ := DataW.trod_int Tryz.underlying22 t2
  obtain ⟨v3, e3, _, w3⟩ := DataW.trod_int Tryz.underlying2 t3
  obtain ⟨v4, e4, _, w4⟩ := DataW.trod_int Tryz.underlying2 t4
  obtain ⟨v5, e5, _, w5⟩ := DataW.trod_int Tryz.underlying2 t5
  obtain ⟨ys, m, _, _, _, hyl, hgg⟩ := DataW.trod_struct Tryz.underlying25 t6
  obtain ⟨s0, s1, s2, s3, rfl⟩ := list4 hyl
  have u0 := hgg 0 _ rfl
  have u1 := hgg 1 _ rfl
  have u2 := hgg 2 _ rfl
  have u3 := hgg 3 _ rfl
  simp [celI, celS] at u0 u1 u2 u3
  obtain ⟨v6, e6, _, w6⟩ := DataW.trod_int Tryz.underlying3 u0
  obtain ⟨v7, e7, _, w7⟩ := DataW.trod_int Tryz.underlying3 u1
  obtain ⟨a8, n8, d8, L8, e8, h8, _, _, b8, z8, _⟩ := bytes_open2 u2
  obtain ⟨a9, n9, d9, L9, e9, h9, _, _, b9, z9, _⟩ := bytes_open2 u3
  simp at e0 e1 e2 e3 e4 e5 e6 e7 e8 e9
  subst e0 e1 e2 e3 e4 e5 e6 e7 e8 e9 h8 h9
  simp only [Lit.wf, Bool.and_eq_true, IntKind.min, IntKind.max, IntKind.signed, IntKind.bits] at w2
  have hk : v2 = ((v2.toNat : Nat) : Int) ∧ v2.toNat < 256 := by
    simp at w2
    omega
  refine ⟨⟨v0, v1, v2.toNat, v3, v4, v5, v6, v7, L8, L9⟩, ⟨a8, d8, a9, d9⟩, ?_, ⟨b8, b9, fun e => ⟨?_, z8 e⟩, fun e => ⟨?_, z9 e⟩⟩, hk.2⟩
  · simp only [recV]
    rw [← hk.1]
  · subst e
    cases L8 with
    | nil => rfl
    | cons x l => obtain ⟨_, _, e, _⟩ := b8.at 0 (by simp); cases e
  · subst e
    cases L9 with
    | nil => rfl
    | cons x l => obtain ⟨_, _, e, _⟩ := b9.at 0 (by simp); cases e
end

end Go.Proofs.YticmjdblcomecaaGreat

namespace Go.Proofs.YticmjdblcomecaaGreat
open Go.RowKit Go.Maps Go.ChangeShapes Go.WideShapes Go.ChangeAt

section
variable {H : Type} {enc : TypeId × Value → H} {w : World} {base : Nat} {spare : TypeId → Bool} {held : Bool}
set_option maxRecDepth 100000 in
theorem rec_openZ {fuel : Nat} {cs : List Value} {x : DataW H × List MemPlace} (h : DataW.trod enc Tryz.prog w base spare held fuel 27 cs = some x) :
    ∃ r s, cs = (recV r s).toList ∧ SpotsAt w r s ∧ r.kind < 256 ∧ ((∀ n ∈ x.1.weights Tryz.prog 27, n ≤ reachBytes) → r.old.length ≤ reachBytes ∧ r.new.length ≤ reachBytes) := by
  obtain ⟨xs, n, _, hxx, hl, hxl, hff⟩ := DataW.trod_struct Tryz.underlying27 h
  rw [celRec] at hl
  obtain ⟨c0, c1, c2, c3, c4, c5, c6, c7, c8, c9, rfl⟩ := list10 hl
  obtain ⟨y0, y1, y2, y3, y4, y5, y6, rfl⟩ := list7 hxl
  have t0 := hff 0 _ rfl
  have t1 := hff 1 _ rfl
  have t2 := hff 2 _ rfl
  have t3 := hff 3 _ rfl
  have t4 := hff 4 _ rfl
  have t5 := hff 5 _ rfl
  have t6 := hff 6 _ rfl
  simp [celI64, celK, celSpan] at t0 t1 t2 t3 t4 t5 t6
  obtain ⟨v0, e0, _, w0⟩ := DataW.trod_int Tryz.underlying2 t0
  obtain ⟨v1, e1, _, w1⟩ := DataW.trod_int Tryz.underlying2 t1
  obtain ⟨v2, e2, _, w2⟩ := DataW.trod_int Tryz.underlying22 t2
  obtain ⟨v3, e3, _, w3⟩ := DataW.trod_int Tryz.underlying2 t3
  obtain ⟨v4, e4, _, w4⟩ := DataW.trod_int Tryz.underlying2 t4
  obtain ⟨v5, e5, _, w5⟩ := DataW.trod_int Tryz.underlying2 t5
  obtain ⟨ys, m, _, hyy, _, hyl, hgg⟩ := DataW.trod_struct Tryz.underlying25 t6
  obtain ⟨s0, s1, s2, s3, rfl⟩ := list4 hyl
  have u0 := hgg 0 _ rfl
  have u1 := hgg 1 _ rfl
  have u2 := hgg 2 _ rfl
  have u3 := hgg 3 _ rfl
  simp [celI, celS] at u0 u1 u2 u3
  obtain ⟨v6, e6, _, w6⟩ := DataW.trod_int Tryz.underlying3 u0
  obtain ⟨v7, e7, _, w7⟩ := DataW.trod_int Tryz.underlying3 u1
  obtain ⟨a8, n8, d8, L8, e8, h8, _, _, b8, z8, X8⟩ := bytes_open2 u2
  obtain ⟨a9, n9, d9, L9, e9, h9, _, _, b9, z9, X9⟩ := bytes_open2 u3
  simp at e0 e1 e2 e3 e4 e5 e6 e7 e8 e9
  subst e0 e1 e2 e3 e4 e5 e6 e7 e8 e9 h8 h9
  simp only [Lit.wf, Bool.and_eq_true, IntKind.min, IntKind.max, IntKind.signed, IntKind.bits] at w2
  have hk : v2 = ((v2.toNat : Nat) : Int) ∧ v2.toNat < 256 := by
    simp at w2
    omega
  refine ⟨⟨v0, v1, v2.toNat, v3, v4, v5, v6, v7, L8, L9⟩, ⟨a8, d8, a9, d9⟩, ?_, ⟨b8, b9, fun e => ⟨?_, z8 e⟩, fun e => ⟨?_, z9 e⟩⟩, hk.2, fun hz => ⟨?_, ?_⟩⟩
  · simp only [recV]
    rw [← hk.1]
  · subst e
    cases L8 with
    | nil => rfl
    | cons x l => obtain ⟨_, _, e, _⟩ := b8.at 0 (by simp); cases e
  · subst e
    cases L9 with
    | nil => rfl
    | cons x l => obtain ⟨_, _, e, _⟩ := b9.at 0 (by simp); cases e
  · rcases X8 with h0 | ⟨elems, sp, he, hlen⟩
    · dsimp only; rw [h0]; exact Nat.zero_le _
    · have h1 : (elems.length + sp.length) * Tryz.prog.bytesOf 5 ∈ x.1.weights Tryz.prog 27 := by
        rw [hxx]
        simp [DataW.weights, DataW.weightsEach, Tryz.underlying27, Tryz.underlying25, Tryz.underlying23, hyy, he]
      have h2 := hz _ h1
      rw [Tryz.bytes5] at h2
      dsimp only
      omega
  · rcases X9 with h0 | ⟨elems, sp, he, hlen⟩
    · dsimp only; rw [h0]; exact Nat.zero_le _
    · have h1 : (elems.length + sp.length) * Tryz.prog.bytesOf 5 ∈ x.1.weights Tryz.prog 27 := by
        rw [hxx]
        simp [DataW.weights, DataW.weightsEach, Tryz.underlying27, Tryz.underlying25, Tryz.underlying23, hyy, he]
      have h2 := hz _ h1
      rw [Tryz.bytes5] at h2
      dsimp only
      omega
end

end Go.Proofs.YticmjdblcomecaaGreat

