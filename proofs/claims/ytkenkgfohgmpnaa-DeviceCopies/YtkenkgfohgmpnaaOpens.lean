/-
  What came in, opened: a slice of fates, a slice of steps.
-/
import Derived.Test.YtkenkgfohgmpnaaDos
import Derived.Deep.Slices
import Derived.ProofKit
namespace Go.Proofs.Ytkenkgfohgmpnaa
open Go.RowKit Go.Deep Go.ChangeShapes Go.WideShapes Go.ChangeAt

theorem Try.cells58 : Try.prog.cellsOf 58 = 2 := by kernel_rfl
theorem Try.cells30 : Try.prog.cellsOf 30 = 5 := by kernel_rfl
theorem Try.cells3 : Try.prog.cellsOf 3 = 1 := by kernel_rfl
theorem Try.cells5 : Try.prog.cellsOf 5 = 1 := by kernel_rfl
theorem Try.cells28 : Try.prog.cellsOf 28 = 1 := by kernel_rfl

theorem u8_bounds {x : Int} (h : (Lit.int .u8 x).wf = true) : 0 ≤ x ∧ x < 256 := by
  simp [Lit.wf, show IntKind.u8.min = 0 from rfl, show IntKind.u8.max = 255 from rfl] at h
  omega

variable {H : Type} {enc : TypeId × Value → H} {w : World} {base : Nat} {spare : Nat → Bool} {held : Bool}

set_option maxRecDepth 100000 in
theorem fates_open {fuel : Nat} {cs : List Value} {x : DataW H × List MemPlace} (h : DataW.trod enc Try.prog w base spare held fuel 28 cs = some x) :
    ∃ ad len cap F, cs = [.slice ad len cap] ∧ F.length = len ∧ len ≤ cap ∧ FatesAt w ad F ∧ (ad = none → cap = 0) := by
  rcases open_slice Try.underlying28 h with ⟨hcs, _⟩ | ⟨a, len, cap, m, n, D, Pl, rfl, _, hl, hm, hmm, _, hx⟩
  · exact ⟨none, 0, 0, [], hcs, rfl, Nat.le_refl _, (fun i f hf => by simp at hf), fun _ => rfl⟩
  · have hlm : len ≤ m := by rw [hmm]; split <;> omega
    rw [Try.cells58] at hx
    have hel : ∀ i, i < m → ∃ f : Int × Int, w.cell? (a.add (i * 2)) = some (.int .i64 f.1) ∧ w.cell? ((a.add (i * 2)).add 1) = some (.int .u8 f.2) ∧ (Lit.int .i64 f.1).wf = true ∧ (Lit.int .u8 f.2).wf = true := by
      intro i hi
      obtain ⟨cs', h1, h2⟩ := hx i hi
      obtain ⟨_, hlen, hc⟩ := World.cells?_some h1
      obtain ⟨y0, y1, n', _, _, t0, t1⟩ := trod_struct2 Try.underlying58 h2
      match cs', hlen with
      | [c0, c1], _ =>
        simp [Try.cells3, Try.cells5] at t0 t1
        obtain ⟨v0, e0, _, w0⟩ := DataW.trod_int Try.underlying3 t0
        obtain ⟨v1, e1, _, w1⟩ := DataW.trod_int Try.underlying5 t1
        simp at e0 e1
        subst e0 e1
        have q0 := hc 0 (by omega)
        have q1 := hc 1 (by omega)
        refine ⟨(v0, v1), ?_, ?_, w0, w1⟩
        · simpa [Addr.add] using q0
        · simpa using q1
    obtain ⟨f, hf⟩ := choose_lt (α := Int × Int) hel
    refine ⟨some a, len, cap, (List.range len).map f, rfl, by simp, hl, ?_, fun h => nomatch h⟩
    intro i g hg
    have hi : i < len := by
      have := (List.getElem?_eq_some_iff.1 hg).1
      simpa using this
    have eg : g = f i := by
      rw [List.getElem?_map, List.getElem?_range hi] at hg
      simpa using hg.symm
    subst eg
    have h0 := (hf 0 (by omega)).1
    obtain ⟨b, off, spot⟩ := a
    have hspot : spot = none := by simpa [Addr.add] using World.cell?_spot h0
    subst hspot
    obtain ⟨c0, c1, w0, w1⟩ := hf i (by omega)
    refine ⟨b, off, rfl, ?_, ?_, w0, u8_bounds w1⟩
    · rw [Addr.add_mid] at c0; exact c0
    · rw [Addr.add_mid, Addr.add_mid] at c1; exact c1

set_option maxRecDepth 100000 in
theorem dos_open {fuel : Nat} {cs : List Value} {x : DataW H × List MemPlace} (h : DataW.trod enc Try.prog w base spare held fuel 22 cs = some x) :
    ∃ ad len cap L, cs = [.slice ad len cap] ∧ L.length = len ∧ len ≤ cap ∧ DosAt w ad L := by
  rcases open_slice Try.underlying22 h with ⟨hcs, _⟩ | ⟨a, len, cap, m, n, D, Pl, rfl, _, hl, hm, hmm, _, hx⟩
  · exact ⟨none, 0, 0, [], hcs, rfl, Nat.le_refl _, fun i f hf => by simp at hf⟩
  · have hlm : len ≤ m := by rw [hmm]; split <;> omega
    rw [Try.cells30] at hx
    have hel : ∀ i, i < m → ∃ d : DoV, DoOk w d ∧ w.cell? (a.add (i * 5)) = some (.int .i64 d.op) ∧ w.cell? ((a.add (i * 5)).add 1) = some (.int .i64 d.block) ∧ w.cell? ((a.add (i * 5)).add 2) = some (.int .i64 d.n) ∧
        w.cell? ((a.add (i * 5)).add 3) = some (.int .u8 d.byte) ∧ w.cell? ((a.add (i * 5)).add 4) = some (.slice d.fa d.fl d.fc) := by
      intro i hi
      obtain ⟨cs', h1, h2⟩ := hx i hi
      obtain ⟨_, hlen, hc⟩ := World.cells?_some h1
      obtain ⟨xs, n', _, _, _, hxl, hff⟩ := DataW.trod_struct Try.underlying30 h2
      match cs', hlen with
      | [c0, c1, c2, c3, c4], _ =>
        match xs, hxl with
        | [y0, y1, y2, y3, y4], _ =>
          have t0 := hff 0 _ rfl
          have t1 := hff 1 _ rfl
          have t2 := hff 2 _ rfl
          have t3 := hff 3 _ rfl
          have t4 := hff 4 _ rfl
          simp [Try.cells3, Try.cells5, Try.cells28] at t0 t1 t2 t3 t4
          obtain ⟨v0, e0, _, w0⟩ := DataW.trod_int Try.underlying3 t0
          obtain ⟨v1, e1, _, w1⟩ := DataW.trod_int Try.underlying3 t1
          obtain ⟨v2, e2, _, w2⟩ := DataW.trod_int Try.underlying3 t2
          obtain ⟨v3, e3, _, w3⟩ := DataW.trod_int Try.underlying5 t3
          obtain ⟨fa, fl, fc, F, e4, hFl, _, hF, hnil⟩ := fates_open t4
          simp at e0 e1 e2 e3 e4
          subst e0 e1 e2 e3 e4
          have q0 := hc 0 (by omega)
          have q1 := hc 1 (by omega)
          have q2 := hc 2 (by omega)
          have q3 := hc 3 (by omega)
          have q4 := hc 4 (by omega)
          refine ⟨⟨v0, v1, v2, v3, fa, fl, fc, F⟩, ⟨w0, w1, w2, (u8_bounds w3).1, (u8_bounds w3).2, hFl, hF, hnil⟩, ?_, ?_, ?_, ?_, ?_⟩
          · simpa [Addr.add] using q0
          · simpa using q1
          · simpa using q2
          · simpa using q3
          · simpa using q4
    haveI : Inhabited DoV := ⟨⟨0, 0, 0, 0, none, 0, 0, []⟩⟩
    obtain ⟨f, hf⟩ := choose_lt (α := DoV) hel
    refine ⟨some a, len, cap, (List.range len).map f, rfl, by simp, hl, ?_⟩
    intro i g hg
    have hi : i < len := by
      have := (List.getElem?_eq_some_iff.1 hg).1
      simpa using this
    have eg : g = f i := by
      rw [List.getElem?_map, List.getElem?_range hi] at hg
      simpa using hg.symm
    subst eg
    have h0 := (hf 0 (by omega)).2.1
    obtain ⟨b, off, spot⟩ := a
    have hspot : spot = none := by simpa [Addr.add] using World.cell?_spot h0
    subst hspot
    obtain ⟨ok, c0, c1, c2, c3, c4⟩ := hf i (by omega)
    rw [Addr.add_mid] at c0
    rw [Addr.add_mid, Addr.add_mid] at c1 c2 c3 c4
    exact ⟨ok, b, off, rfl, c0, c1, c2, c3, c4⟩

end Go.Proofs.Ytkenkgfohgmpnaa
