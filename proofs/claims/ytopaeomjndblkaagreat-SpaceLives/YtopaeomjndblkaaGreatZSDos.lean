/-
  A row of steps that is handed in, opened.
-/
import Derived.Test.YtopaeomjndblkaaGreatY50Z
namespace Go.Proofs.YtopaeomjndblkaaGreat
open Go.RowKit Go.Deep Go.ChangeShapes Go.WideShapes Go.ChangeAt

theorem Tryz.celSDo : Tryz.prog.cellsOf 119 = 3 := by kernel_rfl
theorem Tryz.celS3 : Tryz.prog.cellsOf 3 = 1 := by kernel_rfl
section
variable {H : Type} {enc : TypeId × Value → H} {w : World} {base : Nat} {spare : Nat → Bool} {held : Bool}
set_option maxRecDepth 100000 in
theorem sdos_open {fuel : Nat} {cs : List Value} {x : DataW H × List MemPlace} (h : DataW.trod enc Tryz.prog w base spare held fuel 113 cs = some x) :
    ∃ ad len cap L, cs = [.slice ad len cap] ∧ L.length = len ∧ len ≤ cap ∧ cap ≤ maxLen ∧ SDosAt w ad L := by
  rcases open_slice Tryz.underlying113 h with ⟨hcs, _⟩ | ⟨a, len, cap, m, n, D, Pl, rfl, _, hl, hm, hmm, _, hx⟩
  · exact ⟨none, 0, 0, [], hcs, rfl, Nat.le_refl _, by unfold maxLen; omega, fun i f hf => by simp at hf⟩
  · have hlm : len ≤ m := by rw [hmm]; split <;> omega
    rw [Tryz.celSDo] at hx
    have hel : ∀ i, i < m → ∃ d : SDo, SDoOk d ∧ w.cell? (a.add (i * 3)) = some (.int .i64 d.op) ∧ w.cell? ((a.add (i * 3)).add 1) = some (.int .i64 d.page) ∧ w.cell? ((a.add (i * 3)).add 2) = some (.int .i64 d.which) := by
      intro i hi
      obtain ⟨cs', h1, h2⟩ := hx i hi
      obtain ⟨_, hlen, hc⟩ := World.cells?_some h1
      obtain ⟨xs, n', _, _, _, hxl, hff⟩ := DataW.trod_struct Tryz.underlying119 h2
      match cs', hlen with
      | [c0, c1, c2], _ =>
        match xs, hxl with
        | [y0, y1, y2], _ =>
          have t0 := hff 0 _ rfl
          have t1 := hff 1 _ rfl
          have t2 := hff 2 _ rfl
          simp [Tryz.celS3] at t0 t1 t2
          obtain ⟨v0, e0, _, w0⟩ := DataW.trod_int Tryz.underlying3 t0
          obtain ⟨v1, e1, _, w1⟩ := DataW.trod_int Tryz.underlying3 t1
          obtain ⟨v2, e2, _, w2⟩ := DataW.trod_int Tryz.underlying3 t2
          simp at e0 e1 e2
          subst e0 e1 e2
          have q0 := hc 0 (by omega)
          have q1 := hc 1 (by omega)
          have q2 := hc 2 (by omega)
          refine ⟨⟨v0, v1, v2⟩, ⟨w0, w1, w2⟩, ?_, ?_, ?_⟩
          · simpa [Addr.add] using q0
          · simpa using q1
          · simpa using q2
    haveI : Inhabited SDo := ⟨⟨0, 0, 0⟩⟩
    obtain ⟨f, hf⟩ := choose_lt (α := SDo) hel
    refine ⟨some a, len, cap, (List.range len).map f, rfl, by simp, hl, hm, ?_⟩
    intro i g hg
    have hi : i < len := by
      have := (List.getElem?_eq_some_iff.1 hg).1
      simpa using this
    have eg : g = f i := by
      rw [List.getElem?_map, List.getElem?_range hi] at hg
      simpa using hg.symm
    subst eg
    have h0 := (hf 0 (by omega)).2.1
    obtain ⟨b, off, spot⟩ := a
    have hspot : spot = none := by simpa [Addr.add] using World.cell?_spot h0
    subst hspot
    obtain ⟨ok, c0, c1, c2⟩ := hf i (by omega)
    rw [Addr.add_mid] at c0
    rw [Addr.add_mid, Addr.add_mid] at c1 c2
    exact ⟨ok, b, off, rfl, c0, c1, c2⟩
end
end Go.Proofs.YtopaeomjndblkaaGreat

