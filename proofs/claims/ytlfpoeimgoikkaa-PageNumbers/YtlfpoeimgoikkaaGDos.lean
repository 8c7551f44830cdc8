/-
  The changes of a page, in memory; what came in, opened.
-/
import Derived.Test.YtlfpoeimgoikkaaGTell
import Derived.Test.YtlfpoeimgoikkaaOpens2
namespace Go.Proofs.Ytlfpoeimgoikkaa
open Go.RowKit Go.Deep Go.ChangeShapes Go.WideShapes Go.ChangeAt

structure DoV where
  op : Int
  slot : Int
  next : Int
  ca : Option Addr
  cl : Nat
  cc : Nat
  C : List UInt8

structure DoOk (w : World) (d : DoV) : Prop where
  op : (Lit.int .i64 d.op).wf = true
  slot : (Lit.int .i64 d.slot).wf = true
  next : (Lit.int .i64 d.next).wf = true
  cell : SlAt w d.ca d.cl d.cc d.C
  nil : d.ca = none → d.cc = 0
  short : d.cl < 9223372036854775808

def DosAt (w : World) (ad : Option Addr) (L : List DoV) : Prop :=
  ∀ i d, L[i]? = some d → DoOk w d ∧ ∃ b off, ad = some ⟨b, off, none⟩ ∧ w.cell? ⟨b, off + i * 4, none⟩ = some (.int .i64 d.op) ∧ w.cell? ⟨b, off + i * 4 + 1, none⟩ = some (.int .i64 d.slot) ∧
    w.cell? ⟨b, off + i * 4 + 2, none⟩ = some (.int .i64 d.next) ∧ w.cell? ⟨b, off + i * 4 + 3, none⟩ = some (.slice d.ca d.cl d.cc)

theorem DosAt.kept {w w' : World} {ad : Option Addr} {L : List DoV} (h : DosAt w ad L) (k : Fr [] w w') : DosAt w' ad L := by
  intro i d hd
  obtain ⟨ok, b, off, ha, c0, c1, c2, c3⟩ := h i d hd
  have e := k.block b (block_lt_of_cell c0) (by simp)
  exact ⟨{ ok with cell := ok.cell.kept k (by simp) }, b, off, ha, (World.cell?_of_block e).trans c0, (World.cell?_of_block e).trans c1, (World.cell?_of_block e).trans c2, (World.cell?_of_block e).trans c3⟩

theorem Try.cellsDo : Try.prog.cellsOf 34 = 4 := by kernel_rfl
theorem Try.cells3 : Try.prog.cellsOf 3 = 1 := by kernel_rfl
theorem Try.cellsS : Try.prog.cellsOf 22 = 1 := by kernel_rfl

variable {H : Type} {enc : TypeId × Value → H} {w : World} {base : Nat} {spare : Nat → Bool} {held : Bool}

set_option maxRecDepth 100000 in
theorem dos_open {fuel : Nat} {cs : List Value} {x : DataW H × List MemPlace} (h : DataW.trod enc Try.prog w base spare held fuel 31 cs = some x) :
    ∃ ad len cap L, cs = [.slice ad len cap] ∧ L.length = len ∧ len ≤ cap ∧ cap ≤ maxLen ∧ DosAt w ad L := by
  rcases open_slice Try.underlying31 h with ⟨hcs, _⟩ | ⟨a, len, cap, m, n, D, Pl, rfl, _, hl, hm, hmm, _, hx⟩
  · exact ⟨none, 0, 0, [], hcs, rfl, Nat.le_refl _, by unfold maxLen; omega, fun i f hf => by simp at hf⟩
  · have hlm : len ≤ m := by rw [hmm]; split <;> omega
    rw [Try.cellsDo] at hx
    have hel : ∀ i, i < m → ∃ d : DoV, DoOk w d ∧ w.cell? (a.add (i * 4)) = some (.int .i64 d.op) ∧ w.cell? ((a.add (i * 4)).add 1) = some (.int .i64 d.slot) ∧ w.cell? ((a.add (i * 4)).add 2) = some (.int .i64 d.next) ∧
        w.cell? ((a.add (i * 4)).add 3) = some (.slice d.ca d.cl d.cc) := by
      intro i hi
      obtain ⟨cs', h1, h2⟩ := hx i hi
      obtain ⟨_, hlen, hc⟩ := World.cells?_some h1
      obtain ⟨xs, n', _, _, _, hxl, hff⟩ := DataW.trod_struct Try.underlying34 h2
      match cs', hlen with
      | [c0, c1, c2, c3], _ =>
        match xs, hxl with
        | [y0, y1, y2, y3], _ =>
          have t0 := hff 0 _ rfl
          have t1 := hff 1 _ rfl
          have t2 := hff 2 _ rfl
          have t3 := hff 3 _ rfl
          simp [Try.cells3, Try.cellsS] at t0 t1 t2 t3
          obtain ⟨v0, e0, _, w0⟩ := DataW.trod_int Try.underlying3 t0
          obtain ⟨v1, e1, _, w1⟩ := DataW.trod_int Try.underlying3 t1
          obtain ⟨v2, e2, _, w2⟩ := DataW.trod_int Try.underlying3 t2
          obtain ⟨fa, fl, fc, F, e3, hFl, hc2, hm2, hF, hnil, _⟩ := bytes_open2 t3
          simp at e0 e1 e2 e3
          subst e0 e1 e2 e3
          have q0 := hc 0 (by omega)
          have q1 := hc 1 (by omega)
          have q2 := hc 2 (by omega)
          have q3 := hc 3 (by omega)
          refine ⟨⟨v0, v1, v2, fa, fl, fc, F⟩, ⟨w0, w1, w2, ⟨hFl, hF, hc2⟩, hnil, by unfold maxLen at hm2; show fl < _; omega⟩, ?_, ?_, ?_, ?_⟩
          · simpa [Addr.add] using q0
          · simpa using q1
          · simpa using q2
          · simpa using q3
    haveI : Inhabited DoV := ⟨⟨0, 0, 0, none, 0, 0, []⟩⟩
    obtain ⟨f, hf⟩ := choose_lt (α := DoV) hel
    refine ⟨some a, len, cap, (List.range len).map f, rfl, by simp, hl, hm, ?_⟩
    intro i g hg
    have hi : i < len := by
      have := (List.getElem?_eq_some_iff.1 hg).1
      simpa using this
    have eg : g = f i := by
      rw [List.getElem?_map, List.getElem?_range hi] at hg
      simpa using hg.symm
    subst eg
    have h0 := (hf 0 (by omega)).2.1
    obtain ⟨b, off, spot⟩ := a
    have hspot : spot = none := by simpa [Addr.add] using World.cell?_spot h0
    subst hspot
    obtain ⟨ok, c0, c1, c2, c3⟩ := hf i (by omega)
    rw [Addr.add_mid] at c0
    rw [Addr.add_mid, Addr.add_mid] at c1 c2 c3
    exact ⟨ok, b, off, rfl, c0, c1, c2, c3⟩

end Go.Proofs.Ytlfpoeimgoikkaa
