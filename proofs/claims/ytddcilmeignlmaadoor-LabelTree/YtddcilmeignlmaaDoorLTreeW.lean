/-
  Labels of a tree: rows of labels in memory.
-/
import Derived.Test.YtddcilmeignlmaaDoorLApp
import Derived.Test.YtddcilmeignlmaaDoorLTreeM
namespace Go.Proofs.YtddcilmeignlmaaDoor
open Go.RowKit Go.Maps Go.Lib

/-- A label: where it lies, its bytes, its steps. -/
structure PEnt where
  ad : Option Addr
  n : Nat
  cap : Nat
  l : List UInt8
  p : Path
def PEnt.val (e : PEnt) : Value := .slice e.ad e.n e.cap
structure PAt (w : World) (e : PEnt) : Prop where
  len : e.l.length = e.n
  bytes : BytesAt w e.ad e.l
  plain : Plain e.ad
  lab : Lab e.l e.p
  narrow : Narrow e.p
  deep : e.p.length ≤ 12
  typ : ∀ b off, e.ad = some ⟨b, off, none⟩ → ∃ cs, w.heap[b]? = some (.cells cs 5)
theorem PAt.kept {w w' : World} {e : PEnt} (h : PAt w e) (f : Fr [] w w') : PAt w' e := ⟨h.len, h.bytes.kept f (by simp), h.plain, h.lab, h.narrow, h.deep, fun b off e => by
    obtain ⟨cs, hc⟩ := h.typ b off e
    exact ⟨cs, f.same (by simp) hc⟩⟩
theorem pat_nil (w : World) : PAt w ⟨none, 0, 0, [], []⟩ := ⟨rfl, BytesAt.nil _ _, Or.inl rfl, lab_nil, (fun s hs => by cases hs), by simp, fun b off e => by cases e⟩

/-- A row of labels of its own. -/
structure RowP (w0 w : World) (v : Value) (R : List PEnt) : Prop where
  own : w.ownsRow 0 22 1 v R.length (R.map PEnt.val)
  new : ∀ g, v.ownBlock = some g → w0.heap.size ≤ g
theorem RowP.nil (w0 w : World) : RowP w0 w (.slice none 0 0) [] := ⟨World.ownsRow_nil _ _ _ _, fun g h => by cases h⟩
theorem RowP.kept {w0 w w' : World} {v : Value} {R : List PEnt} {L : List Nat} (h : RowP w0 w v R) (f : Fr L w w') (hL : ∀ g, v.ownBlock = some g → g ∉ L) : RowP w0 w' v R := ⟨own_kept h.own f hL, h.new⟩
theorem RowP.shape {w0 w : World} {v : Value} {R : List PEnt} (h : RowP w0 w v R) : ∃ ad cap, v = .slice ad R.length cap ∧ R.length ≤ cap ∧ ((ad = none ∧ R = []) ∨ ∃ g, ad = some ⟨g, 0, none⟩ ∧ g < w.heap.size ∧ ∀ i e, R[i]? = some e → w.cell? ⟨g, i, none⟩ = some e.val) := by
  rcases h.own.2 with ⟨rfl, hn⟩ | ⟨g, cap, cur, rfl, _, hg, hnc, _, hcs, ht⟩
  · exact ⟨none, 0, by rw [hn], by omega, Or.inl ⟨rfl, List.eq_nil_of_length_eq_zero hn⟩⟩
  · refine ⟨_, cap, rfl, hnc, Or.inr ⟨g, rfl, (Array.getElem?_eq_some_iff.1 hg).1, fun i e he => ?_⟩⟩
    have hi : i < R.length := (List.getElem?_eq_some_iff.1 he).1
    have hu : (R.map PEnt.val)[i]? = some e.val := by rw [List.getElem?_map, he]; rfl
    rw [cell_of_row w g i _ _ _ hg]
    rw [← ht, List.getElem?_take, if_pos (by omega)] at hu
    simpa using hu
/-- A row without its last label. -/
theorem RowP.pop {w0 w : World} {g n cap : Nat} {R : List PEnt} {e : PEnt} (hn : n = (R ++ [e]).length) (h : RowP w0 w (.slice (some ⟨g, 0, none⟩) n cap) (R ++ [e])) : RowP w0 w (.slice (some ⟨g, 0, none⟩) R.length cap) R := by
  refine ⟨?_, fun j hj => h.new j hj⟩
  rcases h.own.2 with ⟨e1, _⟩ | ⟨g', cap', cur, e1, hb, hg, hnc, hmx, hcs, ht⟩
  · cases e1
  · cases e1
    rw [List.length_append] at hnc ht
    refine ⟨by simp, Or.inr ⟨g, cap, cur, rfl, hb, hg, by simp at hnc; omega, hmx, hcs, ?_⟩⟩
    have := congrArg (List.take (R.length * 1)) ht
    rw [List.take_take, List.map_append, List.take_left' (by simp)] at this
    rw [← this]
    congr 1
    simp
/-- One label more. -/
theorem RowP.push {w0 w w' : World} {v : Value} {R : List PEnt} {e : PEnt} {g cap : Nat} (h : RowP w0 w v R) (hw : w0.heap.size ≤ w.heap.size) (o : w'.ownsRow 0 22 1 (.slice (some ⟨g, 0, none⟩) (R.length + 1) cap) (R.length + 1) (R.map PEnt.val ++ [e.val])) (at5 : v.ownBlock = some g ∨ g = w.heap.size) : RowP w0 w' (.slice (some ⟨g, 0, none⟩) (R.length + 1) cap) (R ++ [e]) := by
  refine ⟨?_, fun j hj => ?_⟩
  · rw [List.length_append, List.map_append]
    exact o
  · have : g = j := by simpa [Value.ownBlock] using hj
    subst this
    rcases at5 with e | e
    · exact h.new g e
    · omega
/-- The blocks of two rows are two. -/
def Two (v u : Value) : Prop := ∀ g, v.ownBlock = some g → u.ownBlock ≠ some g
theorem two_push {w : World} {v u : Value} {g n cap : Nat} {xs : List Value} {k : Nat} (h : Two v u) (hu : w.ownsRow 0 22 1 u k xs) (at5 : v.ownBlock = some g ∨ g = w.heap.size) : Two (.slice (some ⟨g, 0, none⟩) n cap) u := by
  intro j hj
  have : g = j := by simpa [Value.ownBlock] using hj
  subst this
  rcases at5 with e | e
  · exact h g e
  · intro e2
    have := (hu.lt g e2).2
    omega
theorem Two.symm {v u : Value} (h : Two v u) : Two u v := fun g hg e => h g e hg

/-- Labels stand apart from rows of labels. -/
theorem PAt.row {w w' : World} {e : PEnt} (h : PAt w e) {u : Value} {k : Nat} {xs : List Value} (o : w.ownsRow 0 22 1 u k xs) (f : Fr u.ownBlock.toList w w') : PAt w' e := by
  have key : ∀ b off, e.ad = some ⟨b, off, none⟩ → b ∉ u.ownBlock.toList := fun b off he hm => by
    have hm' : u.ownBlock = some b := by simpa using hm
    obtain ⟨cs, hc⟩ := h.typ b off he
    rcases o.2 with ⟨rfl, _⟩ | ⟨g, cap, cur, rfl, _, hg, _⟩
    · cases hm'
    · have : g = b := by simpa [Value.ownBlock] using hm'
      subst this
      rw [hc] at hg
      have := (Option.some.inj hg)
      have ht : (5 : Nat) = 22 := by injection this
      exact absurd ht (by decide)
  refine ⟨h.len, ?_, h.plain, h.lab, h.narrow, h.deep, fun b off he => ?_⟩
  · intro j x hx
    obtain ⟨b, off, he, hc⟩ := h.bytes j x hx
    exact ⟨b, off, he, (World.cell?_of_block (f.block b (block_lt_of_cell hc) (key b off he))).trans hc⟩
  · obtain ⟨cs, hc⟩ := h.typ b off he
    exact ⟨cs, f.same (key b off he) hc⟩
/-- A child's label, as Kids hands it out. -/
theorem pat_out {w w' : World} {v : Value} {l : List UInt8} {p : Path} (h : Out w w' v l) (L : Lab l p) (hN : Narrow p) (hd : p.length ≤ 12) : ∃ e : PEnt, v = e.val ∧ e.p = p ∧ PAt w' e := by
  obtain ⟨ad, cap, e, hb, hp⟩ := h.use
  refine ⟨⟨ad, l.length, cap, l, p⟩, e, rfl, rfl, hb, hp, L, hN, hd, fun b off he => ?_⟩
  obtain ⟨ad', cap', e', o⟩ := h
  rw [e] at e'
  cases e'
  rcases o.2 with ⟨e2, _⟩ | ⟨g, c, cur, e2, _, hg, _⟩
  · have he' : ad = some ⟨b, off, none⟩ := he
    rw [he'] at e2
    cases e2
  · have he' : ad = some ⟨b, off, none⟩ := he
    rw [he'] at e2
    cases e2
    exact ⟨cur, hg⟩

/-- The two rows, between two rounds. -/
structure TAt (w0 w : World) (vr vo : Value) (R O : List PEnt) : Prop where
  row : RowP w0 w vr R
  open_ : RowP w0 w vo O
  two : Two vr vo
  ents : ∀ e ∈ R ++ O, PAt w e
  tour : Tour (R.map PEnt.p) (O.reverse.map PEnt.p)
  fr : Fr [] w0 w
theorem TAt.kept {w0 w w' : World} {vr vo : Value} {R O : List PEnt} (h : TAt w0 w vr vo R O) (f : Fr [] w w') : TAt w0 w' vr vo R O :=
  ⟨h.row.kept f (by simp), h.open_.kept f (by simp), h.two, fun e he => (h.ents e he).kept f, h.tour, h.fr.trans f⟩
theorem fr_row {w0 w w' : World} {v : Value} {R : List PEnt} (h : RowP w0 w v R) (f0 : Fr [] w0 w) (f : Fr v.ownBlock.toList w w') : Fr [] w0 w' :=
  f0.then f (fun i hi hm => by
    have hm' : v.ownBlock = some i := by simpa using hm
    have := h.new i hm'
    omega)
theorem Two.notin {v u : Value} (h : Two v u) : ∀ g, u.ownBlock = some g → g ∉ v.ownBlock.toList := fun g hg hm => by
  have hm' : v.ownBlock = some g := by simpa using hm
  exact h g hm' hg
end Go.Proofs.YtddcilmeignlmaaDoor
