/-
  Small structs in memory of the call's own: laws at the operations, with letters for worlds.
-/
import Derived.Test.YtdfgmdddnehocabGreatDoorTVal
import Derived.Great.Ranges
namespace Go.Proofs.YtdfgmdddnehocabGreatDoor
open Go.RowKit Go.Maps Go.Lib

/-- A block of these cells. -/
def Cells (w : World) (g : Nat) (T : TypeId) (cs : Array Value) : Prop := w.heap[g]? = some (.cells cs T)
theorem Cells.kept {w w' : World} {g : Nat} {T : TypeId} {cs : Array Value} {L : List Nat} (h : Cells w g T cs) (f : Fr L w w') (hg : g ∉ L) : Cells w' g T cs := f.same hg h
theorem Cells.cell {w : World} {g : Nat} {T : TypeId} {cs : Array Value} (h : Cells w g T cs) (j : Nat) : w.cell? ⟨g, j, none⟩ = cs[j]? := by
  rw [cell_of_row w g j _ _ _ h]
theorem Cells.frozen {w : World} {g : Nat} {T : TypeId} {cs : Array Value} (h : Cells w g T cs) (j : Nat) : w.frozen? ⟨g, j, none⟩ = false := frozen_of_row w g j _ _ h
theorem Cells.lt {w : World} {g : Nat} {T : TypeId} {cs : Array Value} (h : Cells w g T cs) : g < w.heap.size := (Array.getElem?_eq_some_iff.1 h).1
theorem Fr.setRow {L : List Nat} {a b : World} (h : Fr L a b) (g : Nat) (cs : Array Value) (hx : g < a.heap.size → g ∈ L) : Fr L a (b.setRow g cs) :=
  h.then (M := [g]) ⟨rfl, rfl, rfl, by simp, fun i _ hn => setRow_other b g i _ (fun e => hn (by simp [e]))⟩ (fun i hi hm => by
    have : i = g := by simpa using hm
    subst this
    exact hx hi)

section
variable {ops : Array Oper} {rest : List Oper} {o : Oper} {a : Act} {w : World} {Q : Exit → Act → World → Prop}
theorem wp_box (T : TypeId) (hgd : o.guard = none) (v : Operand) (ho : o.op = .box T v) (cs : Array Value) (hv : (a.eval v).cells = cs)
    (h : ∀ w' g, w.heap.size ≤ g → Cells w' g T cs → Fr [] w w' → wpList Tryz.prog ops Q rest (a.put o.dst (.pointer (some ⟨g, 0, none⟩))) w') : wpList Tryz.prog ops Q (o :: rest) a w :=
  wpList_plain hgd fun K hK => by
    unfold Oper.wp execOp
    simp only [ho, Sem.run_bind, Instr.box, newVar, newRow, run_newObj_alloc, Sem.run_pure, Result.andThen_ok, hv]
    exact hK _ _ (h _ _ (Nat.le_refl _) (heap_alloc_new w _) ((Fr.refl _ _).alloc _))
theorem wp_alloc (T : TypeId) (hgd : o.guard = none) (ho : o.op = .alloc T) (z : Value) (hz : ∀ w : World, (zeroValue T).run Tryz.prog w = .ok z w) (cs : Array Value) (hc : z.cells = cs)
    (h : ∀ w' g, w.heap.size ≤ g → Cells w' g T cs → Fr [] w w' → wpList Tryz.prog ops Q rest (a.put o.dst (.pointer (some ⟨g, 0, none⟩))) w') : wpList Tryz.prog ops Q (o :: rest) a w :=
  wpList_plain hgd fun K hK => by
    unfold Oper.wp execOp
    simp only [ho, Sem.run_bind, Instr.alloc, newVar, newRow, run_newObj_alloc, Sem.run_pure, Result.andThen_ok, hz, hc]
    exact hK _ _ (h _ _ (Nat.le_refl _) (heap_alloc_new w _) ((Fr.refl _ _).alloc _))
theorem wp_storeC (T : TypeId) (hgd : o.guard = none) (x y : Operand) (ho : o.op = .store T x y) (g : Nat) (cs ds : Array Value) (hx : a.eval x = .pointer (some ⟨g, 0, none⟩)) (hy : a.eval y = .agg ds) (hg : Cells w g T cs) (hs : (Tryz.prog.info? T).map (·.size) = some ds.size) (hl : cs.size = ds.size) (h1 : ds.all (·.oneCell') = true)
    (h : ∀ w', Cells w' g T ds → Fr [g] w w' → wpList Tryz.prog ops Q rest (a.put o.dst undef) w') : wpList Tryz.prog ops Q (o :: rest) a w :=
  wpList_store_row hgd T x y ho g ds hx hy T cs hg hs hl h1
    (h _ (setRow_heap w g _ _ _ _ hg) ⟨rfl, rfl, rfl, by simp, fun i _ hn => setRow_other w g i _ (fun e => hn (by simp [e]))⟩)
theorem resC {fn : Func} {p : Tmp} {T : TypeId} {fs : Array Field} (h : fn.results = #[.cell p T]) (tmps : Array Value) (w : World) (g : Nat) (cs : Array Value) (hp : tmps.getD p undef = .pointer (some ⟨g, 0, none⟩)) (hg : Cells w g T cs) (hu : Tryz.prog.underlying T = some (.struct fs)) (hs : (Tryz.prog.info? T).map (·.size) = some cs.size) :
    (results fn tmps).run Tryz.prog w = .ok (.agg cs) w :=
  results_cell_row h tmps w g T cs (0, 0) _ hp hg hu rfl hs
end
end Go.Proofs.YtdfgmdddnehocabGreatDoor
