/-
  Nodes that are handed in, with marks behind their end.
-/
import Derived.Test.YtdfgmdddnehocabDoorTPick
import Derived.Laws.MakeOwn
import Derived.Laws.AppendOwnNone
namespace Go.Proofs.YtdfgmdddnehocabDoor
open Go.RowKit Go.Maps Go.Lib

def markNd (k i : Int) : Nd := ⟨0, ⟨#[]⟩, ⟨#[]⟩, 1000003 * (k + 7) + i⟩
def marksL (j : Nat) : List Nd := (List.range j).map fun (i : Nat) => markNd 1 (i : Int)
theorem marks_len (j : Nat) : (marksL j).length = j := by simp [marksL]
theorem marks_succ (j : Nat) : marksL (j + 1) = marksL j ++ [markNd 1 (j : Int)] := by simp [marksL, List.range_succ]
theorem resN {fn : Func} {p : Tmp} (h : fn.results = #[.cell p 30]) (tmps : Array Value) (w : World) (g : Nat) (cs : Array Value) (hs : cs.size = 4) (hp : tmps.getD p undef = .pointer (some ⟨g, 0, none⟩)) (hg : Cells w g 30 cs) :
    (results fn tmps).run Tryd.prog w = .ok (.agg cs) w := resC h tmps w g cs hp hg Tryd.underlying30 (by rw [hs]; exact infoN)
section
variable {ops : Array Oper} {rest : List Oper} {o : Oper} {a : Act} {w : World} {Q : Exit → Act → World → Prop}
theorem wp_makeN (hgd : o.guard = none) (x y : Operand) (ho : o.op = .makeSlice 22 x y) (c : Nat) (hx : a.eval x = .int .i64 0) (hy : a.eval y = .int .i64 (c : Int)) (hc : c ≤ 20000)
    (h : ∀ w', Nodes w w' (.slice (some ⟨w.heap.size, 0, none⟩) 0 c) [] → Fr [] w w' → wpList Tryd.prog ops Q rest (a.put o.dst (.slice (some ⟨w.heap.size, 0, none⟩) 0 c)) w') : wpList Tryd.prog ops Q (o :: rest) a w :=
  wpList_plain hgd fun K hK => by
    obtain ⟨i, hi, hz, hs, hb⟩ := infoN'
    obtain ⟨w', hrun, hown, hg⟩ := run_makeSlice_owned (P := Tryd.prog) w w.heap.size 22 30 i _ 4 Tryd.underlying22 hi hz hs .i64 .i64 c (by omega) (by rw [hb]; omega) (by unfold maxLen; omega) (Nat.le_refl _)
    unfold Oper.wp execOp
    simp [ho, hx, hy, hrun, Result.andThen]
    exact hK _ _ (h _ hown ((Fr.refl _ _).grown hg (fun j e => nomatch e)))
theorem wp_appNil (hgd : o.guard = none) (s y : Operand) (ho : o.op = .call { callee := .builtin .append, args := #[s, y], argTypes := #[22, 22] }) (w0 : World) (v : Value) (t : List Nd) (hs : a.eval s = v) (hown : Nodes w0 w v t) (hy : a.eval y = .slice none 0 0)
    (h : wpList Tryd.prog ops Q rest (a.put o.dst v) w) : wpList Tryd.prog ops Q (o :: rest) a w := by
  obtain ⟨i, hi, hz, hsz, hb⟩ := infoN'
  exact wpList_append_own_none hgd s y 22 ho w0.heap.size 30 i 4 Tryd.underlying22 hi v t.length (rowL t) hs hown hy h
theorem wp_appN0 (hgd : o.guard = none) (s y : Operand) (ho : o.op = .call { callee := .builtin .append, args := #[s, y], argTypes := #[22, 22] }) (w0 : World) (v : Value) (t : List Nd) (hs : a.eval s = v) (hown : Nodes w0 w v t) (hw : w0.heap.size ≤ w.heap.size)
    (x : Addr) (c : Nat) (hy : a.eval y = .slice (some x) 0 c) (hm : t.length ≤ 1000000) (f0 : Fr [] w0 w)
    (h : ∀ v' w', Nodes w0 w' v' t → Fr [] w0 w' → wpList Tryd.prog ops Q rest (a.put o.dst v') w') : wpList Tryd.prog ops Q (o :: rest) a w :=
  wpList_plain hgd fun K hK => by
    obtain ⟨i, hi, hz, hsz, hb⟩ := infoN'
    obtain ⟨v', w', hrun, h2, h3, _, _⟩ := run_append_own_at (P := Tryd.prog) w w0.heap.size 22 o.type 30 i _ 4 48 Tryd.underlying22 hi hz hsz hb rfl (by omega) v t.length (rowL t) hown x 0 c [] rfl (by intro j u hj; simp at hj) (by intro u hu; cases hu) (by unfold maxLen; omega) (by omega) hw
    unfold Oper.wp execOp
    simp [ho, resolve, invoke, builtin, hs, hy, hrun, Result.andThen]
    refine hK _ _ (h _ _ ?_ (f0.grown h3 (fun j e hj => ?_)))
    · rw [List.append_nil] at h2
      exact h2
    · have := (hown.lt j e).1
      omega
end
/-- Nodes that are handed in, with marks behind their end. -/
structure LentN (w : World) (g cap : Nat) (t : List Nd) : Prop where
  ex : ∃ cur, w.heap[g]? = some (.cells cur 30) ∧ cur.toList.take ((t.length + 12) * 4) = rowL (t ++ marksL 12)
  cap : t.length + 12 ≤ cap
theorem LentN.all {w : World} {g cap : Nat} {t : List Nd} (h : LentN w g cap t) : NodesIn w g 0 (t ++ marksL 12) := by
  obtain ⟨cur, h1, h2⟩ := h.ex
  exact nodes_of_cells h1 (by rw [List.length_append, marks_len]; exact h2)
theorem nth_app_left {t u : List Nd} {i : Nat} (h : i < t.length) : nth (t ++ u) i = nth t i := by
  rw [nth_lt h, nth_lt (by rw [List.length_append]; omega), List.getElem_append_left h]
theorem nth_app_right {t u : List Nd} {i : Nat} (h : i < u.length) : nth (t ++ u) (t.length + i) = nth u i := by
  rw [nth_lt h, nth_lt (by rw [List.length_append]; omega), List.getElem_append_right (by omega)]
  simp
theorem LentN.nodes {w : World} {g cap : Nat} {t : List Nd} (h : LentN w g cap t) : NodesIn w g 0 t := fun i hi => by
  have := h.all i (by rw [List.length_append]; omega)
  unfold knd nam vlu par at this ⊢
  rw [nth_app_left hi] at this
  exact this
theorem LentN.kept {w w' : World} {g cap : Nat} {t : List Nd} (h : LentN w g cap t) (f : Fr [] w w') : LentN w' g cap t := by
  obtain ⟨cur, h1, h2⟩ := h.ex
  exact ⟨⟨cur, f.same (by simp) h1, h2⟩, h.cap⟩
theorem lent_of {w0 w : World} {v : Value} {t : List Nd} (h : Nodes w0 w v (t ++ marksL 12)) : ∃ g cap, v = .slice (some ⟨g, 0, none⟩) (t.length + 12) cap ∧ LentN w g cap t ∧ w0.heap.size ≤ g := by
  rcases h.2 with ⟨_, hn⟩ | ⟨g, cap, cur, rfl, hb, hg, hnc, _, hcs, ht⟩
  · rw [List.length_append, marks_len] at hn; omega
  · rw [List.length_append, marks_len] at hnc ht
    exact ⟨g, cap, by rw [List.length_append, marks_len], ⟨⟨cur, hg, ht⟩, hnc⟩, hb⟩
end Go.Proofs.YtdfgmdddnehocabDoor
