/-
  SameNodes.
-/
import Derived.Test.YtdfgmdddnehocabGreatDoorXPick
import Derived.Laws.MakeOwn
import Derived.Laws.AppendOwnNone
namespace Go.Proofs.YtdfgmdddnehocabGreatDoor
open Go.RowKit Go.Maps Go.Lib

def markNd (k i : Int) : Nd := ⟨0, ⟨#[]⟩, ⟨#[]⟩, 1000003 * (k + 7) + i⟩
def marksL (j : Nat) : List Nd := (List.range j).map fun (i : Nat) => markNd 1 (i : Int)
theorem marks_len (j : Nat) : (marksL j).length = j := by simp [marksL]
theorem marks_succ (j : Nat) : marksL (j + 1) = marksL j ++ [markNd 1 (j : Int)] := by simp [marksL, List.range_succ]
theorem resN {fn : Func} {p : Tmp} (h : fn.results = #[.cell p 62]) (tmps : Array Value) (w : World) (g : Nat) (cs : Array Value) (hs : cs.size = 4) (hp : tmps.getD p undef = .pointer (some ⟨g, 0, none⟩)) (hg : Cells w g 62 cs) :
    (results fn tmps).run Tryz.prog w = .ok (.agg cs) w := resC h tmps w g cs hp hg Tryz.underlying62 (by rw [hs]; exact infoN)
theorem mark_any (w : World) (k i : Int) (hk0 : 0 ≤ k) (hk1 : k ≤ 100) (hi0 : 0 ≤ i) (hi1 : i ≤ 1000000) :
    Calls Tryz.prog 62 #[.int .i64 k, .int .i64 i] w fun e w' => e = .returned (.int .i64 (1000003 * (k + 7) + i)) ∧ w' = w := by
  go_enter Tryz.func62, Tryz.ntmps62
  go_wp2
  go_ret
  exact ⟨rfl, rfl⟩
set_option maxHeartbeats 1000000 in
theorem markNode_any (w : World) (k i : Int) (hk0 : 0 ≤ k) (hk1 : k ≤ 100) (hi0 : 0 ≤ i) (hi1 : i ≤ 1000000) :
    Calls Tryz.prog 65 #[.int .i64 k, .int .i64 i] w fun e w' => e = .returned (.agg (ndC 0 ⟨#[]⟩ ⟨#[]⟩ (1000003 * (k + 7) + i))) ∧ Fr [] w w' := by
  obtain ⟨M, HM⟩ : ∃ M, Hid (1000003 * (k + 7) + i = M) := ⟨_, rfl⟩
  rw [HM.out]
  have c := Hid.mk (fun w' => mark_any w' k i hk0 hk1 hi0 hi1)
  rw [HM.out] at c
  clear hk0 hk1 hi0 hi1
  go_enter Tryz.func65, Tryz.ntmps65
  go_wp2_with (first
    | (refine wp_alloc 62 rfl rfl _ zeroN _ rfl ?_; intro w2 g hg2 hc2 f2)
    | (go_at_call 62; refine (c.out _).mono ?_; rintro e w5 ⟨rfl, h⟩; have h' := h.symm; subst h')
    | (refine wp_storeC 62 rfl _ _ rfl g _ (ndC 0 ⟨#[]⟩ ⟨#[]⟩ M) rfl rfl hc2 infoN rfl (ndC_one _ _ _ _) ?_; intro w3 hc3 f3)
    | go_in)
  refine bodyPost_ret (resN Tryz.results65 _ _ g _ rfl rfl hc3) rfl ⟨rfl, f2.then f3 (fun i hi hm => by simp at hm; omega)⟩
section
variable {ops : Array Oper} {rest : List Oper} {o : Oper} {a : Act} {w : World} {Q : Exit → Act → World → Prop}
theorem wp_makeN (hgd : o.guard = none) (x y : Operand) (ho : o.op = .makeSlice 22 x y) (c : Nat) (hx : a.eval x = .int .i64 0) (hy : a.eval y = .int .i64 (c : Int)) (hc : c ≤ 20000)
    (h : ∀ w', Nodes w w' (.slice (some ⟨w.heap.size, 0, none⟩) 0 c) [] → Fr [] w w' → wpList Tryz.prog ops Q rest (a.put o.dst (.slice (some ⟨w.heap.size, 0, none⟩) 0 c)) w') : wpList Tryz.prog ops Q (o :: rest) a w :=
  wpList_plain hgd fun K hK => by
    obtain ⟨i, hi, hz, hs, hb⟩ := infoN'
    obtain ⟨w', hrun, hown, hg⟩ := run_makeSlice_owned (P := Tryz.prog) w w.heap.size 22 62 i _ 4 Tryz.underlying22 hi hz hs .i64 .i64 c (by omega) (by rw [hb]; omega) (by unfold maxLen; omega) (Nat.le_refl _)
    unfold Oper.wp execOp
    simp [ho, hx, hy, hrun, Result.andThen]
    exact hK _ _ (h _ hown ((Fr.refl _ _).grown hg (fun j e => nomatch e)))
theorem wp_appNil (hgd : o.guard = none) (s y : Operand) (ho : o.op = .call { callee := .builtin .append, args := #[s, y], argTypes := #[22, 22] }) (w0 : World) (v : Value) (t : List Nd) (hs : a.eval s = v) (hown : Nodes w0 w v t) (hy : a.eval y = .slice none 0 0)
    (h : wpList Tryz.prog ops Q rest (a.put o.dst v) w) : wpList Tryz.prog ops Q (o :: rest) a w := by
  obtain ⟨i, hi, hz, hsz, hb⟩ := infoN'
  exact wpList_append_own_none hgd s y 22 ho w0.heap.size 62 i 4 Tryz.underlying22 hi v t.length (rowL t) hs hown hy h
theorem wp_appN0 (hgd : o.guard = none) (s y : Operand) (ho : o.op = .call { callee := .builtin .append, args := #[s, y], argTypes := #[22, 22] }) (w0 : World) (v : Value) (t : List Nd) (hs : a.eval s = v) (hown : Nodes w0 w v t) (hw : w0.heap.size ≤ w.heap.size)
    (x : Addr) (c : Nat) (hy : a.eval y = .slice (some x) 0 c) (hm : t.length ≤ 1000000) (f0 : Fr [] w0 w)
    (h : ∀ v' w', Nodes w0 w' v' t → Fr [] w0 w' → wpList Tryz.prog ops Q rest (a.put o.dst v') w') : wpList Tryz.prog ops Q (o :: rest) a w :=
  wpList_plain hgd fun K hK => by
    obtain ⟨i, hi, hz, hsz, hb⟩ := infoN'
    obtain ⟨v', w', hrun, h2, h3, _, _⟩ := run_append_own_at (P := Tryz.prog) w w0.heap.size 22 o.type 62 i _ 4 48 Tryz.underlying22 hi hz hsz hb rfl (by omega) v t.length (rowL t) hown x 0 c [] rfl (by intro j u hj; simp at hj) (by intro u hu; cases hu) (by unfold maxLen; omega) (by omega) hw
    unfold Oper.wp execOp
    simp [ho, resolve, invoke, builtin, hs, hy, hrun, Result.andThen]
    refine hK _ _ (h _ _ ?_ (f0.grown h3 (fun j e hj => ?_)))
    · rw [List.append_nil] at h2
      exact h2
    · have := (hown.lt j e).1
      omega
end
/-- Nodes that are handed in, with marks behind their end. -/
structure LentN (w : World) (g cap : Nat) (t : List Nd) : Prop where
  ex : ∃ cur, w.heap[g]? = some (.cells cur 62) ∧ cur.toList.take ((t.length + 12) * 4) = rowL (t ++ marksL 12)
  cap : t.length + 12 ≤ cap
theorem LentN.all {w : World} {g cap : Nat} {t : List Nd} (h : LentN w g cap t) : NodesIn w g 0 (t ++ marksL 12) := by
  obtain ⟨cur, h1, h2⟩ := h.ex
  exact nodes_of_cells h1 (by rw [List.length_append, marks_len]; exact h2)
theorem nth_app_left {t u : List Nd} {i : Nat} (h : i < t.length) : nth (t ++ u) i = nth t i := by
  rw [nth_lt h, nth_lt (by rw [List.length_append]; omega), List.getElem_append_left h]
theorem nth_app_right {t u : List Nd} {i : Nat} (h : i < u.length) : nth (t ++ u) (t.length + i) = nth u i := by
  rw [nth_lt h, nth_lt (by rw [List.length_append]; omega), List.getElem_append_right (by omega)]
  simp
theorem LentN.nodes {w : World} {g cap : Nat} {t : List Nd} (h : LentN w g cap t) : NodesIn w g 0 t := fun i hi => by
  have := h.all i (by rw [List.length_append]; omega)
  unfold knd nam vlu par at this ⊢
  rw [nth_app_left hi] at this
  exact this
theorem LentN.kept {w w' : World} {g cap : Nat} {t : List Nd} (h : LentN w g cap t) (f : Fr [] w w') : LentN w' g cap t := by
  obtain ⟨cur, h1, h2⟩ := h.ex
  exact ⟨⟨cur, f.same (by simp) h1, h2⟩, h.cap⟩
theorem lent_of {w0 w : World} {v : Value} {t : List Nd} (h : Nodes w0 w v (t ++ marksL 12)) : ∃ g cap, v = .slice (some ⟨g, 0, none⟩) (t.length + 12) cap ∧ LentN w g cap t ∧ w0.heap.size ≤ g := by
  rcases h.2 with ⟨_, hn⟩ | ⟨g, cap, cur, rfl, hb, hg, hnc, _, hcs, ht⟩
  · rw [List.length_append, marks_len] at hn; omega
  · rw [List.length_append, marks_len] at hnc ht
    exact ⟨g, cap, by rw [List.length_append, marks_len], ⟨⟨cur, hg, ht⟩, hnc⟩, hb⟩
end Go.Proofs.YtdfgmdddnehocabGreatDoor

set_option linter.unusedSimpArgs false
namespace Go.Proofs.YtdfgmdddnehocabGreatDoor
open Go.RowKit Go.Maps Go.Lib

abbrev SX (w : World) (g i : Nat) (M : Int) : Prop := w.cell? ⟨g, i * 4, none⟩ = some (.int .u8 0) ∧ w.cell? ⟨g, i * 4 + 1, none⟩ = some (.string ⟨#[]⟩) ∧ w.cell? ⟨g, i * 4 + 2, none⟩ = some (.string ⟨#[]⟩) ∧ w.cell? ⟨g, i * 4 + 3, none⟩ = some (.int .i64 M)
theorem LentN.lt {w : World} {g cap : Nat} {t : List Nd} (h : LentN w g cap t) : g < w.heap.size := by
  obtain ⟨cur, hg, _⟩ := h.ex
  exact (Array.getElem?_eq_some_iff.1 hg).1
theorem marks_at (m : Nat) (h : m < 12) : nth (marksL 12) m = markNd 1 (m : Int) := by
  rw [nth_lt (by rw [marks_len]; exact h)]
  simp [marksL]
theorem LentN.mark {w : World} {g cap : Nat} {t : List Nd} (h : LentN w g cap t) (m : Nat) (hm : m < 12) : SX w g (t.length + m) (1000003 * (1 + 7) + (m : Int)) := by
  have := h.all (t.length + m) (by rw [List.length_append, marks_len]; omega)
  unfold knd nam vlu par at this
  rw [nth_app_right (by rw [marks_len]; exact hm), marks_at m hm] at this
  rw [Nat.zero_add] at this
  exact this
end Go.Proofs.YtdfgmdddnehocabGreatDoor

namespace Go.Proofs.YtdfgmdddnehocabGreatDoor
open Go.RowKit Go.Maps Go.Lib

set_option maxHeartbeats 4000000 in
set_option maxRecDepth 100000 in
theorem sameN_any (w : World) (a1 a2 : Option Addr) (c1 c2 n : Nat) (t : List Nd) (hn : t.length = n) (hl : n ≤ 16384) (h1 : NodesAt w a1 t) (h2 : NodesAt w a2 t) :
    Calls Tryz.prog 91 #[.slice a1 n c1, .slice a2 n c2] w fun e w' => e = .returned (.bool true) ∧ Fr [] w w' := by
  have H1 := Hid.mk h1
  have H2 := Hid.mk h2
  have HN := Hid.mk hn
  have hl' : (n : Int) ≤ 16384 := by omega
  clear h1 h2 hn
  go_enter Tryz.func91, Tryz.ntmps91
  go_wp2
  go_loopw [5] (fun s5 wr => ∃ i : Nat, s5 = .int .i64 (i : Int) ∧ i ≤ n ∧ Hid (Fr [] w wr)) (fun s5 _ => n - (RowKit.intOf s5).toNat)
  case atStart => exact ⟨0, rfl, by omega, Fr.refl _ _⟩
  case round =>
    obtain ⟨i, rfl, hi, frh⟩ := hrel
    have hi0 : (0 : Int) ≤ (i : Int) := by omega
    by_cases hlt : i < n
    · have hlt' : (i : Int) < (n : Int) := by omega
      obtain ⟨b, off, rfl, c0, c1, c2, c3⟩ := (H1.out.kept frh.out) i (by rw [HN.out]; exact hlt)
      obtain ⟨b', off', rfl, d0, d1, d2, d3⟩ := (H2.out.kept frh.out) i (by rw [HN.out]; exact hlt)
      generalize knd t i = K at c0 d0
      generalize nam t i = NM at c1 d1
      generalize vlu t i = VL at c2 d2
      generalize par t i = p at c3 d3
      go_wp2_with fail
      go_quiet (fail)
      go_wp2_with fail
      exact ⟨⟨i + 1, by go_num, by omega, frh.out.drewN _⟩, by simp [RowKit.intOf]; omega⟩
    · obtain rfl : i = n := by omega
      have hlt' : ¬ (i : Int) < (i : Int) := by omega
      go_wp2_with fail
      go_ret
      exact ⟨rfl, frh.out⟩
end Go.Proofs.YtdfgmdddnehocabGreatDoor

