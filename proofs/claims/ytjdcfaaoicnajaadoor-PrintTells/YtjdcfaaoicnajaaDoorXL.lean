/-
  The document's own answer: Check and Fragment, of any row.
-/
import Derived.Test.YtjdcfaaoicnajaaDoorTNodes
import Derived.Laws.MakeOwn
import Derived.Laws.AppendOwnNone
import Derived.Test.YtjdcfaaoicnajaaDoorXRefA
import Derived.Test.YtjdcfaaoicnajaaDoorXF
namespace Go.Proofs.YtjdcfaaoicnajaaDoor
open Go.RowKit Go.Maps

theorem i64_bounds {x : Int} (h : (Lit.int .i64 x).wf = true) : -9223372036854775808 ≤ x ∧ x ≤ 9223372036854775807 := by
  simp [Lit.wf, show IntKind.i64.min = -9223372036854775808 from rfl, show IntKind.i64.max = 9223372036854775807 from rfl] at h
  exact h

theorem tmod_neg {x n : Int} (h1 : 1 ≤ n) (h : x.tmod n < 0) : x.tmod n + n = x % n := by
  have e := Int.tmod_eq_emod (a := x) (b := n)
  have h2 := Int.emod_nonneg x (show n ≠ 0 by omega)
  split at e <;> omega
theorem tmod_pos {x n : Int} (h1 : 1 ≤ n) (h : 0 ≤ x.tmod n) : x.tmod n = x % n := by
  have e := Int.tmod_eq_emod (a := x) (b := n)
  have h2 := Int.emod_lt_of_pos x (show 0 < n by omega)
  split at e <;> omega
theorem wrap64_small {v : Int} (h0 : -9223372036854775808 ≤ v) (h1 : v ≤ 9223372036854775807) : wrap64 v = v := by
  unfold wrap64
  omega

theorem ret_int {k : IntKind} {a b : Int} (h : a = b) : Ending.returned (.int k a) = .returned (.int k b) := by rw [h]

end Go.Proofs.YtjdcfaaoicnajaaDoor

namespace Go.Proofs.YtjdcfaaoicnajaaDoor
open Go.RowKit Go.Maps Go.Lib

def markNd (k i : Int) : Nd := ⟨0, ⟨#[]⟩, ⟨#[]⟩, 1000003 * (k + 7) + i⟩
def marksL (j : Nat) : List Nd := (List.range j).map fun (i : Nat) => markNd 1 (i : Int)
theorem marks_len (j : Nat) : (marksL j).length = j := by simp [marksL]
theorem marks_succ (j : Nat) : marksL (j + 1) = marksL j ++ [markNd 1 (j : Int)] := by simp [marksL, List.range_succ]
theorem resN {fn : Func} {p : Tmp} (h : fn.results = #[.cell p 37]) (tmps : Array Value) (w : World) (g : Nat) (cs : Array Value) (hs : cs.size = 4) (hp : tmps.getD p undef = .pointer (some ⟨g, 0, none⟩)) (hg : Cells w g 37 cs) :
    (results fn tmps).run Tryd.prog w = .ok (.agg cs) w := resC h tmps w g cs hp hg Tryd.underlying37 (by rw [hs]; exact infoN)
theorem mark_any (w : World) (k i : Int) (hk0 : 0 ≤ k) (hk1 : k ≤ 100) (hi0 : 0 ≤ i) (hi1 : i ≤ 1000000) :
    Calls Tryd.prog 29 #[.int .i64 k, .int .i64 i] w fun e w' => e = .returned (.int .i64 (1000003 * (k + 7) + i)) ∧ w' = w := by
  go_enter Tryd.func29, Tryd.ntmps29
  go_wp2
  go_ret
  exact ⟨rfl, rfl⟩
set_option maxHeartbeats 1000000 in
theorem markNode_any (w : World) (k i : Int) (hk0 : 0 ≤ k) (hk1 : k ≤ 100) (hi0 : 0 ≤ i) (hi1 : i ≤ 1000000) :
    Calls Tryd.prog 19 #[.int .i64 k, .int .i64 i] w fun e w' => e = .returned (.agg (ndC 0 ⟨#[]⟩ ⟨#[]⟩ (1000003 * (k + 7) + i))) ∧ Fr [] w w' := by
  obtain ⟨M, HM⟩ : ∃ M, Hid (1000003 * (k + 7) + i = M) := ⟨_, rfl⟩
  rw [HM.out]
  have c := Hid.mk (fun w' => mark_any w' k i hk0 hk1 hi0 hi1)
  rw [HM.out] at c
  clear hk0 hk1 hi0 hi1
  go_enter Tryd.func19, Tryd.ntmps19
  go_wp2_with (first
    | (refine wp_alloc 37 rfl rfl _ zeroN _ rfl ?_; intro w2 g hg2 hc2 f2)
    | (go_at_call 29; refine (c.out _).mono ?_; rintro e w5 ⟨rfl, h⟩; have h' := h.symm; subst h')
    | (refine wp_storeC 37 rfl _ _ rfl g _ (ndC 0 ⟨#[]⟩ ⟨#[]⟩ M) rfl rfl hc2 infoN rfl (ndC_one _ _ _ _) ?_; intro w3 hc3 f3)
    | go_in)
  refine bodyPost_ret (resN Tryd.results19 _ _ g _ rfl rfl hc3) rfl ⟨rfl, f2.then f3 (fun i hi hm => by simp at hm; omega)⟩
section
variable {ops : Array Oper} {rest : List Oper} {o : Oper} {a : Act} {w : World} {Q : Exit → Act → World → Prop}
theorem wp_makeN (hgd : o.guard = none) (x y : Operand) (ho : o.op = .makeSlice 22 x y) (c : Nat) (hx : a.eval x = .int .i64 0) (hy : a.eval y = .int .i64 (c : Int)) (hc : c ≤ 20000)
    (h : ∀ w', Nodes w w' (.slice (some ⟨w.heap.size, 0, none⟩) 0 c) [] → Fr [] w w' → wpList Tryd.prog ops Q rest (a.put o.dst (.slice (some ⟨w.heap.size, 0, none⟩) 0 c)) w') : wpList Tryd.prog ops Q (o :: rest) a w :=
  wpList_plain hgd fun K hK => by
    obtain ⟨i, hi, hz, hs, hb⟩ := infoN'
    obtain ⟨w', hrun, hown, hg⟩ := run_makeSlice_owned (P := Tryd.prog) w w.heap.size 22 37 i _ 4 Tryd.underlying22 hi hz hs .i64 .i64 c (by omega) (by rw [hb]; omega) (by unfold maxLen; omega) (Nat.le_refl _)
    unfold Oper.wp execOp
    simp [ho, hx, hy, hrun, Result.andThen]
    exact hK _ _ (h _ hown ((Fr.refl _ _).grown hg (fun j e => nomatch e)))
theorem wp_appNil (hgd : o.guard = none) (s y : Operand) (ho : o.op = .call { callee := .builtin .append, args := #[s, y], argTypes := #[22, 22] }) (w0 : World) (v : Value) (t : List Nd) (hs : a.eval s = v) (hown : Nodes w0 w v t) (hy : a.eval y = .slice none 0 0)
    (h : wpList Tryd.prog ops Q rest (a.put o.dst v) w) : wpList Tryd.prog ops Q (o :: rest) a w := by
  obtain ⟨i, hi, hz, hsz, hb⟩ := infoN'
  exact wpList_append_own_none hgd s y 22 ho w0.heap.size 37 i 4 Tryd.underlying22 hi v t.length (rowL t) hs hown hy h
theorem wp_appN0 (hgd : o.guard = none) (s y : Operand) (ho : o.op = .call { callee := .builtin .append, args := #[s, y], argTypes := #[22, 22] }) (w0 : World) (v : Value) (t : List Nd) (hs : a.eval s = v) (hown : Nodes w0 w v t) (hw : w0.heap.size ≤ w.heap.size)
    (x : Addr) (c : Nat) (hy : a.eval y = .slice (some x) 0 c) (hm : t.length ≤ 1000000) (f0 : Fr [] w0 w)
    (h : ∀ v' w', Nodes w0 w' v' t → Fr [] w0 w' → wpList Tryd.prog ops Q rest (a.put o.dst v') w') : wpList Tryd.prog ops Q (o :: rest) a w :=
  wpList_plain hgd fun K hK => by
    obtain ⟨i, hi, hz, hsz, hb⟩ := infoN'
    obtain ⟨v', w', hrun, h2, h3, _, _⟩ := run_append_own_at (P := Tryd.prog) w w0.heap.size 22 o.type 37 i _ 4 48 Tryd.underlying22 hi hz hsz hb rfl (by omega) v t.length (rowL t) hown x 0 c [] rfl (by intro j u hj; simp at hj) (by intro u hu; cases hu) (by unfold maxLen; omega) (by omega) hw
    unfold Oper.wp execOp
    simp [ho, resolve, invoke, builtin, hs, hy, hrun, Result.andThen]
    refine hK _ _ (h _ _ ?_ (f0.grown h3 (fun j e hj => ?_)))
    · rw [List.append_nil] at h2
      exact h2
    · have := (hown.lt j e).1
      omega
end
/-- Nodes that are handed in, with marks behind their end. -/
structure LentN (w : World) (g cap : Nat) (t : List Nd) : Prop where
  ex : ∃ cur, w.heap[g]? = some (.cells cur 37) ∧ cur.toList.take ((t.length + 12) * 4) = rowL (t ++ marksL 12)
  cap : t.length + 12 ≤ cap
theorem LentN.all {w : World} {g cap : Nat} {t : List Nd} (h : LentN w g cap t) : NodesIn w g 0 (t ++ marksL 12) := by
  obtain ⟨cur, h1, h2⟩ := h.ex
  exact nodes_of_cells h1 (by rw [List.length_append, marks_len]; exact h2)
theorem nth_app_left {t u : List Nd} {i : Nat} (h : i < t.length) : nth (t ++ u) i = nth t i := by
  rw [nth_lt h, nth_lt (by rw [List.length_append]; omega), List.getElem_append_left h]
theorem nth_app_right {t u : List Nd} {i : Nat} (h : i < u.length) : nth (t ++ u) (t.length + i) = nth u i := by
  rw [nth_lt h, nth_lt (by rw [List.length_append]; omega), List.getElem_append_right (by omega)]
  simp
theorem LentN.nodes {w : World} {g cap : Nat} {t : List Nd} (h : LentN w g cap t) : NodesIn w g 0 t := fun i hi => by
  have := h.all i (by rw [List.length_append]; omega)
  unfold knd nam vlu par at this ⊢
  rw [nth_app_left hi] at this
  exact this
theorem LentN.kept {w w' : World} {g cap : Nat} {t : List Nd} (h : LentN w g cap t) (f : Fr [] w w') : LentN w' g cap t := by
  obtain ⟨cur, h1, h2⟩ := h.ex
  exact ⟨⟨cur, f.same (by simp) h1, h2⟩, h.cap⟩
theorem lent_of {w0 w : World} {v : Value} {t : List Nd} (h : Nodes w0 w v (t ++ marksL 12)) : ∃ g cap, v = .slice (some ⟨g, 0, none⟩) (t.length + 12) cap ∧ LentN w g cap t ∧ w0.heap.size ≤ g := by
  rcases h.2 with ⟨_, hn⟩ | ⟨g, cap, cur, rfl, hb, hg, hnc, _, hcs, ht⟩
  · rw [List.length_append, marks_len] at hn; omega
  · rw [List.length_append, marks_len] at hnc ht
    exact ⟨g, cap, by rw [List.length_append, marks_len], ⟨⟨cur, hg, ht⟩, hnc⟩, hb⟩
set_option maxHeartbeats 4000000 in
set_option maxRecDepth 100000 in
theorem lent_some (w : World) (b off c n : Nat) (t : List Nd) (hn : t.length = n) (hN : NodesIn w b off t) (h0 : 0 < n) (hl : n ≤ 1000) :
    Calls Tryd.prog 8 #[.slice (some ⟨b, off, none⟩) n c] w fun e w' => (∃ g cap, e = .returned (.slice (some ⟨g, 0, none⟩) n cap) ∧ LentN w' g cap t ∧ w.heap.size ≤ g) ∧ Fr [] w w' := by
  go_enter Tryd.func8, Tryd.ntmps8
  go_wp2_with (first
    | (refine wp_makeN rfl _ _ rfl (n + 12) rfl (by rfl) (by omega) ?_; intro w1 o1 f1)
    | (refine wp_appN rfl _ _ rfl w _ [] rfl o1 f1.size b off c n t hn h0 rfl (hN.kept f1 (by simp)) (by simp; omega) f1 ?_; intro v2 w2 o2 f2; rw [List.nil_append] at o2)
    | go_in)
  have O2 : Hid (Nodes w w2 v2 t) := o2
  have F2 := Hid.mk f2
  go_loopw [3, 4] (fun v i wr => ∃ j : Nat, j ≤ 12 ∧ i = .int .i64 (j : Int) ∧ Hid (Nodes w wr v (t ++ marksL j)) ∧ Hid (Fr [] w wr)) (fun _ i _ => 12 - (RowKit.intOf i).toNat)
  case atStart => exact ⟨0, by omega, rfl, (by show Nodes _ _ _ (t ++ marksL 0); rw [show marksL 0 = [] from rfl, List.append_nil]; exact O2.out), F2⟩
  case round =>
    obtain ⟨j, hj, rfl, hO, frh⟩ := hrel
    have hj0 : (0 : Int) ≤ (j : Int) := by omega
    by_cases hlt : j < 12
    · have hlt' : (j : Int) < 12 := by omega
      have cM := Hid.mk (fun w' => markNode_any w' 1 (j : Int) (by decide) (by decide) hj0 (by omega))
      have HMK := Hid.mk (marks_succ j)
      have hlen : (t ++ marksL j).length ≤ 2000 := by rw [List.length_append, marks_len]; omega
      have HM : Hid (ndL (markNd 1 (j : Int)) = [.int .u8 0, .string ⟨#[]⟩, .string ⟨#[]⟩, .int .i64 (1000003 * (1 + 7) + (j : Int))]) := rfl
      generalize (1000003 * (1 + 7) + (j : Int) : Int) = M at cM HM
      obtain ⟨ad, cap, rfl, _, _, _⟩ := hO.out.shape
      obtain ⟨LN, hLN⟩ : ∃ LN, (t ++ marksL j).length = LN := ⟨_, rfl⟩
      rw [hLN]
      rw [hLN] at hO
      have HLN := Hid.mk hLN
      clear hLN
      go_wp2_with (first
        | (go_at_call 19; refine (cM.out _).mono ?_; unfold ndC; rintro e w5 ⟨rfl, f5⟩; have frc := frh.out.trans f5)
        | (refine wp_appN rfl _ _ rfl w _ (t ++ marksL j) rfl ((hO.out.kept0 f5).kept0 ((Fr.refl _ _).alloc _)) (by have := frc.size; simp; omega) w5.heap.size 0 1 1 [markNd 1 (j : Int)] rfl (by decide) rfl (nodes_of_cells (heap_alloc_new _ _) (by show _ = ndL (markNd 1 (j : Int)) ++ []; rw [HM.out]; rfl)) (by omega) (frc.alloc _) ?_; intro v' w' hN' f')
        | go_in)
      exact ⟨⟨j + 1, by omega, by go_num, by show Nodes _ _ _ (t ++ marksL (j + 1)); rw [HMK.out, ← List.append_assoc]; exact hN', f'⟩, by simp [RowKit.intOf]; omega⟩
    · obtain rfl : j = 12 := by omega
      obtain ⟨g, cap, rfl, hLe, hg⟩ := lent_of hO.out
      have hcp := hLe.cap
      have h1 : ((n : Nat) : Int) ≤ (cap : Int) := by omega
      have HLe := Hid.mk hLe
      clear hO hLe
      go_wp2
      go_ret
      exact ⟨⟨g, cap, rfl, HLe.out, hg⟩, frh.out⟩
set_option maxHeartbeats 4000000 in
set_option maxRecDepth 100000 in
theorem lent_nil (w : World)  (t : List Nd) (ht : t = []) :
    Calls Tryd.prog 8 #[.slice none 0 0] w fun e w' => (∃ g cap, e = .returned (.slice (some ⟨g, 0, none⟩) 0 cap) ∧ LentN w' g cap t ∧ w.heap.size ≤ g) ∧ Fr [] w w' := by
  go_enter Tryd.func8, Tryd.ntmps8
  go_wp2_with (first
    | (refine wp_makeN rfl _ _ rfl (0 + 12) rfl (by rfl) (by omega) ?_; intro w1 o1 f1)
    | (refine wp_appNil rfl _ _ rfl w _ [] rfl o1 rfl ?_; have o2 := o1; have f2 := f1)
    | go_in)
  have O2 : Hid (Nodes w _ _ t) := (by rw [ht]; exact o2)
  have F2 := Hid.mk f2
  go_loopw [3, 4] (fun v i wr => ∃ j : Nat, j ≤ 12 ∧ i = .int .i64 (j : Int) ∧ Hid (Nodes w wr v (t ++ marksL j)) ∧ Hid (Fr [] w wr)) (fun _ i _ => 12 - (RowKit.intOf i).toNat)
  case atStart => exact ⟨0, by omega, rfl, (by show Nodes _ _ _ (t ++ marksL 0); rw [show marksL 0 = [] from rfl, List.append_nil]; exact O2.out), F2⟩
  case round =>
    obtain ⟨j, hj, rfl, hO, frh⟩ := hrel
    have hj0 : (0 : Int) ≤ (j : Int) := by omega
    by_cases hlt : j < 12
    · have hlt' : (j : Int) < 12 := by omega
      have cM := Hid.mk (fun w' => markNode_any w' 1 (j : Int) (by decide) (by decide) hj0 (by omega))
      have HMK := Hid.mk (marks_succ j)
      have hlen : (t ++ marksL j).length ≤ 2000 := by rw [List.length_append, marks_len, ht]; simp; omega
      have HM : Hid (ndL (markNd 1 (j : Int)) = [.int .u8 0, .string ⟨#[]⟩, .string ⟨#[]⟩, .int .i64 (1000003 * (1 + 7) + (j : Int))]) := rfl
      generalize (1000003 * (1 + 7) + (j : Int) : Int) = M at cM HM
      obtain ⟨ad, cap, rfl, _, _, _⟩ := hO.out.shape
      obtain ⟨LN, hLN⟩ : ∃ LN, (t ++ marksL j).length = LN := ⟨_, rfl⟩
      rw [hLN]
      rw [hLN] at hO
      have HLN := Hid.mk hLN
      clear hLN
      go_wp2_with (first
        | (go_at_call 19; refine (cM.out _).mono ?_; unfold ndC; rintro e w5 ⟨rfl, f5⟩; have frc := frh.out.trans f5)
        | (refine wp_appN rfl _ _ rfl w _ (t ++ marksL j) rfl ((hO.out.kept0 f5).kept0 ((Fr.refl _ _).alloc _)) (by have := frc.size; simp; omega) w5.heap.size 0 1 1 [markNd 1 (j : Int)] rfl (by decide) rfl (nodes_of_cells (heap_alloc_new _ _) (by show _ = ndL (markNd 1 (j : Int)) ++ []; rw [HM.out]; rfl)) (by omega) (frc.alloc _) ?_; intro v' w' hN' f')
        | go_in)
      exact ⟨⟨j + 1, by omega, by go_num, by show Nodes _ _ _ (t ++ marksL (j + 1)); rw [HMK.out, ← List.append_assoc]; exact hN', f'⟩, by simp [RowKit.intOf]; omega⟩
    · obtain rfl : j = 12 := by omega
      subst ht
      obtain ⟨g, cap, rfl, hLe, hg⟩ := lent_of hO.out
      have hcp := hLe.cap
      have HLe := Hid.mk hLe
      clear hO hLe
      go_wp2
      go_ret
      exact ⟨⟨g, cap, rfl, HLe.out, hg⟩, frh.out⟩
set_option maxHeartbeats 4000000 in
set_option maxRecDepth 100000 in
theorem lent_zero (w : World) (x : Addr) (c : Nat) (t : List Nd) (ht : t = []) :
    Calls Tryd.prog 8 #[.slice (some x) 0 c] w fun e w' => (∃ g cap, e = .returned (.slice (some ⟨g, 0, none⟩) 0 cap) ∧ LentN w' g cap t ∧ w.heap.size ≤ g) ∧ Fr [] w w' := by
  go_enter Tryd.func8, Tryd.ntmps8
  go_wp2_with (first
    | (refine wp_makeN rfl _ _ rfl (0 + 12) rfl (by rfl) (by omega) ?_; intro w1 o1 f1)
    | (refine wp_appN0 rfl _ _ rfl w _ [] rfl o1 f1.size x c rfl (by simp) f1 ?_; intro v2 w2 o2 f2)
    | go_in)
  have O2 : Hid (Nodes w w2 v2 t) := (by rw [ht]; exact o2)
  have F2 := Hid.mk f2
  go_loopw [3, 4] (fun v i wr => ∃ j : Nat, j ≤ 12 ∧ i = .int .i64 (j : Int) ∧ Hid (Nodes w wr v (t ++ marksL j)) ∧ Hid (Fr [] w wr)) (fun _ i _ => 12 - (RowKit.intOf i).toNat)
  case atStart => exact ⟨0, by omega, rfl, (by show Nodes _ _ _ (t ++ marksL 0); rw [show marksL 0 = [] from rfl, List.append_nil]; exact O2.out), F2⟩
  case round =>
    obtain ⟨j, hj, rfl, hO, frh⟩ := hrel
    have hj0 : (0 : Int) ≤ (j : Int) := by omega
    by_cases hlt : j < 12
    · have hlt' : (j : Int) < 12 := by omega
      have cM := Hid.mk (fun w' => markNode_any w' 1 (j : Int) (by decide) (by decide) hj0 (by omega))
      have HMK := Hid.mk (marks_succ j)
      have hlen : (t ++ marksL j).length ≤ 2000 := by rw [List.length_append, marks_len, ht]; simp; omega
      have HM : Hid (ndL (markNd 1 (j : Int)) = [.int .u8 0, .string ⟨#[]⟩, .string ⟨#[]⟩, .int .i64 (1000003 * (1 + 7) + (j : Int))]) := rfl
      generalize (1000003 * (1 + 7) + (j : Int) : Int) = M at cM HM
      obtain ⟨ad, cap, rfl, _, _, _⟩ := hO.out.shape
      obtain ⟨LN, hLN⟩ : ∃ LN, (t ++ marksL j).length = LN := ⟨_, rfl⟩
      rw [hLN]
      rw [hLN] at hO
      have HLN := Hid.mk hLN
      clear hLN
      go_wp2_with (first
        | (go_at_call 19; refine (cM.out _).mono ?_; unfold ndC; rintro e w5 ⟨rfl, f5⟩; have frc := frh.out.trans f5)
        | (refine wp_appN rfl _ _ rfl w _ (t ++ marksL j) rfl ((hO.out.kept0 f5).kept0 ((Fr.refl _ _).alloc _)) (by have := frc.size; simp; omega) w5.heap.size 0 1 1 [markNd 1 (j : Int)] rfl (by decide) rfl (nodes_of_cells (heap_alloc_new _ _) (by show _ = ndL (markNd 1 (j : Int)) ++ []; rw [HM.out]; rfl)) (by omega) (frc.alloc _) ?_; intro v' w' hN' f')
        | go_in)
      exact ⟨⟨j + 1, by omega, by go_num, by show Nodes _ _ _ (t ++ marksL (j + 1)); rw [HMK.out, ← List.append_assoc]; exact hN', f'⟩, by simp [RowKit.intOf]; omega⟩
    · obtain rfl : j = 12 := by omega
      subst ht
      obtain ⟨g, cap, rfl, hLe, hg⟩ := lent_of hO.out
      have hcp := hLe.cap
      have HLe := Hid.mk hLe
      clear hO hLe
      go_wp2
      go_ret
      exact ⟨⟨g, cap, rfl, HLe.out, hg⟩, frh.out⟩
end Go.Proofs.YtjdcfaaoicnajaaDoor

set_option linter.unusedSimpArgs false
namespace Go.Proofs.YtjdcfaaoicnajaaDoor
open Go.RowKit Go.Maps Go.Lib

abbrev SX (w : World) (g i : Nat) (M : Int) : Prop := w.cell? ⟨g, i * 4, none⟩ = some (.int .u8 0) ∧ w.cell? ⟨g, i * 4 + 1, none⟩ = some (.string ⟨#[]⟩) ∧ w.cell? ⟨g, i * 4 + 2, none⟩ = some (.string ⟨#[]⟩) ∧ w.cell? ⟨g, i * 4 + 3, none⟩ = some (.int .i64 M)
theorem LentN.lt {w : World} {g cap : Nat} {t : List Nd} (h : LentN w g cap t) : g < w.heap.size := by
  obtain ⟨cur, hg, _⟩ := h.ex
  exact (Array.getElem?_eq_some_iff.1 hg).1
theorem marks_at (m : Nat) (h : m < 12) : nth (marksL 12) m = markNd 1 (m : Int) := by
  rw [nth_lt (by rw [marks_len]; exact h)]
  simp [marksL]
theorem LentN.mark {w : World} {g cap : Nat} {t : List Nd} (h : LentN w g cap t) (m : Nat) (hm : m < 12) : SX w g (t.length + m) (1000003 * (1 + 7) + (m : Int)) := by
  have := h.all (t.length + m) (by rw [List.length_append, marks_len]; omega)
  unfold knd nam vlu par at this
  rw [nth_app_right (by rw [marks_len]; exact hm), marks_at m hm] at this
  rw [Nat.zero_add] at this
  exact this
set_option maxHeartbeats 8000000 in
set_option maxRecDepth 100000 in
theorem keptN_any (w : World) (g cap n c : Nat) (ad : Option Addr) (t : List Nd) (hn : t.length = n) (hl : n ≤ 1000) (hLe : LentN w g cap t) (hA : NodesAt w ad t) :
    Calls Tryd.prog 11 #[.slice (some ⟨g, 0, none⟩) n cap, .slice ad n c] w fun e w' => e = .returned (.bool true) ∧ Fr [] w w' := by
  have HLe := Hid.mk hLe
  have HA := Hid.mk hA
  have HN := Hid.mk hn
  have hcp := hLe.cap
  rw [hn] at hcp
  have h1 : (n : Int) + 12 ≤ (cap : Int) := by omega
  clear hLe hA hn
  go_enter Tryd.func11, Tryd.ntmps11
  go_wp2
  go_loopw [6] (fun s5 wr => ∃ i : Nat, s5 = .int .i64 (i : Int) ∧ i ≤ n + 12 ∧ Hid (Fr [] w wr)) (fun s5 _ => n + 12 - (RowKit.intOf s5).toNat)
  case atStart => exact ⟨0, rfl, by omega, Fr.refl _ _⟩
  case round =>
    obtain ⟨i, rfl, hi, frh⟩ := hrel
    have hi0 : (0 : Int) ≤ (i : Int) := by omega
    have frw := frh.out
    by_cases hlt : i < n + 12
    · have hlt' : (i : Int) < ((n + 12 : Nat) : Int) := by omega
      by_cases hin : i < n
      · have hin' : (i : Int) < (n : Int) := by omega
        have hin2 : ¬ (n : Int) ≤ (i : Int) := by omega
        obtain ⟨b, off, rfl, c0, c1, c2, c3⟩ := (HA.out.kept frw) i (by rw [HN.out]; exact hin)
        obtain ⟨d0, d1, d2, d3⟩ := ((HLe.out.kept frw).nodes) i (by rw [HN.out]; exact hin)
        rw [Nat.zero_add] at d0 d1 d2 d3
        generalize knd t i = K at c0 d0
        generalize nam t i = NM at c1 d1
        generalize vlu t i = VL at c2 d2
        generalize par t i = p at c3 d3
        clear frw
        have hdl : decide ((i : Int) < (n : Int)) = true := by simpa using hin
        have hdg : decide (n ≤ i) = false := by simp; omega
        have hdn : decide (i < n) = true := by simpa using hin
        go_wp2_with fail
        go_quiet (fail)
        go_wp2_with fail
        exact ⟨⟨i + 1, by go_num, by omega, frh.out.drewN _⟩, by simp [RowKit.intOf]; omega⟩
      · have hdl : decide ((i : Int) < (n : Int)) = false := by simp; omega
        have hge : (n : Int) ≤ (i : Int) := by omega
        have hdg : decide (n ≤ i) = true := by simp; omega
        have hdn : decide (i < n) = false := by simp; omega
        obtain ⟨m, rfl⟩ : ∃ m : Nat, i = n + m := ⟨i - n, by omega⟩
        have hmn : ((n + m : Nat) : Int) - (n : Int) = (m : Int) := by omega
        have hlr := HLe.out.kept frw
        have hlt5 := hlr.lt
        obtain ⟨d0, d1, d2, d3⟩ := hlr.mark m (by omega)
        rw [HN.out] at d0 d1 d2 d3
        obtain ⟨M, HM⟩ : ∃ M, Hid (1000003 * (1 + 7) + (m : Int) = M) := ⟨_, rfl⟩
        rw [HM.out] at d3
        have cM := Hid.mk (fun w' => markNode_any w' 1 (m : Int) (by omega) (by omega) (by omega) (by omega))
        rw [HM.out] at cM
        have cM' : Hid (∀ w', Calls Tryd.prog 19 #[.int .i64 1, .int .i64 (m : Int)] w' fun e w'' => e = .returned (.agg #[.int .u8 0, .string ⟨#[]⟩, .string ⟨#[]⟩, .int .i64 M]) ∧ Fr [] w' w'') := cM.out
        obtain ⟨i, hi⟩ : ∃ i, n + m = i := ⟨_, rfl⟩
        rw [hi] at d0 d1 d2 d3 hdl hge hdg hdn hmn hlt hlt' hi0 hin
        rw [hi]
        have hS : Hid (∀ w' : World, w'.heap[g]? = wr.heap[g]? → SX w' g i M) :=
          fun w' e => ⟨(World.cell?_of_block e).trans d0, (World.cell?_of_block e).trans d1, (World.cell?_of_block e).trans d2, (World.cell?_of_block e).trans d3⟩
        clear hlr d0 d1 d2 d3
        go_wp2_with fail
        refine wp_region_noPanic ?_
        refine wp_region_held_drew (S := (fun w' => SX w' g i M)) (by kernel_rfl) (hS.out _ rfl) (fun hHeld => ?_)
        refine wpAnyH_take (i := 0) (v := ?_) rfl (by kernel_rfl) (by kernel_rfl) (by kernel_rfl) (fun _ _ _ h => h) (Or.inl ⟨by kernel_rfl, ?_⟩) hHeld ?_
        rotate_left
        · intro w' hSw
          obtain ⟨z0, z1, z2, z3⟩ := hSw
          go_simp
          try with_reducible rfl
        try simp only [Act.put, List.setIfInBounds_toArray]
        refine wpAnyH_take (i := 1) (v := ?_) rfl (by kernel_rfl) (by kernel_rfl) (by kernel_rfl) (fun _ _ _ h => h) (Or.inl ⟨by kernel_rfl, ?_⟩) hHeld ?_
        rotate_left
        · intro w' hSw
          obtain ⟨z0, z1, z2, z3⟩ := hSw
          go_simp
          try with_reducible rfl
        try simp only [Act.put, List.setIfInBounds_toArray]
        refine wpAnyH_take (i := 2) (v := ?_) rfl (by kernel_rfl) (by kernel_rfl) (by kernel_rfl) (fun _ _ _ h => h) (Or.inl ⟨by kernel_rfl, ?_⟩) hHeld ?_
        rotate_left
        · intro w' hSw
          obtain ⟨z0, z1, z2, z3⟩ := hSw
          go_simp
          try with_reducible rfl
        try simp only [Act.put, List.setIfInBounds_toArray]
        refine wpAnyH_take (i := 3) (v := ?_) rfl (by kernel_rfl) (by kernel_rfl) (by kernel_rfl) (fun _ _ _ h => h) (Or.inl ⟨by kernel_rfl, ?_⟩) hHeld ?_
        rotate_left
        · intro w' hSw
          obtain ⟨z0, z1, z2, z3⟩ := hSw
          go_simp
          try with_reducible rfl
        try simp only [Act.put, List.setIfInBounds_toArray]
        refine wpAnyH_take (i := 4) (v := ?_) rfl (by kernel_rfl) (by kernel_rfl) (by kernel_rfl) (fun _ _ _ h => h) (Or.inl ⟨by kernel_rfl, ?_⟩) hHeld ?_
        rotate_left
        · intro w' hSw
          obtain ⟨z0, z1, z2, z3⟩ := hSw
          go_simp
          try with_reducible rfl
        try simp only [Act.put, List.setIfInBounds_toArray]
        refine wpAnyH_take (i := 5) rfl (by kernel_rfl) (by kernel_rfl) (by kernel_rfl) (fun _ _ _ h => h) (Or.inr ⟨by kernel_rfl, rfl⟩) hHeld ?_
        try simp only [Act.put]
        refine wpAnyH_take (i := 6) rfl (by kernel_rfl) (by kernel_rfl) (by kernel_rfl) (fun _ _ _ h => h) (Or.inr ⟨by kernel_rfl, rfl⟩) hHeld ?_
        try simp only [Act.put]
        refine wpAnyH_take (i := 7) rfl (by kernel_rfl) (by kernel_rfl) (by kernel_rfl) (fun _ _ _ h => h) (Or.inr ⟨by kernel_rfl, rfl⟩) hHeld ?_
        try simp only [Act.put]
        refine wpAnyH_take (i := 8) rfl (by kernel_rfl) (by kernel_rfl) (by kernel_rfl) (fun _ _ _ h => h) (Or.inr ⟨by kernel_rfl, rfl⟩) hHeld ?_
        try simp only [Act.put]
        refine wpAnyH_take (i := 9) rfl (by kernel_rfl) (by kernel_rfl) (by kernel_rfl) (fun _ _ _ h => h) (Or.inr ⟨by kernel_rfl, rfl⟩) hHeld ?_
        try simp only [Act.put]
        refine wpAnyH_take (i := 10) rfl (by kernel_rfl) (by kernel_rfl) (by kernel_rfl) (fun _ _ _ h => h) (Or.inr ⟨by kernel_rfl, rfl⟩) hHeld ?_
        try simp only [Act.put]
        refine wpAnyH_take (i := 11) rfl (by kernel_rfl) (by kernel_rfl) (by kernel_rfl) (fun _ _ _ h => h) (Or.inr ⟨by kernel_rfl, rfl⟩) hHeld ?_
        try simp only [Act.put]
        refine wpAnyH_take (i := 12) rfl (by kernel_rfl) (by kernel_rfl) (by kernel_rfl) (fun _ _ _ h => h) (Or.inr ⟨by kernel_rfl, rfl⟩) hHeld ?_
        try simp only [Act.put]
        refine wpAnyH_take (i := 13) rfl (by kernel_rfl) (by kernel_rfl) (by kernel_rfl) (fun _ _ _ h => h) (Or.inr ⟨by kernel_rfl, rfl⟩) hHeld ?_
        try simp only [Act.put]
        refine wpAnyH_take (i := 14) rfl (by kernel_rfl) (by kernel_rfl) (by kernel_rfl) (fun _ _ _ h => h) (Or.inr ⟨by kernel_rfl, rfl⟩) hHeld ?_
        try simp only [Act.put]
        refine wpAnyH_take (i := 15) (v := ?_) rfl (by kernel_rfl) (by kernel_rfl) (by kernel_rfl) (fun _ _ _ h => h) (Or.inl ⟨by kernel_rfl, ?_⟩) hHeld ?_
        rotate_left
        · intro w' hSw
          obtain ⟨z0, z1, z2, z3⟩ := hSw
          go_simp
          try with_reducible rfl
        try simp only [Act.put, List.setIfInBounds_toArray]
        refine wpAnyH_take (i := 16) (v := ?_) rfl (by kernel_rfl) (by kernel_rfl) (by kernel_rfl) (fun _ _ _ h => h) (Or.inl ⟨by kernel_rfl, ?_⟩) hHeld ?_
        rotate_left
        · intro w' hSw
          obtain ⟨z0, z1, z2, z3⟩ := hSw
          go_simp
          try with_reducible rfl
        try simp only [Act.put, List.setIfInBounds_toArray]
        refine wpAnyH_take (i := 17) (v := ?_) rfl (by kernel_rfl) (by kernel_rfl) (by kernel_rfl) (fun _ _ _ h => h) (Or.inl ⟨by kernel_rfl, ?_⟩) hHeld ?_
        rotate_left
        · intro w' hSw
          obtain ⟨z0, z1, z2, z3⟩ := hSw
          go_simp
          try with_reducible rfl
        try simp only [Act.put, List.setIfInBounds_toArray]
        refine wpAnyH_take (i := 18) (v := ?_) rfl (by kernel_rfl) (by kernel_rfl) (by kernel_rfl) (fun _ _ _ h => h) (Or.inl ⟨by kernel_rfl, ?_⟩) hHeld ?_
        rotate_left
        · intro w' hSw
          obtain ⟨z0, z1, z2, z3⟩ := hSw
          go_simp
          try with_reducible rfl
        try simp only [Act.put, List.setIfInBounds_toArray]
        refine wpAnyH_take (i := 19) (v := ?_) rfl (by kernel_rfl) (by kernel_rfl) (by kernel_rfl) (fun _ _ _ h => h) (Or.inl ⟨by kernel_rfl, ?_⟩) hHeld ?_
        rotate_left
        · intro w' hSw
          obtain ⟨z0, z1, z2, z3⟩ := hSw
          go_simp
          try with_reducible rfl
        try simp only [Act.put, List.setIfInBounds_toArray]
        refine wpAnyH_take (i := 20) (v := ?_) rfl (by kernel_rfl) (by kernel_rfl) (by kernel_rfl) (fun _ _ _ h => h) (Or.inl ⟨by kernel_rfl, ?_⟩) hHeld ?_
        rotate_left
        · intro w' hSw
          obtain ⟨z0, z1, z2, z3⟩ := hSw
          go_simp
          try with_reducible rfl
        try simp only [Act.put, List.setIfInBounds_toArray]
        refine wpAnyH_take (i := 21) (v := ?_) rfl (by kernel_rfl) (by kernel_rfl) (by kernel_rfl) (fun _ _ _ h => h) (Or.inl ⟨by kernel_rfl, ?_⟩) hHeld ?_
        rotate_left
        · intro w' hSw
          obtain ⟨z0, z1, z2, z3⟩ := hSw
          go_simp
          try with_reducible rfl
        try simp only [Act.put, List.setIfInBounds_toArray]
        refine wpAnyH_take (i := 22) (v := ?_) rfl (by kernel_rfl) (by kernel_rfl) (by kernel_rfl) (fun _ _ _ h => h) (Or.inl ⟨by kernel_rfl, ?_⟩) hHeld ?_
        rotate_left
        · intro w' hSw
          obtain ⟨z0, z1, z2, z3⟩ := hSw
          go_simp
          try with_reducible rfl
        try simp only [Act.put, List.setIfInBounds_toArray]
        refine wpAnyH_take (i := 23) (v := ?_) rfl (by kernel_rfl) (by kernel_rfl) (by kernel_rfl) (fun _ _ _ h => h) (Or.inl ⟨by kernel_rfl, ?_⟩) hHeld ?_
        rotate_left
        · intro w' hSw
          obtain ⟨z0, z1, z2, z3⟩ := hSw
          go_simp
          try with_reducible rfl
        try simp only [Act.put, List.setIfInBounds_toArray]
        refine wpAnyH_take (i := 24) (v := ?_) rfl (by kernel_rfl) (by kernel_rfl) (by kernel_rfl) (fun _ _ _ h => h) (Or.inl ⟨by kernel_rfl, ?_⟩) hHeld ?_
        rotate_left
        · intro w' hSw
          obtain ⟨z0, z1, z2, z3⟩ := hSw
          go_simp
          try with_reducible rfl
        try simp only [Act.put, List.setIfInBounds_toArray]
        refine wpAnyH_take (i := 25) (v := ?_) rfl (by kernel_rfl) (by kernel_rfl) (by kernel_rfl) (fun _ _ _ h => h) (Or.inl ⟨by kernel_rfl, ?_⟩) hHeld ?_
        rotate_left
        · intro w' hSw
          obtain ⟨z0, z1, z2, z3⟩ := hSw
          go_simp
          try with_reducible rfl
        try simp only [Act.put, List.setIfInBounds_toArray]
        refine wpAnyH_take (i := 26) (v := ?_) rfl (by kernel_rfl) (by kernel_rfl) (by kernel_rfl) (fun _ _ _ h => h) (Or.inl ⟨by kernel_rfl, ?_⟩) hHeld ?_
        rotate_left
        · intro w' hSw
          obtain ⟨z0, z1, z2, z3⟩ := hSw
          go_simp
          try with_reducible rfl
        try simp only [Act.put, List.setIfInBounds_toArray]
        refine wpAnyH_take (i := 27) (v := ?_) rfl (by kernel_rfl) (by kernel_rfl) (by kernel_rfl) (fun _ _ _ h => h) (Or.inl ⟨by kernel_rfl, ?_⟩) hHeld ?_
        rotate_left
        · intro w' hSw
          obtain ⟨z0, z1, z2, z3⟩ := hSw
          go_simp
          try with_reducible rfl
        try simp only [Act.put, List.setIfInBounds_toArray]
        refine wpAnyH_take (i := 28) (v := ?_) rfl (by kernel_rfl) (by kernel_rfl) (by kernel_rfl) (fun _ _ _ h => h) (Or.inl ⟨by kernel_rfl, ?_⟩) hHeld ?_
        rotate_left
        · intro w' hSw
          obtain ⟨z0, z1, z2, z3⟩ := hSw
          go_simp
          try with_reducible rfl
        try simp only [Act.put, List.setIfInBounds_toArray]
        refine wpAnyH_take (i := 29) (v := ?_) rfl (by kernel_rfl) (by kernel_rfl) (by kernel_rfl) (fun _ _ _ h => h) (Or.inl ⟨by kernel_rfl, ?_⟩) hHeld ?_
        rotate_left
        · intro w' hSw
          obtain ⟨z0, z1, z2, z3⟩ := hSw
          go_simp
          try with_reducible rfl
        try simp only [Act.put, List.setIfInBounds_toArray]
        refine wpAnyH_ready (rs := [30]) (by kernel_rfl) (by simp) ?_
        refine AllReadyH.cons rfl (fun K hK => ?_) AllReadyH.nil
        rw [if_pos (by kernel_rfl)]
        go_wp2_with (go_at_call 19; refine (cM'.out _).mono ?_; rintro e w5 ⟨rfl, f5⟩)
        refine hK.out _ _ (hS.out w5 (f5.block g hlt5 (by simp))) (fun hHeld => ?_)
        clear hK K
        try simp only [Act.put, List.setIfInBounds_toArray, List.set_cons_zero, List.set_cons_succ]
        refine wpAnyH_take (i := 31) (v := ?_) rfl (by kernel_rfl) (by kernel_rfl) (by kernel_rfl) (fun _ _ _ h => h) (Or.inl ⟨by kernel_rfl, ?_⟩) hHeld ?_
        rotate_left
        · intro w' hSw
          obtain ⟨z0, z1, z2, z3⟩ := hSw
          go_simp
          try with_reducible rfl
        try simp only [Act.put, List.setIfInBounds_toArray]
        refine wpAnyH_take (i := 32) (v := ?_) rfl (by kernel_rfl) (by kernel_rfl) (by kernel_rfl) (fun _ _ _ h => h) (Or.inl ⟨by kernel_rfl, ?_⟩) hHeld ?_
        rotate_left
        · intro w' hSw
          obtain ⟨z0, z1, z2, z3⟩ := hSw
          go_simp
          try with_reducible rfl
        try simp only [Act.put, List.setIfInBounds_toArray]
        refine wpAnyH_take (i := 33) (v := ?_) rfl (by kernel_rfl) (by kernel_rfl) (by kernel_rfl) (fun _ _ _ h => h) (Or.inl ⟨by kernel_rfl, ?_⟩) hHeld ?_
        rotate_left
        · intro w' hSw
          obtain ⟨z0, z1, z2, z3⟩ := hSw
          go_simp
          try with_reducible rfl
        try simp only [Act.put, List.setIfInBounds_toArray]
        refine wpAnyH_take (i := 34) (v := ?_) rfl (by kernel_rfl) (by kernel_rfl) (by kernel_rfl) (fun _ _ _ h => h) (Or.inl ⟨by kernel_rfl, ?_⟩) hHeld ?_
        rotate_left
        · intro w' hSw
          obtain ⟨z0, z1, z2, z3⟩ := hSw
          go_simp
          try with_reducible rfl
        try simp only [Act.put, List.setIfInBounds_toArray]
        refine wpAnyH_done (by kernel_rfl) ?_ _
        refine NoPanic.normal ?_
        have fr5 : Fr [] w w5 := frh.out.drew.trans f5
        go_wp2_with fail
        exact ⟨⟨i + 1, by go_num, by omega, fr5⟩, by simp [RowKit.intOf]; omega⟩
    · obtain rfl : i = n + 12 := by omega
      go_wp2_with fail
      go_ret
      exact ⟨rfl, frh.out⟩
end Go.Proofs.YtjdcfaaoicnajaaDoor

namespace Go.Proofs.YtjdcfaaoicnajaaDoor
open Go.RowKit Go.Maps Go.Lib

theorem lent_any (w : World) (ad : Option Addr) (c n : Nat) (t : List Nd) (hn : t.length = n) (hN : NodesAt w ad t) (hl : n ≤ 1000) (hnil : ad = none → c = 0) :
    Calls Tryd.prog 8 #[.slice ad n c] w fun e w' => (∃ g cap, e = .returned (.slice (some ⟨g, 0, none⟩) n cap) ∧ LentN w' g cap t ∧ w.heap.size ≤ g) ∧ Fr [] w w' := by
  by_cases h0 : n = 0
  · subst h0
    have ht : t = [] := List.length_eq_zero_iff.1 hn
    cases ad with
    | none =>
      rw [hnil rfl]
      exact lent_nil w t ht
    | some x => exact lent_zero w x c t ht
  · obtain ⟨b, off, rfl, _⟩ := hN 0 (by omega)
    exact lent_some w b off c n t hn (fun i hi => by
      obtain ⟨b', off', e, q⟩ := hN i hi
      cases e
      exact q) (by omega) hl

end Go.Proofs.YtjdcfaaoicnajaaDoor

namespace Go.Proofs.YtjdcfaaoicnajaaDoor
open Go.RowKit Go.Maps Go.Lib

set_option maxHeartbeats 4000000 in
theorem refOrd_zero (w : World) (ad : Option Addr) (c : Nat) :
    Calls Tryd.prog 44 #[.slice ad 0 c] w fun e w' => e = .returned (.bool true) ∧ w' = w := by
  go_enter Tryd.func44, Tryd.ntmps44
  go_wp2
  go_loopw [3] (fun s3 wr => s3 = .int .i64 0 ∧ wr = w) (fun _ _ => 0)
  case atStart => exact ⟨rfl, rfl⟩
  case round =>
    obtain ⟨rfl, rfl⟩ := hrel
    go_wp2
    go_ret
    exact ⟨rfl, by first | rfl | trivial⟩
set_option maxHeartbeats 4000000 in
theorem refcheck_zero (w : World) (ad : Option Addr) (c : Nat) (r : Bool) :
    Calls Tryd.prog 34 #[.slice ad 0 c, .bool r] w fun e w' => e = .returned (.int .i64 ((if r then 4 else 0 : Nat) : Int)) ∧ Fr [] w w' := by
  have cO := Hid.mk (refOrd_zero w ad c)
  cases r
  all_goals
    go_enter Tryd.func34, Tryd.ntmps34
    go_wp2_with (go_at_call 44; refine (cO.out).mono ?_; rintro e w5 ⟨rfl, h5⟩; have h5' := h5.symm; subst h5')
    go_loopw [5, 6, 7, 8] (fun s5 s6 s7 s8 wr => s5 = .int .i64 0 ∧ s6 = .int .i64 0 ∧ s7 = .bool false ∧ s8 = .int .i64 0 ∧ wr = w) (fun _ _ _ _ _ => 0)
    case atStart => exact ⟨rfl, rfl, rfl, rfl, rfl⟩
    case round =>
      obtain ⟨rfl, rfl, rfl, rfl, rfl⟩ := hrel
      go_wp2
      go_ret
      exact ⟨rfl, Fr.refl _ _⟩
theorem refcheck_any (w : World) (ad : Option Addr) (c n : Nat) (t : List Nd) (hn : t.length = n) (hN : NodesAt w ad t) (hl : n ≤ 1000) (hZ : Short t) (r : Bool) :
    Calls Tryd.prog 34 #[.slice ad n c, .bool r] w fun e w' => e = .returned (.int .i64 (judged t (rootsB t r) : Nat)) ∧ Fr [] w w' := by
  by_cases h0 : n = 0
  · subst h0
    have ht : t = [] := List.length_eq_zero_iff.1 hn
    subst ht
    have e : judged [] (rootsB [] r) = if r then 4 else 0 := by cases r <;> rfl
    rw [e]
    exact refcheck_zero w ad c r
  · obtain ⟨b, off, rfl, _⟩ := hN 0 (by omega)
    subst hn
    have hI : NodesIn w b off t := fun i hi => by
      obtain ⟨b', off', e, q⟩ := hN i hi
      cases e
      exact q
    exact refcheck_some w b off c t hI hl r (fun i hi h o w' f => refFits_any w' b off c t (hI.kept f (by simp)) (by omega) hZ i hi h o)
theorem refCheck_any (w : World) (ad : Option Addr) (c n : Nat) (t : List Nd) (hn : t.length = n) (hN : NodesAt w ad t) (hl : n ≤ 1000) (hZ : Short t) :
    Calls Tryd.prog 23 #[.slice ad n c] w fun e w' => e = .returned (.int .i64 (judged t (oneB t) : Nat)) ∧ Fr [] w w' := by
  have J := Hid.mk (refcheck_any w ad c n t hn hN hl hZ true)
  have e : rootsB t true = oneB t := rfl
  rw [e] at J
  generalize judged t (oneB t) = A at J ⊢
  clear hN hn hZ e
  go_enter Tryd.func23, Tryd.ntmps23
  go_wp2_with (go_at_call 34; refine (J.out).mono ?_; rintro e w5 ⟨rfl, f5⟩)
  go_ret
  exact ⟨rfl, f5⟩
theorem refFragment_any (w : World) (ad : Option Addr) (c n : Nat) (t : List Nd) (hn : t.length = n) (hN : NodesAt w ad t) (hl : n ≤ 1000) (hZ : Short t) :
    Calls Tryd.prog 25 #[.slice ad n c] w fun e w' => e = .returned (.int .i64 (judged t (noB t) : Nat)) ∧ Fr [] w w' := by
  have J := Hid.mk (refcheck_any w ad c n t hn hN hl hZ false)
  have e : rootsB t false = noB t := rfl
  rw [e] at J
  generalize judged t (noB t) = A at J ⊢
  clear hN hn hZ e
  go_enter Tryd.func25, Tryd.ntmps25
  go_wp2_with (go_at_call 34; refine (J.out).mono ?_; rintro e w5 ⟨rfl, f5⟩)
  go_ret
  exact ⟨rfl, f5⟩
end Go.Proofs.YtjdcfaaoicnajaaDoor

