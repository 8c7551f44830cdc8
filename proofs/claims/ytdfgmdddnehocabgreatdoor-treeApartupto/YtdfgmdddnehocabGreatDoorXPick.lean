/-
  Pick.
-/
import Derived.Test.YtdfgmdddnehocabGreatDoorTAwake
namespace Go.Proofs.YtdfgmdddnehocabGreatDoor
open Go.RowKit Go.Maps Go.Lib

theorem infoN' : ∃ i, Tryz.prog.info? 62 = some i ∧ i.zero = some (.agg #[.int .u8 0, .string ⟨#[]⟩, .string ⟨#[]⟩, .int .i64 0]) ∧ i.size = 4 ∧ i.bytes = 48 := by
  have h : (Tryz.prog.info? 62).map (fun i => (i.zero, i.size, i.bytes)) = some (some (.agg #[.int .u8 0, .string ⟨#[]⟩, .string ⟨#[]⟩, .int .i64 0]), 4, 48) := by kernel_rfl
  cases hi : Tryz.prog.info? 62 with
  | none => rw [hi] at h; cases h
  | some i =>
    rw [hi] at h
    simp at h
    exact ⟨i, rfl, h.1, h.2.1, h.2.2⟩
/-- New nodes, since a world. -/
def Nodes (w0 w : World) (v : Value) (t : List Nd) : Prop := w.ownsRow w0.heap.size 62 4 v t.length (rowL t)
theorem Nodes.shape {w0 w : World} {v : Value} {t : List Nd} (h : Nodes w0 w v t) : ∃ ad cap, v = .slice ad t.length cap ∧ t.length ≤ cap ∧ NodesAt w ad t ∧ (ad = none ∨ ∃ g, ad = some ⟨g, 0, none⟩ ∧ w0.heap.size ≤ g) := by
  rcases h.2 with ⟨rfl, hn⟩ | ⟨g, cap, cur, rfl, hb, hg, hnc, _, hcs, ht⟩
  · refine ⟨none, 0, by rw [hn], by omega, ?_, Or.inl rfl⟩
    intro i hi
    omega
  · exact ⟨_, cap, rfl, hnc, (nodes_of_cells hg ht).at, Or.inr ⟨g, rfl, hb⟩⟩
theorem Nodes.kept0 {w0 w w' : World} {v : Value} {t : List Nd} (h : Nodes w0 w v t) (k : Fr [] w w') : Nodes w0 w' v t := by
  obtain ⟨h1, h2⟩ := h
  refine ⟨h1, ?_⟩
  rcases h2 with hn | ⟨g, cap, cur, rfl, hb, hg, r⟩
  · exact Or.inl hn
  · exact Or.inr ⟨g, cap, cur, rfl, hb, k.same (by simp) hg, r⟩
theorem Nodes.from {w0 w1 w : World} {v : Value} {t : List Nd} (h : Nodes w1 w v t) (k : Fr [] w0 w1) : Nodes w0 w v t := by
  obtain ⟨h1, h2⟩ := h
  refine ⟨h1, ?_⟩
  rcases h2 with hn | ⟨g, cap, cur, rfl, hb, r⟩
  · exact Or.inl hn
  · exact Or.inr ⟨g, cap, cur, rfl, Nat.le_trans k.size hb, r⟩
theorem Nodes.new {w0 : World} (w : World) (hw : w0.heap.size ≤ w.heap.size) (t : List Nd) (n : Nat) (hn : t.length = n) (hl : n ≤ maxLen) (cs : Array Value) (hc : cs.toList = rowL t) : Nodes w0 (w.alloc (.cells cs 62)) (.slice (some ⟨w.heap.size, 0, none⟩) n n) t := by
  subst hn
  refine ⟨by rw [rowL_len], Or.inr ⟨w.heap.size, t.length, cs, rfl, hw, heap_alloc_new w _, Nat.le_refl _, hl, ?_, ?_⟩⟩
  · rw [← Array.length_toList, hc, rowL_len]
  · rw [hc, List.take_of_length_le (by rw [rowL_len]; exact Nat.le_refl _)]
theorem rowL_one (t : List Nd) : ∀ u ∈ rowL t, u.oneCell' = true := by
  induction t with
  | nil => intro u hu; cases hu
  | cons n r ih =>
    intro u hu
    rcases List.mem_append.1 hu with h | h
    · simp [ndL] at h
      rcases h with rfl | rfl | rfl | rfl <;> rfl
    · exact ih u h
section
variable {ops : Array Oper} {rest : List Oper} {o : Oper} {a : Act} {w : World} {Q : Exit → Act → World → Prop}
theorem wp_appN (hgd : o.guard = none) (s y : Operand) (ho : o.op = .call { callee := .builtin .append, args := #[s, y], argTypes := #[22, 22] }) (w0 : World) (v : Value) (t : List Nd) (hs : a.eval s = v) (hown : Nodes w0 w v t) (hw : w0.heap.size ≤ w.heap.size)
    (b off c k : Nat) (u : List Nd) (hu : u.length = k) (hk : 0 < k) (hy : a.eval y = .slice (some ⟨b, off, none⟩) k c) (hx : NodesIn w b off u) (hm : t.length + k ≤ 1000000) (f0 : Fr [] w0 w)
    (h : ∀ v' w', Nodes w0 w' v' (t ++ u) → Fr [] w0 w' → wpList Tryz.prog ops Q rest (a.put o.dst v') w') : wpList Tryz.prog ops Q (o :: rest) a w :=
  wpList_plain hgd fun K hK => by
    obtain ⟨i, hi, hz, hsz, hb⟩ := infoN'
    have hnews : ∀ j x, (rowL u)[j]? = some x → w.cell? ((⟨b, off, none⟩ : Addr).add j) = some x := by
      intro j x hj
      have hjl : j < u.length * 4 := by have := (List.getElem?_eq_some_iff.1 hj).1; rwa [rowL_len] at this
      have e : j = j / 4 * 4 + j % 4 := by omega
      have hq : j / 4 < u.length := by omega
      rw [e, rowL_at u (j / 4) (j % 4) (by omega) hq] at hj
      rw [Addr.add_mid, e]
      obtain ⟨c0, c1, c2, c3⟩ := hx (j / 4) hq
      have h4 : j % 4 = 0 ∨ j % 4 = 1 ∨ j % 4 = 2 ∨ j % 4 = 3 := by omega
      rcases h4 with r | r | r | r <;> rw [r] at hj ⊢ <;> rw [← hj]
      · exact c0
      · rw [← Nat.add_assoc]; exact c1
      · rw [← Nat.add_assoc]; exact c2
      · rw [← Nat.add_assoc]; exact c3
    obtain ⟨g, cap, w', hrun, h2, h3, h5, h6⟩ := run_append_lies (P := Tryz.prog) w 22 o.type w0.heap.size 62 i _ 4 48 Tryz.underlying22 hi hz hsz hb rfl (by omega) v t.length (rowL t) hown ⟨b, off, none⟩ k c (rowL u) (by rw [rowL_len, hu]) hnews (rowL_one u) hk (by unfold maxLen; omega) (by omega) hw _ rfl
    unfold Oper.wp execOp
    simp [ho, resolve, invoke, builtin, hs, hy, hrun, Result.andThen]
    refine hK _ _ (h _ _ ?_ (f0.grown h3 (fun j e hj => ?_)))
    · show w'.ownsRow w0.heap.size 62 4 _ (t ++ u).length (rowL (t ++ u))
      rw [List.length_append, rowL_app, hu]
      exact h2
    · have := (hown.lt j e).1
      omega
end
end Go.Proofs.YtdfgmdddnehocabGreatDoor

namespace Go.Proofs.YtdfgmdddnehocabGreatDoor
open Go.RowKit Go.Maps

theorem i64_bounds {x : Int} (h : (Lit.int .i64 x).wf = true) : -9223372036854775808 ≤ x ∧ x ≤ 9223372036854775807 := by
  simp [Lit.wf, show IntKind.i64.min = -9223372036854775808 from rfl, show IntKind.i64.max = 9223372036854775807 from rfl] at h
  exact h

theorem tmod_neg {x n : Int} (h1 : 1 ≤ n) (h : x.tmod n < 0) : x.tmod n + n = x % n := by
  have e := Int.tmod_eq_emod (a := x) (b := n)
  have h2 := Int.emod_nonneg x (show n ≠ 0 by omega)
  split at e <;> omega
theorem tmod_pos {x n : Int} (h1 : 1 ≤ n) (h : 0 ≤ x.tmod n) : x.tmod n = x % n := by
  have e := Int.tmod_eq_emod (a := x) (b := n)
  have h2 := Int.emod_lt_of_pos x (show 0 < n by omega)
  split at e <;> omega
theorem wrap64_small {v : Int} (h0 : -9223372036854775808 ≤ v) (h1 : v ≤ 9223372036854775807) : wrap64 v = v := by
  unfold wrap64
  omega

theorem ret_int {k : IntKind} {a b : Int} (h : a = b) : Ending.returned (.int k a) = .returned (.int k b) := by rw [h]

end Go.Proofs.YtdfgmdddnehocabGreatDoor

