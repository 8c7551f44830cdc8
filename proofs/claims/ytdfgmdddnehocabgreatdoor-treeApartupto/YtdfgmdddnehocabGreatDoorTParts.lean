/-
  TreeParts: the walk.
-/
import Derived.Test.YtdfgmdddnehocabGreatDoorTParM
namespace Go.Proofs.YtdfgmdddnehocabGreatDoor
open Go.RowKit Go.Maps Go.Lib

theorem fr_grown {w w' : World} {row : Option Nat} (k : w.grownBy w' row) : Fr row.toList w w' := (Fr.refl _ _).grown k (fun j e _ => by simp [e])
section
variable {ops : Array Oper} {rest : List Oper} {o : Oper} {a : Act} {w : World} {Q : Exit → Act → World → Prop}
theorem op_appIs {K : Act → World → Prop} (s y : Operand) (ho : o.op = .call { callee := .builtin .append, args := #[s, y], argTypes := #[29, 29] }) (w0 : World) (v : Value) (l : List Nat) (hs : a.eval s = v) (hown : Ints w0 w v l) (f0 : Fr [] w0 w) (u : World) (sv : Value) (m : List Nat) (hy : a.eval y = sv) (hm : Ints u w sv m) (hb : l.length + m.length ≤ 1000000)
    (h : ∀ v' w', Ints w0 w' v' (l ++ m) → Fr [] w0 w' → Fr v.ownBlock.toList w w' → K (a.put o.dst v') w') : Oper.wp Tryz.prog o a w K Q := by
  obtain ⟨i, hi, hz, hsz, hby⟩ := info3'
  rcases hm.2 with ⟨rfl, hn⟩ | ⟨g, cap, cur, rfl, _, hg, hnc, _, hcs, ht⟩
  · obtain rfl : m = [] := List.eq_nil_of_length_eq_zero hn
    have hrun := run_append_owned_none (P := Tryz.prog) (w := w) w0.heap.size 29 o.type 3 i 1 Tryz.underlying29 hi v l.length (l.map encI) hown
    unfold Oper.wp
    simp [execOp, ho, resolve, invoke, builtin, hs, hy, hrun, Result.andThen]
    exact h v w (by rw [List.append_nil]; exact hown) f0 (Fr.refl _ _)
  · obtain ⟨v', w', hrun, h2, h3, _, _⟩ := run_append_own_at (P := Tryz.prog) w w0.heap.size 29 o.type 3 i (.int .i64 0) 1 8 Tryz.underlying29 hi hz hsz hby rfl (by omega) v l.length (l.map encI) hown ⟨g, 0, none⟩ m.length cap (m.map encI) (by simp) (by
      intro j x hj
      rw [Addr.add_mid, Nat.zero_add, cell_of_row w g j _ _ _ hg]
      have hjl : j < m.length := by have := (List.getElem?_eq_some_iff.1 hj).1; simpa using this
      rw [← ht, List.getElem?_take, if_pos (by omega)] at hj
      simpa using hj) (by intro x hx; obtain ⟨j, _, rfl⟩ := List.mem_map.1 hx; rfl) (by unfold maxLen; omega) (by omega) f0.size
    unfold Oper.wp
    simp [execOp, ho, resolve, invoke, builtin, hs, hy, hrun, Result.andThen]
    refine h v' w' ?_ (f0.grown h3 (fun j e hj => ?_)) (fr_grown h3)
    · show w'.ownsRow w0.heap.size 3 1 _ (l ++ m).length ((l ++ m).map encI)
      rw [List.length_append, List.map_append]
      exact h2
    · have := (hown.lt j e).1
      omega
theorem wp_appIs (hgd : o.guard = none) (s y : Operand) (ho : o.op = .call { callee := .builtin .append, args := #[s, y], argTypes := #[29, 29] }) (w0 : World) (v : Value) (l : List Nat) (hs : a.eval s = v) (hown : Ints w0 w v l) (f0 : Fr [] w0 w) (u : World) (sv : Value) (m : List Nat) (hy : a.eval y = sv) (hm : Ints u w sv m) (hb : l.length + m.length ≤ 1000000)
    (h : ∀ v' w', Ints w0 w' v' (l ++ m) → Fr [] w0 w' → Fr v.ownBlock.toList w w' → wpList Tryz.prog ops Q rest (a.put o.dst v') w') : wpList Tryz.prog ops Q (o :: rest) a w :=
  wpList_plain hgd fun _ hK => op_appIs s y ho w0 v l hs hown f0 u sv m hy hm hb (fun v' w' h1 h2 h3 => hK _ _ (h v' w' h1 h2 h3))
end
/-- The blocks of two rows are two. -/
def Two (v u : Value) : Prop := ∀ g, v.ownBlock = some g → u.ownBlock ≠ some g
section
variable {ops : Array Oper} {rest : List Oper} {o : Oper} {a : Act} {w : World} {Q : Exit → Act → World → Prop}
theorem wp_appIL (hgd : o.guard = none) (s y : Operand) (ho : o.op = .call { callee := .builtin .append, args := #[s, y], argTypes := #[29, 29] }) (w0 : World) (v : Value) (l : List Nat) (hs : a.eval s = v) (hown : Ints w0 w v l) (f0 : Fr [] w0 w)
    (b c x : Nat) (hy : a.eval y = .slice (some ⟨b, 0, none⟩) 1 c) (hx : w.cell? ⟨b, 0, none⟩ = some (encI x)) (hm : l.length + 1 ≤ 16777216)
    (h : ∀ g cap w', Ints w0 w' (.slice (some ⟨g, 0, none⟩) (l.length + 1) cap) (l ++ [x]) → Fr v.ownBlock.toList w w' → Fr [] w0 w' → (v.ownBlock = some g ∨ g = w.heap.size) → wpList Tryz.prog ops Q rest (a.put o.dst (.slice (some ⟨g, 0, none⟩) (l.length + 1) cap)) w') : wpList Tryz.prog ops Q (o :: rest) a w :=
  wpList_plain hgd fun K hK => by
    obtain ⟨i, hi, hz, hsz, hb⟩ := info3'
    obtain ⟨g, cap, w', hrun, h2, h3, h5, h6⟩ := run_append_lies (P := Tryz.prog) w 29 o.type w0.heap.size 3 i (.int .i64 0) 1 8 Tryz.underlying29 hi hz hsz hb rfl (by omega) v l.length (l.map encI) hown ⟨b, 0, none⟩ 1 c [encI x] (by simp) (by intro j u hj; cases j with | zero => (simp at hj; subst hj; rw [Addr.add_mid]; simpa using hx) | succ j => simp at hj) (by intro u hu; simp at hu; subst hu; rfl) (by omega) (by unfold maxLen; omega) (by omega) f0.size _ rfl
    unfold Oper.wp execOp
    simp [ho, resolve, invoke, builtin, hs, hy, hrun, Result.andThen]
    refine hK _ _ (h _ _ _ ?_ (fr_grown h3) (f0.grown h3 (fun j e hj => ?_)) h5)
    · show w'.ownsRow w0.heap.size 3 1 _ (l ++ [x]).length ((l ++ [x]).map encI)
      rw [List.length_append, List.map_append]
      exact h2
    · have := (hown.lt j e).1
      omega
end
theorem judged_ok {t : List Nd} (h : judged t (oneB t) = 0) : okT t = true ∧ oneB t = true := by
  have h1 : oneB t = true := by
    unfold judged at h
    split at h
    · cases h
    · split at h
      · cases h
      · rename_i hg
        cases hb : oneB t with
        | true => rfl
        | false => rw [hb, Bool.and_false] at hg; exact absurd rfl hg
  refine ⟨?_, h1⟩
  unfold okT
  have hk : knd t 0 = 1 := by
    unfold oneB at h1
    rw [Bool.and_eq_true, decide_eq_true_eq] at h1
    exact h1.1
  rw [if_pos hk, h]
  rfl
theorem one_top {t : List Nd} (G : Good t) (h1 : oneB t = true) {k : Nat} (hk : k < t.length) (h0 : 0 < k) : 0 ≤ par t k := by
  unfold oneB at h1
  simp only [Bool.and_eq_true, decide_eq_true_eq] at h1
  have hT : t.countP (fun n => decide (n.parent < 0)) = 1 := h1.2.1
  rcases (by omega : par t k < 0 ∨ 0 ≤ par t k) with c | c
  · exfalso
    have o0 := (G 0 (by omega)).1.2.1
    have e0 : (fun n : Nd => decide (n.parent < 0)) (nth t 0) = true := decide_eq_true (by have : par t 0 < ((0 : Nat) : Int) := o0; unfold par at this; simpa using this)
    have ek : (fun n : Nd => decide (n.parent < 0)) (nth t k) = true := decide_eq_true c
    have hs : t = t.take k ++ t[k] :: t.drop (k + 1) := by rw [List.getElem_cons_drop, List.take_append_drop]
    rw [hs, List.countP_append, List.countP_cons] at hT
    rw [nth_lt hk] at ek
    have h2 : 0 < (t.take k).countP (fun n => decide (n.parent < 0)) := by
      refine List.countP_pos_iff.2 ⟨t[0], ?_, ?_⟩
      · refine List.mem_iff_getElem.2 ⟨0, by rw [List.length_take]; omega, ?_⟩
        rw [List.getElem_take]
      · rw [nth_lt (by omega)] at e0
        exact e0
    rw [if_pos ek] at hT
    omega
  · exact c

theorem lsts_len {t : List Nd} {k : Nat} (hk : k < t.length) (h : t.length ≤ 300) : ∀ a, a ≤ 5 → (lsts t k a).length ≤ 5 * 300 := by
  have key : ∀ a, (lsts t k a).length ≤ a * 300 := by
    intro a
    induction a with
    | zero => simp [lsts]
    | succ a ih =>
      have := lst_len hk a
      rw [lsts, List.length_append]
      omega
  intro a ha
  exact Nat.le_trans (key a) (Nat.mul_le_mul_right 300 ha)
end Go.Proofs.YtdfgmdddnehocabGreatDoor
