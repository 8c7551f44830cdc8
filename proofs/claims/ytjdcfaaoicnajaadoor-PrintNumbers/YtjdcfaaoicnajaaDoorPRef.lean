/-
  The document's own answers: Escape, Quote.
-/
import Derived.Test.YtjdcfaaoicnajaaDoorPAwake
namespace Go.Proofs.YtjdcfaaoicnajaaDoor
open Go.RowKit Go.Maps Go.Lib

/-! ### rows of bytes that are owned -/
def BytesO (w0 w : World) (v : Value) (l : List UInt8) : Prop := w.ownsRow w0.heap.size 5 1 v l.length (arr l).toList
theorem BytesO.nil (w0 w : World) : BytesO w0 w (.slice none 0 0) [] := World.ownsRow_nil w _ 5 1
theorem BytesO.shape {w0 w : World} {v : Value} {l : List UInt8} (h : BytesO w0 w v l) : ∃ ad cap, v = .slice ad l.length cap ∧ BytesAt w ad l ∧ (ad = none ∨ ∃ b off, ad = some ⟨b, off, none⟩) := by
  rcases h.2 with ⟨rfl, hn⟩ | ⟨g, cap, cur, rfl, hb, hg, hnc, _, hcs, ht⟩
  · have : l = [] := List.eq_nil_of_length_eq_zero hn
    subst this
    exact ⟨none, 0, rfl, BytesAt.nil _ _, Or.inl rfl⟩
  · refine ⟨_, cap, rfl, fun j v hv => ⟨g, 0, rfl, ?_⟩, Or.inr ⟨g, 0, rfl⟩⟩
    have hj : j < l.length := by have := (List.getElem?_eq_some_iff.1 hv).1; simpa [arr] using this
    rw [Nat.zero_add, cell_of_row w g j _ _ _ hg]
    rw [← ht, List.getElem?_take, if_pos (by omega)] at hv
    simpa using hv
theorem BytesO.shape' {w0 w : World} {v : Value} {l : List UInt8} (h : BytesO w0 w v l) : ∃ ad n cap, v = .slice ad n cap ∧ Hid (l.length = n) ∧ Hid (BytesAt w ad l) ∧ Hid (ad = none ∨ ∃ b off, ad = some ⟨b, off, none⟩) := by
  obtain ⟨ad, cap, rfl, h1, h2⟩ := h.shape
  exact ⟨ad, _, cap, rfl, Hid.mk rfl, Hid.mk h1, Hid.mk h2⟩
theorem BytesO.kept {w0 w w' : World} {v : Value} {l : List UInt8} (h : BytesO w0 w v l) (k : Fr [] w w') : BytesO w0 w' v l := own_keptW h k (by simp)
section
variable {ops : Array Oper} {rest : List Oper} {o : Oper} {a : Act} {w : World} {Q : Exit → Act → World → Prop}
theorem wp_appStr (hgd : o.guard = none) (s x : Operand) (ho : o.op = .call { callee := .builtin .append, args := #[s, x], argTypes := #[34, 9] }) (w0 : World) (v : Value) (l : List UInt8) (hs : a.eval s = v) (hown : BytesO w0 w v l) (t : ByteArray) (hx : a.eval x = .string t) (hm : l.length + t.size ≤ 140737488355328) (f0 : Fr [] w0 w)
    (h : ∀ v' w', BytesO w0 w' v' (l ++ bl t) → Fr [] w0 w' → wpList Tryd.prog ops Q rest (a.put o.dst v') w') : wpList Tryd.prog ops Q (o :: rest) a w := by
  obtain ⟨i, hi, hz, hsz, hb⟩ := info5'
  refine Lib.wpList_append_own_string w hgd s x 34 9 ho w0.heap.size 5 i Tryd.underlying34 Tryd.underlying9 hi hz hsz hb v l.length (arr l).toList hs hown t hx (by unfold maxLen; omega) (by omega) f0.size ?_
  intro v' w' hown' hgr hnil
  refine h v' w' ?_ (f0.grown hgr (fun j e hj => ?_))
  · show w'.ownsRow w0.heap.size 5 1 v' (l ++ bl t).length (arr (l ++ bl t)).toList
    rw [List.length_append, bl_length, ← arr_append]
    have e0 : Lib.strCells t = (arr (bl t)).toList := by simp [Lib.strCells, arr, bl]
    rw [← e0]
    exact hown'
  · have := (hown.lt j e).1
    omega
theorem wp_appB (hgd : o.guard = none) (s y : Operand) (ho : o.op = .call { callee := .builtin .append, args := #[s, y], argTypes := #[34, 34] }) (w0 : World) (v : Value) (l : List UInt8) (hs : a.eval s = v) (hown : BytesO w0 w v l)
    (b c : Nat) (x : UInt8) (hy : a.eval y = .slice (some ⟨b, 0, none⟩) 1 c) (hx : w.cell? ⟨b, 0, none⟩ = some (.int .u8 (x.toNat : Int))) (hm : l.length + 1 ≤ 140737488355328) (f0 : Fr [] w0 w)
    (h : ∀ v' w', BytesO w0 w' v' (l ++ [x]) → Fr [] w0 w' → wpList Tryd.prog ops Q rest (a.put o.dst v') w') : wpList Tryd.prog ops Q (o :: rest) a w :=
  wpList_plain hgd fun K hK => by
    obtain ⟨i, hi, hz, hsz, hb⟩ := info5'
    obtain ⟨g, cap, w', hrun, h2, h3, h5, h6⟩ := run_append_lies (P := Tryd.prog) w 34 o.type w0.heap.size 5 i (.int .u8 0) 1 1 Tryd.underlying34 hi hz hsz hb rfl (by omega) v l.length (arr l).toList hown ⟨b, 0, none⟩ 1 c [.int .u8 (x.toNat : Int)] (by simp) (by intro j u hj; cases j with | zero => (simp at hj; subst hj; rw [Addr.add_mid]; simpa using hx) | succ j => simp at hj) (by intro u hu; simp at hu; subst hu; rfl) (by omega) (by unfold maxLen; omega) (by omega) f0.size _ rfl
    unfold Oper.wp execOp
    simp [ho, resolve, invoke, builtin, hs, hy, hrun, Result.andThen]
    refine hK _ _ (h _ _ ?_ (f0.grown h3 (fun j e hj => ?_)))
    · show w'.ownsRow w0.heap.size 5 1 _ (l ++ [x]).length (arr (l ++ [x])).toList
      rw [List.length_append, ← arr_append]
      exact h2
    · have := (hown.lt j e).1
      omega
end
theorem esc_next (R : UInt8 → List UInt8) (l : List UInt8) (i : Nat) (hi : i < l.length) : escL R (l.take (i + 1)) = escL R (l.take i) ++ (if R (byteAt l i) = [] then [byteAt l i] else R (byteAt l i)) := by
  rw [byteAt_lt hi, List.take_succ_eq_append_getElem hi, escL_app, escL_one]
end Go.Proofs.YtjdcfaaoicnajaaDoor
