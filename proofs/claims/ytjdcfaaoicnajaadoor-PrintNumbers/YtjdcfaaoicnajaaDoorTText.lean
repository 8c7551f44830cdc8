/-
  Text.
-/
import Derived.Test.YtjdcfaaoicnajaaDoorTSmall
namespace Go.Proofs.YtjdcfaaoicnajaaDoor
open Go.RowKit Go.Maps Go.Lib

/-! ### rows of texts that are owned -/
theorem info9' : ∃ i, Tryd.prog.info? 9 = some i ∧ i.zero = some (.string ⟨#[]⟩) ∧ i.size = 1 ∧ i.bytes = 16 := by
  have h : (Tryd.prog.info? 9).map (fun i => (i.zero, i.size, i.bytes)) = some (some (.string ⟨#[]⟩), 1, 16) := by kernel_rfl
  cases hi : Tryd.prog.info? 9 with
  | none => rw [hi] at h; cases h
  | some i =>
    rw [hi] at h
    simp at h
    exact ⟨i, rfl, h.1, h.2.1, h.2.2⟩
def Strs (w0 w : World) (v : Value) (l : List ByteArray) : Prop := w.ownsRow w0.heap.size 9 1 v l.length (l.map Value.string)
theorem Strs.nil (w0 w : World) : Strs w0 w (.slice none 0 0) [] := World.ownsRow_nil w _ 9 1
theorem Strs.shape {w0 w : World} {v : Value} {l : List ByteArray} (h : Strs w0 w v l) : ∃ ad cap, v = .slice ad l.length cap ∧ ((ad = none ∧ l = []) ∨ ∃ g, ad = some ⟨g, 0, none⟩ ∧ g < w.heap.size ∧ l.length ≤ cap ∧ ∀ (j : Nat) x, l[j]? = some x → w.cell? ⟨g, 0 + j, none⟩ = some (.string x)) := by
  rcases h.2 with ⟨rfl, hn⟩ | ⟨g, cap, cur, rfl, hb, hg, hnc, _, hcs, ht⟩
  · exact ⟨none, 0, by rw [hn], Or.inl ⟨rfl, List.eq_nil_of_length_eq_zero hn⟩⟩
  · refine ⟨_, cap, rfl, Or.inr ⟨g, rfl, (Array.getElem?_eq_some_iff.1 hg).1, hnc, fun j x hj => ?_⟩⟩
    have hjl : j < l.length := (List.getElem?_eq_some_iff.1 hj).1
    rw [Nat.zero_add, cell_of_row w g j _ _ _ hg]
    have : (l.map Value.string)[j]? = some (.string x) := by simp [hj]
    rw [← this, ← ht, List.getElem?_take, if_pos (by omega)]
    simp
theorem Strs.kept0 {w0 w w' : World} {v : Value} {l : List ByteArray} (h : Strs w0 w v l) (k : Fr [] w w') : Strs w0 w' v l := by
  obtain ⟨h1, h2⟩ := h
  refine ⟨h1, ?_⟩
  rcases h2 with hn | ⟨g, cap, cur, rfl, hb, hg, r⟩
  · exact Or.inl hn
  · exact Or.inr ⟨g, cap, cur, rfl, hb, k.same (by simp) hg, r⟩
theorem Strs.keptG {w0 w w' : World} {v : Value} {l : List ByteArray} {L : List Nat} (h : Strs w0 w v l) (k : Fr L w w') (hL : ∀ g, v.ownBlock = some g → g ∉ L) : Strs w0 w' v l := by
  obtain ⟨h1, h2⟩ := h
  refine ⟨h1, ?_⟩
  rcases h2 with hn | ⟨g, cap, cur, rfl, hb, hg, r⟩
  · exact Or.inl hn
  · exact Or.inr ⟨g, cap, cur, rfl, hb, k.same (hL g rfl) hg, r⟩
section
variable {ops : Array Oper} {rest : List Oper} {o : Oper} {a : Act} {w : World} {Q : Exit → Act → World → Prop}
theorem wp_appS (hgd : o.guard = none) (s y : Operand) (ho : o.op = .call { callee := .builtin .append, args := #[s, y], argTypes := #[38, 38] }) (w0 : World) (v : Value) (l : List ByteArray) (hs : a.eval s = v) (hown : Strs w0 w v l) (hw : w0.heap.size ≤ w.heap.size)
    (b c : Nat) (x : ByteArray) (hy : a.eval y = .slice (some ⟨b, 0, none⟩) 1 c) (hx : w.cell? ⟨b, 0, none⟩ = some (.string x)) (hm : l.length + 1 ≤ 16777216) (f0 : Fr [] w0 w)
    (h : ∀ v' w', Strs w0 w' v' (l ++ [x]) → Fr [] w0 w' → wpList Tryd.prog ops Q rest (a.put o.dst v') w') : wpList Tryd.prog ops Q (o :: rest) a w :=
  wpList_plain hgd fun K hK => by
    obtain ⟨i, hi, hz, hsz, hb⟩ := info9'
    obtain ⟨g, cap, w', hrun, h2, h3, h5, h6⟩ := run_append_lies (P := Tryd.prog) w 38 o.type w0.heap.size 9 i (.string ⟨#[]⟩) 1 16 Tryd.underlying38 hi hz hsz hb rfl (by omega) v l.length (l.map Value.string) hown ⟨b, 0, none⟩ 1 c [.string x] (by simp) (by intro j u hj; cases j with | zero => (simp at hj; subst hj; rw [Addr.add_mid]; simpa using hx) | succ j => simp at hj) (by intro u hu; simp at hu; subst hu; rfl) (by omega) (by unfold maxLen; omega) (by omega) hw _ rfl
    unfold Oper.wp execOp
    simp [ho, resolve, invoke, builtin, hs, hy, hrun, Result.andThen]
    refine hK _ _ (h _ _ ?_ (f0.grown h3 (fun j e hj => ?_)))
    · show w'.ownsRow w0.heap.size 9 1 _ (l ++ [x]).length ((l ++ [x]).map Value.string)
      rw [List.length_append, List.map_append]
      exact h2
    · have := (hown.lt j e).1
      omega
end
/-- the Values of the Texts from a place to ahead of another. -/
def textsL (t : List Nd) (x y : Nat) : List ByteArray := ((List.range' x (y - x)).filter (fun i => decide (knd t i = 4))).map (vlu t)
def textS (t : List Nd) (k : Int) : List UInt8 := if hasB t k = true then (if knd t k.toNat = 1 ∨ knd t k.toNat = 2 then ((textsL t k.toNat (endOf t k.toNat)).map bl).flatten else bl (vlu t k.toNat)) else []
theorem textsL_step {t : List Nd} {x y : Nat} (h : x ≤ y) : textsL t x (y + 1) = textsL t x y ++ (if knd t y = 4 then [vlu t y] else []) := by
  unfold textsL
  rw [show y + 1 - x = (y - x) + 1 by omega, List.range'_concat, List.filter_append, List.map_append, show x + 1 * (y - x) = y by omega]
  congr 1
  by_cases c : knd t y = 4
  · rw [if_pos c]; simp [c]
  · rw [if_neg c]; simp [c]
theorem textsL_len (t : List Nd) (x y : Nat) : (textsL t x y).length ≤ y - x := by
  unfold textsL
  rw [List.length_map]
  exact Nat.le_trans (List.length_filter_le _ _) (by rw [List.length_range']; omega)
/-- values of a right row are not too long. -/
theorem flat_len (t : List Nd) (G : Good t) : ∀ (l : List Nat), (∀ i ∈ l, i < t.length) → (((l.map (vlu t)).map bl).flatten).length ≤ l.length * 65536
  | [], _ => by simp
  | x :: r, h => by
    have ih := flat_len t G r (fun i hi => h i (List.mem_cons_of_mem _ hi))
    have hx := (G x (h x List.mem_cons_self)).2.1.2
    simp only [List.map_cons, List.flatten_cons, List.length_append, List.length_cons]
    rw [bl_length]
    omega
end Go.Proofs.YtjdcfaaoicnajaaDoor
