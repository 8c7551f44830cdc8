/-
  Rows of lists put together, whatever the order in which memory is made.
-/
import Derived.Test.YtddcilmeignlmaaGreatDoorLCopy
namespace Go.Proofs.YtddcilmeignlmaaGreatDoor
open Go.RowKit Go.Maps Go.Lib

theorem run_appLF (w : World) (ty : TypeId) (w0 : World) (v : Value) (n : Nat) (xs : List Value) (hown : OwnL w0 w v n xs) (a0 : Addr) (m c : Nat) (news : List Value) (hl : news.length = m) (hsrc : ∀ j u, news[j]? = some u → w.cell? (a0.add j) = some u) (h1 : ∀ u ∈ news, u.oneCell' = true) (hm : n + m ≤ 1000000) :
    ∃ v' w', (Builtin.append_ #[35, 35] ty #[v, .slice (some a0) m c]).run Tryz.prog w = .ok v' w' ∧ OwnL w0 w' v' (n + m) (xs ++ news) ∧ Fr v.ownBlock.toList w w' := by
  obtain ⟨i, hi, hz, hs, hb⟩ := infoS'
  obtain ⟨v', w', hrun, h2, h3, _, _⟩ := run_append_own_at (P := Tryz.prog) w w0.heap.size 35 ty 22 i (.slice none 0 0) 1 24 Tryz.underlying35 hi hz hs hb rfl (by omega) v n xs hown.1 a0 m c news (by omega) hsrc h1 (by unfold maxLen; omega) (by omega) hown.2.size
  exact ⟨v', w', hrun, ⟨h2, hown.2.grown h3 (fun j e hj => by
    have := (hown.1.lt j e).1
    omega)⟩, fr_grown h3⟩
theorem op_appLF {o : Oper} {a : Act} {w : World} {K : Act → World → Prop} {Q : Exit → Act → World → Prop} (s x : Operand) (ho : o.op = .call { callee := .builtin .append, args := #[s, x], argTypes := #[35, 35] }) (w0 : World) (v : Value) (n : Nat) (xs : List Value) (hs : a.eval s = v) (hown : OwnL w0 w v n xs)
    (a0 : Addr) (m c : Nat) (news : List Value) (hx : a.eval x = .slice (some a0) m c) (hl : news.length = m) (hsrc : ∀ j u, news[j]? = some u → w.cell? (a0.add j) = some u) (h1 : ∀ u ∈ news, u.oneCell' = true) (hm : n + m ≤ 1000000)
    (h : ∀ v' w', OwnL w0 w' v' (n + m) (xs ++ news) → Fr v.ownBlock.toList w w' → K (a.put o.dst v') w') : Oper.wp Tryz.prog o a w K Q := by
  obtain ⟨v', w', hrun, hown', hf⟩ := run_appLF w o.type w0 v n xs hown a0 m c news hl hsrc h1 hm
  unfold Oper.wp execOp
  simp [ho, resolve, invoke, builtin, hs, hx, hrun, Result.andThen]
  exact h _ _ hown' hf
theorem op_appNone {o : Oper} {a : Act} {w : World} {K : Act → World → Prop} {Q : Exit → Act → World → Prop} (s x : Operand) (ho : o.op = .call { callee := .builtin .append, args := #[s, x], argTypes := #[35, 35] }) (v : Value) (n : Nat) (xs : List Value) (hs : a.eval s = v) (hown : w.ownsRow 0 22 1 v n xs) (hx : a.eval x = .slice none 0 0)
    (h : K (a.put o.dst v) w) : Oper.wp Tryz.prog o a w K Q := by
  obtain ⟨i, hi, hz, hsz, hb⟩ := infoS'
  have hrun := run_append_owned_none (P := Tryz.prog) (w := w) 0 35 o.type 22 i 1 Tryz.underlying35 hi v n xs hown
  unfold Oper.wp
  simp [execOp, ho, resolve, invoke, builtin, hs, hx, hrun, Result.andThen]
  exact h

theorem ownL_lit {w0 w : World} (f : Fr [] w0 w) : OwnL w0 (w.alloc (.cells #[] 22)) (.slice (some ⟨w.heap.size, 0, none⟩) 0 0) 0 [] :=
  ⟨⟨rfl, Or.inr ⟨w.heap.size, 0, #[], rfl, f.size, heap_alloc_new _ _, Nat.le_refl _, by unfold maxLen; omega, rfl, rfl⟩⟩, f.alloc _⟩
theorem lit_cell (w : World) (x : Value) : (w.alloc (.cells #[x] 22)).cell? ⟨w.heap.size, 0, none⟩ = some x := by
  rw [cell_of_row _ _ _ _ _ _ (heap_alloc_new w _)]
  rfl
theorem one_src {w : World} {b : Nat} {x : Value} (h : w.cell? ⟨b, 0, none⟩ = some x) : ∀ j u, [x][j]? = some u → w.cell? ((⟨b, 0, none⟩ : Addr).add j) = some u := by
  intro j u hu
  cases j with
  | zero => simp at hu; subst hu; rw [Addr.add_mid]; simpa using h
  | succ j => simp at hu
theorem cell_fr {w w' : World} {L : List Nat} {a : Addr} {x : Value} (h : w.cell? a = some x) (f : Fr L w w') (hL : a.block ∉ L) : w'.cell? a = some x :=
  (World.cell?_of_block (f.block a.block (block_lt_of_cell h) hL)).trans h
theorem vals_one (R : List Ent) : ∀ u ∈ R.map Ent.val, u.oneCell' = true := by
  intro u hu
  obtain ⟨e, _, rfl⟩ := List.mem_map.1 hu
  rfl

/-- The row, opened: nothing, or a block. -/
theorem RowAt.open {w0 w : World} {pp : List (List Bool)} {v : Value} {R : List Ent} (h : RowAt w0 pp w v R) (h0 : 0 < R.length) : ∃ g cap, v = .slice (some ⟨g, 0, none⟩) R.length cap ∧ R.length ≤ cap ∧ ∀ i u, (R.map Ent.val)[i]? = some u → w.cell? ⟨g, i, none⟩ = some u := by
  rcases h.own.2 with ⟨_, e⟩ | ⟨g, cap, cur, rfl, _, hg, hnc, _, hcs, ht⟩
  · omega
  · refine ⟨g, cap, rfl, hnc, fun i u hu => ?_⟩
    have hi : i < R.length := by have := (List.getElem?_eq_some_iff.1 hu).1; simpa using this
    rw [cell_of_row w g i _ _ _ hg]
    rw [← ht, List.getElem?_take, if_pos (by omega)] at hu
    simpa using hu
theorem src_head {w : World} {g k : Nat} {xs : List Value} (h : ∀ i u, xs[i]? = some u → w.cell? ⟨g, i, none⟩ = some u) : ∀ j u, (xs.take k)[j]? = some u → w.cell? ((⟨g, 0, none⟩ : Addr).add j) = some u := by
  intro j u hu
  rw [List.getElem?_take] at hu
  split at hu
  · rw [Addr.add_mid]
    simpa using h j u hu
  · cases hu
theorem src_tail {w : World} {g k : Nat} {xs : List Value} (h : ∀ i u, xs[i]? = some u → w.cell? ⟨g, i, none⟩ = some u) : ∀ j u, (xs.drop k)[j]? = some u → w.cell? ((⟨g, k, none⟩ : Addr).add j) = some u := by
  intro j u hu
  rw [List.getElem?_drop] at hu
  rw [Addr.add_mid]
  exact h _ u hu

end Go.Proofs.YtddcilmeignlmaaGreatDoor
