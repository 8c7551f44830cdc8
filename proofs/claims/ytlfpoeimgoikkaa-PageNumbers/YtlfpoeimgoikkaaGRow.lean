/-
  Rows of lists of bytes, new since a world: append.
-/
import Derived.Test.YtlfpoeimgoikkaaGTell
import Derived.Laws.AppendOwnNone
namespace Go.Proofs.Ytlfpoeimgoikkaa
open Go.RowKit Go.Maps

theorem infoS' : ∃ i, Try.prog.info? 22 = some i ∧ i.zero = some (.slice none 0 0) ∧ i.size = 1 ∧ i.bytes = 24 := by
  have h : (Try.prog.info? 22).map (fun i => (i.zero, i.size, i.bytes)) = some (some (.slice none 0 0), 1, 24) := by kernel_rfl
  cases hi : Try.prog.info? 22 with
  | none => rw [hi] at h; cases h
  | some i =>
    rw [hi] at h
    simp at h
    exact ⟨i, rfl, h.1, h.2.1, h.2.2⟩

/-- Values that lie one behind the other. -/
def ValsAt (w : World) (ad : Option Addr) (ys : List Value) : Prop := ∀ j v, ys[j]? = some v → ∃ b off, ad = some ⟨b, off, none⟩ ∧ w.cell? ⟨b, off + j, none⟩ = some v
theorem ValsAt.nil (w : World) (ad : Option Addr) : ValsAt w ad [] := fun j v hv => by simp at hv
theorem ValsAt.kept {w w' : World} {ad : Option Addr} {ys : List Value} {L : List Nat} (h : ValsAt w ad ys) (k : Fr L w w') (hL : ∀ b off, ad = some ⟨b, off, none⟩ → b ∉ L) : ValsAt w' ad ys := by
  intro j v hv
  obtain ⟨b, off, ha, hc⟩ := h j v hv
  exact ⟨b, off, ha, (World.cell?_of_block (k.block b (block_lt_of_cell hc) (hL b off ha))).trans hc⟩
theorem ValsAt.take {w : World} {ad : Option Addr} {ys : List Value} (h : ValsAt w ad ys) (m : Nat) : ValsAt w ad (ys.take m) := by
  intro j v hv
  refine h j v ?_
  rw [List.getElem?_take] at hv
  split at hv
  · exact hv
  · cases hv
theorem ValsAt.drop {w : World} {b off : Nat} {ys : List Value} (h : ValsAt w (some ⟨b, off, none⟩) ys) (m : Nat) : ValsAt w (some ⟨b, off + m, none⟩) (ys.drop m) := by
  intro j v hv
  rw [List.getElem?_drop] at hv
  obtain ⟨b', off', e, hc⟩ := h (m + j) v hv
  cases e
  exact ⟨b, off + m, rfl, by rw [Nat.add_assoc]; exact hc⟩

/-- A row of values of that kind (slices), new since w0. -/
structure OwnV (e : TypeId) (w0 w : World) (ad : Option Addr) (n cap : Nat) (xs : List Value) : Prop where
  own : w.ownsRow w0.heap.size e 1 (.slice ad n cap) n xs
  fr : Fr [] w0 w
theorem OwnV.kept {e : TypeId} {w0 w w' : World} {ad : Option Addr} {n cap : Nat} {xs : List Value} (h : OwnV e w0 w ad n cap xs) (k : Fr [] w w') : OwnV e w0 w' ad n cap xs := by
  refine ⟨?_, h.fr.trans k⟩
  obtain ⟨h1, h2⟩ := h.own
  refine ⟨h1, ?_⟩
  rcases h2 with hn | ⟨g, c, cur, hv, hb, hg, r⟩
  · exact Or.inl hn
  · exact Or.inr ⟨g, c, cur, hv, hb, k.same (by simp) hg, r⟩
/-- The same seen from an earlier world. -/
theorem OwnV.from {e : TypeId} {w1 w0 w : World} {ad : Option Addr} {n cap : Nat} {xs : List Value} (h : OwnV e w0 w ad n cap xs) (k : Fr [] w1 w0) : OwnV e w1 w ad n cap xs := by
  refine ⟨?_, k.trans h.fr⟩
  obtain ⟨h1, h2⟩ := h.own
  refine ⟨h1, ?_⟩
  rcases h2 with hn | ⟨g, c, cur, hv, hb, r⟩
  · exact Or.inl hn
  · exact Or.inr ⟨g, c, cur, hv, Nat.le_trans k.size hb, r⟩
/-- What stays of a row where other blocks are written. -/
theorem OwnV.keptL {e : TypeId} {w0 w w' : World} {ad : Option Addr} {n cap : Nat} {xs : List Value} {L : List Nat} (h : OwnV e w0 w ad n cap xs) (k : Fr L w w') (hL : ∀ g, ad = some ⟨g, 0, none⟩ → g ∉ L) (k0 : Fr [] w0 w') : OwnV e w0 w' ad n cap xs := by
  refine ⟨?_, k0⟩
  obtain ⟨h1, h2⟩ := h.own
  refine ⟨h1, ?_⟩
  rcases h2 with hn | ⟨g, c, cur, hv, hb, hg, r⟩
  · exact Or.inl hn
  · cases hv
    exact Or.inr ⟨g, cap, cur, rfl, hb, k.same (hL g rfl) hg, r⟩
theorem OwnV.nil {e : TypeId} {w0 w : World} (f : Fr [] w0 w) : OwnV e w0 w none 0 0 [] := ⟨World.ownsRow_nil _ _ _ _, f⟩
theorem OwnV.len {e : TypeId} {w0 w : World} {ad : Option Addr} {n cap : Nat} {xs : List Value} (h : OwnV e w0 w ad n cap xs) : xs.length = n := by have := h.own.1; omega
theorem OwnV.shape {e : TypeId} {w0 w : World} {ad : Option Addr} {n cap : Nat} {xs : List Value} (h : OwnV e w0 w ad n cap xs) : (ad = none ∧ n = 0 ∧ cap = 0 ∧ xs = []) ∨ ∃ g, ad = some ⟨g, 0, none⟩ ∧ n ≤ cap ∧ w0.heap.size ≤ g ∧ g < w.heap.size := by
  rcases h.own.2 with ⟨hv, hn⟩ | ⟨g, c, cur, hv, hb, hg, hnc, _⟩
  · cases hv
    exact Or.inl ⟨rfl, rfl, rfl, List.eq_nil_of_length_eq_zero h.len⟩
  · cases hv
    exact Or.inr ⟨g, rfl, hnc, hb, (Array.getElem?_eq_some_iff.1 hg).1⟩
theorem OwnV.vals {e : TypeId} {w0 w : World} {ad : Option Addr} {n cap : Nat} {xs : List Value} (h : OwnV e w0 w ad n cap xs) : ValsAt w ad xs := by
  intro j v hv
  have hl := h.len
  have hj : j < xs.length := (List.getElem?_eq_some_iff.1 hv).1
  rcases h.own.2 with ⟨hvv, hn⟩ | ⟨g, c, cur, hvv, hb, hg, hnc, _, hcs, ht⟩
  · omega
  · cases hvv
    refine ⟨g, 0, rfl, ?_⟩
    rw [Nat.zero_add, cell_of_row w g j _ _ _ hg, ← hv, ← ht, List.getElem?_take, if_pos (by omega)]
    simp

section
variable {ops : Array Oper} {rest : List Oper} {o : Oper} {a : Act} {w : World} {Q : Exit → Act → World → Prop}

theorem run_appV (ty : TypeId) (w0 : World) (ad0 : Option Addr) (n cap : Nat) (xs : List Value) (hown : OwnV 22 w0 w ad0 n cap xs) (ad : Option Addr) (m c : Nat) (ys : List Value) (hl : ys.length = m) (hsrc : ValsAt w ad ys) (h1 : ∀ u ∈ ys, u.oneCell' = true) (hm : n + m ≤ 1000000)
    (hne : ad = none → m = 0 ∧ c = 0) :
    ∃ ad' cap' w', (Builtin.append_ #[30, 30] ty #[.slice ad0 n cap, .slice ad m c]).run Try.prog w = .ok (.slice ad' (n + m) cap') w' ∧ OwnV 22 w0 w' ad' (n + m) cap' (xs ++ ys) := by
  obtain ⟨i, hi, hz, hs, hb⟩ := infoS'
  cases ad with
  | none =>
    obtain ⟨rfl, rfl⟩ := hne rfl
    have e0 : ys = [] := List.eq_nil_of_length_eq_zero hl
    subst e0
    refine ⟨ad0, cap, w, ?_, by simpa using hown⟩
    exact run_append_owned_none (P := Try.prog) (w := w) w0.heap.size 30 ty 22 i 1 Try.underlying30 hi _ n xs hown.own
  | some a0 =>
    obtain ⟨v', w', hrun, h2, h3, _, _⟩ := run_append_own_at (P := Try.prog) w w0.heap.size 30 ty 22 i (.slice none 0 0) 1 24 Try.underlying30 hi hz hs hb rfl (by omega) _ n xs hown.own a0 m c ys (by omega)
      (by
        intro j u hu
        obtain ⟨b, off, e, hc⟩ := hsrc j u hu
        cases e
        rw [Addr.add_mid]
        exact hc) h1 (by unfold maxLen; omega) (by omega) hown.fr.size
    have hfr := hown.fr.grown h3 (fun j e hj => by
      have := (hown.own.lt j e).1
      omega)
    rcases h2.2 with ⟨e, hn0⟩ | ⟨g, c', cur, e, r⟩
    · subst e
      have : n + m = 0 := hn0
      refine ⟨none, 0, w', ?_, ⟨?_, hfr⟩⟩
      · rw [hrun, this]
      · rw [this]; rw [this] at h2; exact h2
    · subst e
      exact ⟨_, _, w', hrun, h2, hfr⟩

theorem wp_appV (hgd : o.guard = none) (s x : Operand) (ho : o.op = .call { callee := .builtin .append, args := #[s, x], argTypes := #[30, 30] }) (w0 : World) (ad0 : Option Addr) (n cap : Nat) (xs : List Value) (hs : a.eval s = .slice ad0 n cap) (hown : OwnV 22 w0 w ad0 n cap xs)
    (ad : Option Addr) (m c : Nat) (ys : List Value) (hx : a.eval x = .slice ad m c) (hl : ys.length = m) (hsrc : ValsAt w ad ys) (h1 : ∀ u ∈ ys, u.oneCell' = true) (hm : n + m ≤ 1000000) (hne : ad = none → m = 0 ∧ c = 0)
    (h : ∀ ad' cap' w', OwnV 22 w0 w' ad' (n + m) cap' (xs ++ ys) → wpList Try.prog ops Q rest (a.put o.dst (.slice ad' (n + m) cap')) w') : wpList Try.prog ops Q (o :: rest) a w :=
  wpList_plain hgd fun K hK => by
    obtain ⟨ad', cap', w', hrun, h2⟩ := run_appV o.type w0 ad0 n cap xs hown ad m c ys hl hsrc h1 hm hne
    unfold Oper.wp execOp
    simp [ho, resolve, invoke, builtin, hs, hx, hrun, Result.andThen]
    exact hK _ _ (h _ _ _ h2)
end
end Go.Proofs.Ytlfpoeimgoikkaa
