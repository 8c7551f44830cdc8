/-
  Rows of numbers and of bytes that a log has: appended to.
-/
import Derived.Test.YtopaeomjndblkaaGreatQFind
namespace Go.Proofs.YtopaeomjndblkaaGreat
open Go.RowKit Go.Maps

theorem info2 : (Tryz.prog.info? 2).map (fun i => (i.zero, i.size, i.bytes)) = some (some (.int .i64 0), 1, 8) := by kernel_rfl
theorem info2' : ∃ i, Tryz.prog.info? 2 = some i ∧ i.zero = some (.int .i64 0) ∧ i.size = 1 ∧ i.bytes = 8 := by
  have h := info2
  cases hi : Tryz.prog.info? 2 with
  | none => rw [hi] at h; cases h
  | some i =>
    rw [hi] at h
    simp at h
    exact ⟨i, rfl, h.1, h.2.1, h.2.2⟩
def lsV (ls : List Int) : List Value := ls.map (Value.int .i64)
/-- A row of numbers in memory, with its room. -/
def LsAt (w : World) (ad : Option Addr) (n c : Nat) (ls : List Int) : Prop := w.ownsRow 0 2 1 (.slice ad n c) n (lsV ls)
/-- A row of bytes in memory, with its room. -/
def BsAt (w : World) (ad : Option Addr) (n c : Nat) (l : List UInt8) : Prop := w.ownsRow 0 5 1 (.slice ad n c) n (arr l).toList

theorem own0_kept {w w' : World} {e : TypeId} {v : Value} {n : Nat} {xs : List Value} {L : List Nat} (h : w.ownsRow 0 e 1 v n xs) (f : Fr L w w') (hL : ∀ g ∈ L, ∀ cur t, w.heap[g]? = some (.cells cur t) → t ≠ e) : w'.ownsRow 0 e 1 v n xs := by
  obtain ⟨h1, h2⟩ := h
  refine ⟨h1, ?_⟩
  rcases h2 with hn | ⟨g, cap, cur, hv, hb, hg, r⟩
  · exact Or.inl hn
  · exact Or.inr ⟨g, cap, cur, hv, hb, f.same (fun hm => hL g hm _ _ hg rfl) hg, r⟩
theorem own0_type {w : World} {e : TypeId} {ad : Option Addr} {n c m : Nat} {xs : List Value} (h : w.ownsRow 0 e 1 (.slice ad n c) m xs) : ∀ g ∈ (Value.ownBlock (.slice ad n c)).toList, ∃ cur, w.heap[g]? = some (.cells cur e) := by
  intro g hg
  rcases h.2 with ⟨hn, _⟩ | ⟨g', cap, cur, hv, hb, hg', r⟩
  · cases hn
    simp [Value.ownBlock] at hg
  · cases hv
    simp [Value.ownBlock] at hg
    subst hg
    exact ⟨cur, hg'⟩
theorem BsAt.at {w : World} {ad : Option Addr} {n c : Nat} {l : List UInt8} (h : BsAt w ad n c l) (hn : 0 < n) (hl : l.length = n) : ∃ g, ad = some ⟨g, 0, none⟩ ∧ BytesAt w (some ⟨g, 0, none⟩) l ∧ n ≤ c := by
  rcases h.2 with ⟨_, h0⟩ | ⟨g, cap, cur, hv, hb, hg, hcap, hmx, hsz, htk⟩
  · omega
  · cases hv
    refine ⟨g, rfl, ?_, by omega⟩
    intro j u hu
    refine ⟨g, 0, rfl, ?_⟩
    rw [Nat.zero_add, cell_of_row w g j _ _ _ hg]
    have hj : j < n := by
      have := (List.getElem?_eq_some_iff.1 hu).1
      simp [arr, hl] at this
      omega
    rw [← hu, ← htk, List.getElem?_take]
    simp [hj]
theorem LsAt.at {w : World} {ad : Option Addr} {n c : Nat} {ls : List Int} (h : LsAt w ad n c ls) (hn : 0 < n) (hl : ls.length = n) : ∃ g, ad = some ⟨g, 0, none⟩ ∧ n ≤ c ∧ ∀ j k, ls[j]? = some k → w.cell? ⟨g, j, none⟩ = some (.int .i64 k) := by
  rcases h.2 with ⟨_, h0⟩ | ⟨g, cap, cur, hv, hb, hg, hcap, hmx, hsz, htk⟩
  · omega
  · cases hv
    refine ⟨g, rfl, by omega, ?_⟩
    intro j k hj
    rw [cell_of_row w g j _ _ _ hg]
    have hj' : j < n := by
      have := (List.getElem?_eq_some_iff.1 hj).1
      omega
    have h2 : (lsV ls)[j]? = some (.int .i64 k) := by simp [lsV, hj]
    rw [← h2, ← htk, List.getElem?_take]
    simp [hj']
theorem LsAt.nil (w : World) : LsAt w none 0 0 [] := ⟨by simp [lsV], Or.inl ⟨rfl, rfl⟩⟩
theorem BsAt.nil (w : World) : BsAt w none 0 0 [] := ⟨by simp [arr], Or.inl ⟨rfl, rfl⟩⟩
theorem CopAt.bs {w0 w : World} {ad : Option Addr} {l : List UInt8} {n : Nat} (h : CopAt w0 w ad l) (hl : l.length = n) (hn : n ≤ 1000000) : BsAt w ad n n l := by
  subst hl
  cases ad with
  | none =>
    have : l = [] := List.eq_nil_of_length_eq_zero (h.nil rfl)
    subst this
    exact BsAt.nil w
  | some a =>
    obtain ⟨g, rfl, _, b, _⟩ := h.at' a rfl
    exact ⟨by simp [arr], Or.inr ⟨g, l.length, arr l, rfl, by omega, b, Nat.le_refl _, by unfold maxLen; omega, by simp [arr_size], List.take_of_length_le (by simp [arr])⟩⟩

/-- Where a row lies behind an append: where it lay, or in new memory. -/
def NewOr (ad : Option Addr) (n c g k : Nat) : Prop := Value.ownBlock (.slice ad n c) = some g ∨ k ≤ g
theorem NewOr.none {ad : Option Addr} {n c g k : Nat} (h : NewOr ad n c g k) : ad = none → k ≤ g := by
  intro e
  subst e
  rcases h with h | h
  · simp [Value.ownBlock] at h
  · exact h
theorem new_of {ad : Option Addr} {n c m c' g k : Nat} (h : Value.ownBlock (.slice (some ⟨g, 0, none⟩) m c') = Value.ownBlock (.slice ad n c) ∨ Value.ownBlock (.slice (some ⟨g, 0, none⟩) m c') = some k) : NewOr ad n c g k := by
  rcases h with h | h
  · exact Or.inl (by rw [← h]; rfl)
  · simp [Value.ownBlock] at h
    exact Or.inr (by omega)

section
variable {ops : Array Oper} {rest : List Oper} {o : Oper} {a : Act} {w : World} {Q : Exit → Act → World → Prop}
/-- append of one number to a row of numbers. -/
theorem wp_appL (hgd : o.guard = none) (s x : Operand) (ho : o.op = .call { callee := .builtin .append, args := #[s, x], argTypes := #[221, 221] }) (ad : Option Addr) (n c : Nat) (ls : List Int) (b : Nat) (k : Int) (hs : a.eval s = .slice ad n c) (hx : a.eval x = .slice (some ⟨b, 0, none⟩) 1 1)
    (hown : LsAt w ad n c ls) (hb : w.heap[b]? = some (.cells #[.int .i64 k] 2)) (hm : n + 1 ≤ 1000000)
    (h : ∀ g c' w', LsAt w' (some ⟨g, 0, none⟩) (n + 1) c' (ls ++ [k]) → Fr (Value.ownBlock (.slice ad n c)).toList w w' → NewOr ad n c g w.heap.size → wpList Tryz.prog ops Q rest (a.put o.dst (.slice (some ⟨g, 0, none⟩) (n + 1) c')) w') : wpList Tryz.prog ops Q (o :: rest) a w :=
  wpList_plain hgd fun K hK => by
    obtain ⟨i, hi, hz, hsz, hbb⟩ := info2'
    obtain ⟨v', w', hrun, h2, h3, h4, h5⟩ := run_append_own_at (P := Tryz.prog) w 0 221 o.type 2 i (.int .i64 0) 1 8 Tryz.underlying221 hi hz hsz hbb rfl (by omega) _ n (lsV ls) hown ⟨b, 0, none⟩ 1 1 [.int .i64 k] (by simp)
      (by
        intro j x hx
        cases j with
        | zero =>
          simp at hx
          subst hx
          rw [Addr.add_mid]
          exact cell_of_row w b 0 _ _ _ hb
        | succ j => simp at hx) (by intro x hx; simp at hx; subst hx; rfl) (by unfold maxLen; omega) (by omega) (Nat.zero_le _)
    rcases h2.2 with ⟨e, hn0⟩ | ⟨g, c', cur, e, r⟩
    · omega
    · subst e
      have h2' : LsAt w' (some ⟨g, 0, none⟩) (n + 1) c' (ls ++ [k]) := by
        unfold LsAt lsV
        rw [List.map_append]
        exact h2
      unfold Oper.wp execOp
      simp [ho, resolve, invoke, builtin, hs, hx, hrun, Result.andThen]
      exact hK _ _ (h _ _ _ h2' ((Fr.refl _ _).grown h3 (fun j e _ => by simp [e])) (new_of h5))
/-- append of bytes to a row of bytes. -/
theorem wp_appBB (hgd : o.guard = none) (s x : Operand) (ho : o.op = .call { callee := .builtin .append, args := #[s, x], argTypes := #[37, 37] }) (ad : Option Addr) (n c : Nat) (l : List UInt8) (g2 o2 m c2 : Nat) (l2 : List UInt8) (hs : a.eval s = .slice ad n c) (hx : a.eval x = .slice (some ⟨g2, o2, none⟩) m c2)
    (hown : BsAt w ad n c l) (hl2 : l2.length = m) (hb : BytesAt w (some ⟨g2, o2, none⟩) l2) (hm : n + m ≤ 1000000) (hm0 : 0 < m)
    (h : ∀ g c' w', BsAt w' (some ⟨g, 0, none⟩) (n + m) c' (l ++ l2) → Fr (Value.ownBlock (.slice ad n c)).toList w w' → NewOr ad n c g w.heap.size → wpList Tryz.prog ops Q rest (a.put o.dst (.slice (some ⟨g, 0, none⟩) (n + m) c')) w') : wpList Tryz.prog ops Q (o :: rest) a w :=
  wpList_plain hgd fun K hK => by
    obtain ⟨i, hi, hz, hsz, hbb⟩ := info5'
    obtain ⟨v', w', hrun, h2, h3, h4, h5⟩ := run_append_own_at (P := Tryz.prog) w 0 37 o.type 5 i (.int .u8 0) 1 1 Tryz.underlying37 hi hz hsz hbb rfl (by omega) _ n (arr l).toList hown ⟨g2, o2, none⟩ m c2 (arr l2).toList (by simp [arr, hl2])
      (by
        intro j u hu
        obtain ⟨b', off, e, hc⟩ := hb j u hu
        cases e
        rw [Addr.add_mid]
        exact hc) (arr_one l2) (by unfold maxLen; omega) (by omega) (Nat.zero_le _)
    rcases h2.2 with ⟨e, hn0⟩ | ⟨g, c', cur, e, r⟩
    · omega
    · subst e
      have h2' : BsAt w' (some ⟨g, 0, none⟩) (n + m) c' (l ++ l2) := by
        unfold BsAt
        rw [← arr_append]
        exact h2
      unfold Oper.wp execOp
      simp [ho, resolve, invoke, builtin, hs, hx, hrun, Result.andThen]
      exact hK _ _ (h _ _ _ h2' ((Fr.refl _ _).grown h3 (fun j e _ => by simp [e])) (new_of h5))
end

end Go.Proofs.YtopaeomjndblkaaGreat
