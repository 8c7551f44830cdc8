/-
  CopyBytes, wherever the bytes lie.
-/
import Derived.Test.YtddcilmeignlmaaGreatDoorLAw
import Derived.Laws.AppendOwnNone
namespace Go.Proofs.YtddcilmeignlmaaGreatDoor
open Go.RowKit Go.Maps Go.Lib

section
variable {ops : Array Oper} {rest : List Oper} {o : Oper} {a : Act} {w : World} {Q : Exit → Act → World → Prop}

/-- A slice of bytes that is new since w0, with what it holds. -/
def Own (w0 w : World) (v : Value) (n : Nat) (xs : List Value) : Prop := w.ownsRow w0.heap.size 5 1 v n xs ∧ Fr [] w0 w

theorem Own.kept {w0 w w' : World} {v : Value} {n : Nat} {xs : List Value} (h : Own w0 w v n xs) (k : Fr [] w w') : Own w0 w' v n xs := by
  refine ⟨?_, h.2.trans k⟩
  obtain ⟨h1, h2⟩ := h.1
  refine ⟨h1, ?_⟩
  rcases h2 with hn | ⟨g, cap, cur, rfl, hb, hg, r⟩
  · exact Or.inl hn
  · exact Or.inr ⟨g, cap, cur, rfl, hb, k.same (by simp) hg, r⟩

/-- append of bytes to a slice that is new since w0. -/
theorem run_appN (ty : TypeId) (w0 : World) (v : Value) (n : Nat) (xs : List Value) (hown : Own w0 w v n xs) (ad : Option Addr) (m c : Nat) (l : List UInt8) (hl : l.length = m) (hsrc : BytesAt w ad l) (hm : n + m ≤ 1000000)
    (hne : m = 0 → (∃ x, ad = some x) ) :
    ∃ v' w', (Builtin.append_ #[22, 22] ty #[v, .slice ad m c]).run Tryz.prog w = .ok v' w' ∧ Own w0 w' v' (n + m) (xs ++ (arr l).toList) := by
  obtain ⟨i, hi, hz, hs, hb⟩ := info5'
  have hlen : (arr l).toList.length = m * 1 := by simp [arr, hl]
  obtain ⟨a0, rfl⟩ : ∃ a0, ad = some a0 := by
    by_cases e : m = 0
    · exact hne e
    · have h0 : 0 < l.length := by omega
      obtain ⟨b, off, e, _⟩ := hsrc 0 (.int .u8 l[0].toNat) (by simp [arr, h0])
      exact ⟨_, e⟩
  obtain ⟨v', w', hrun, h2, h3, _, _⟩ := run_append_own_at (P := Tryz.prog) w w0.heap.size 22 ty 5 i (.int .u8 0) 1 1 Tryz.underlying22 hi hz hs hb rfl (by omega) v n xs hown.1 a0 m c (arr l).toList hlen
    (by
      intro j u hu
      obtain ⟨b, off, e, hc⟩ := hsrc j u hu
      cases e
      rw [Addr.add_mid]
      exact hc) (arr_one l) (by unfold maxLen; omega) (by omega) hown.2.size
  exact ⟨v', w', hrun, h2, hown.2.grown h3 (fun j e hj => by
    have := (hown.1.lt j e).1
    omega)⟩

theorem wp_appN (hgd : o.guard = none) (s x : Operand) (ho : o.op = .call { callee := .builtin .append, args := #[s, x], argTypes := #[22, 22] }) (w0 : World) (v : Value) (n : Nat) (xs : List Value) (hs : a.eval s = v) (hown : Own w0 w v n xs)
    (ad : Option Addr) (m c : Nat) (l : List UInt8) (hx : a.eval x = .slice ad m c) (hl : l.length = m) (hsrc : BytesAt w ad l) (hm : n + m ≤ 1000000) (hne : m = 0 → (∃ x, ad = some x))
    (h : ∀ v' w', Own w0 w' v' (n + m) (xs ++ (arr l).toList) → wpList Tryz.prog ops Q rest (a.put o.dst v') w') : wpList Tryz.prog ops Q (o :: rest) a w :=
  wpList_plain hgd fun K hK => by
    obtain ⟨v', w', hrun, hown'⟩ := run_appN o.type w0 v n xs hown ad m c l hl hsrc hm hne
    unfold Oper.wp execOp
    simp [ho, resolve, invoke, builtin, hs, hx, hrun, Result.andThen]
    exact hK _ _ (h _ _ hown')

end

theorem Own.form {w0 w : World} {v : Value} {n : Nat} {l : List UInt8} (h : Own w0 w v n (arr l).toList) : ∃ ad cap, v = .slice ad n cap ∧ BytesAt w ad l ∧ Plain ad := by
  have hlen : l.length = n := by have := h.1.1; simp [arr] at this; omega
  obtain ⟨ad, cap, e, h1, h2⟩ : ∃ ad cap, v = .slice ad l.length cap ∧ BytesAt w ad l ∧ Plain ad := by
    refine Out.use (w := w0) ?_
    rcases h.1.2 with ⟨e, e2⟩ | ⟨g, cap, cur, e, r⟩
    · refine ⟨none, 0, by rw [e, hlen, e2], ?_⟩
      rw [hlen, ← show v = .slice none n 0 by rw [e, e2]]
      exact h.1
    · refine ⟨_, cap, by rw [e, hlen], ?_⟩
      rw [hlen, ← e]
      exact h.1
  subst hlen
  exact ⟨ad, cap, e, h1, h2⟩

set_option maxHeartbeats 400000 in
theorem copy_some (w : World) (a0 : Addr) (n c : Nat) (l : List UInt8) (hl : l.length = n) (hn : n ≤ 100000) (hb : BytesAt w (some a0) l) :
    Calls Tryz.prog 24 #[.slice (some a0) n c] w fun e w' => ∃ ad cap, e = .returned (.slice ad n cap) ∧ BytesAt w' ad l ∧ Plain ad ∧ Fr [] w w' := by
  go_enter Tryz.func24, Tryz.ntmps24
  go_wp2_with (refine wp_appN rfl _ _ rfl w _ 0 [] rfl ⟨World.ownsRow_nil _ _ _ _, Fr.refl _ _⟩ _ n c l rfl hl hb (by omega) (fun _ => ⟨_, rfl⟩) ?_; intro v5 w5 o5)
  go_ret
  rw [Nat.zero_add, List.nil_append] at o5
  obtain ⟨ad, cap, rfl, h1, h2⟩ := o5.form
  exact ⟨ad, cap, rfl, h1, h2, o5.2⟩
set_option maxHeartbeats 400000 in
theorem copy_nil (w : World) :
    Calls Tryz.prog 24 #[.slice none 0 0] w fun e w' => ∃ ad cap, e = .returned (.slice ad 0 cap) ∧ BytesAt w' ad [] ∧ Plain ad ∧ Fr [] w w' := by
  obtain ⟨i, hi, hz, hs, hb⟩ := info5'
  go_enter Tryz.func24, Tryz.ntmps24
  go_wp2_with (refine wpList_append_own_none rfl _ _ 22 rfl w.heap.size 5 i 1 Tryz.underlying22 hi _ 0 [] rfl (World.ownsRow_nil _ _ _ _) rfl ?_)
  go_ret
  exact ⟨none, 0, rfl, BytesAt.nil _ _, Or.inl rfl, Fr.refl _ _⟩

end Go.Proofs.YtddcilmeignlmaaGreatDoor
