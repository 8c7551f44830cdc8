/-
  Pack: new bytes that are owned.
-/
import Derived.Test.YtddcilmeignlmaaGreatDoorOwn
import Derived.Test.YtddcilmeignlmaaGreatDoorPackAny
namespace Go.Proofs.YtddcilmeignlmaaGreatDoor
open Go.RowKit Go.Maps Go.Lib

theorem own_weak {w : World} {B : Nat} {v : Value} {n : Nat} {xs : List Value} (h : w.ownsRow B 5 1 v n xs) : w.ownsRow 0 5 1 v n xs := by
  obtain ⟨h1, h2⟩ := h
  refine ⟨h1, ?_⟩
  rcases h2 with hn | ⟨g, cap, cur, rfl, hb, r⟩
  · exact Or.inl hn
  · exact Or.inr ⟨g, cap, cur, rfl, Nat.zero_le _, r⟩
theorem own_new {w : World} {B : Nat} {v : Value} {n : Nat} {xs : List Value} (h : w.ownsRow B 5 1 v n xs) (g : Nat) (hg : v.ownBlock = some g) : B ≤ g ∧ g < w.heap.size := by
  refine ⟨?_, own_lt (own_weak h) g hg⟩
  rcases h.2 with ⟨e, _⟩ | ⟨g', _, cur, e, hb, _⟩
  · rw [e] at hg; cases hg
  · rw [e] at hg
    have : g' = g := by simpa [Value.ownBlock] using hg
    omega

section
variable {ops : Array Oper} {rest : List Oper} {o : Oper} {a : Act} {w : World} {Q : Exit → Act → World → Prop}
theorem wp_packOwn (hgd : o.guard = none) (s x : Operand) (ho : o.op = .call { callee := .builtin .append, args := #[s, x], argTypes := #[22, 9] }) (t : ByteArray) (hs : a.eval s = .slice none 0 0) (hx : a.eval x = .string t) (ht : t.size ≤ 16777216)
    (h : ∀ ad cap w', w'.ownsRow w.heap.size 5 1 (.slice ad t.size cap) t.size (strCells t) → Fr [] w w' → wpList Tryz.prog ops Q rest (a.put o.dst (.slice ad t.size cap)) w') : wpList Tryz.prog ops Q (o :: rest) a w := by
  obtain ⟨i, hi, hz, hsz, hb⟩ := info5'
  refine Lib.wpList_append_own_string w hgd s x 22 9 ho w.heap.size 5 i Tryz.underlying22 Tryz.underlying9 hi hz hsz hb _ 0 [] hs (World.ownsRow_nil w _ 5 1) t hx (by unfold maxLen; omega) (by omega) (Nat.le_refl _) ?_
  intro v w' hown hgr _
  have fr : Fr [] w w' := (Fr.refl _ _).grown hgr (fun j e => nomatch e)
  rw [Nat.zero_add, List.nil_append] at hown
  rcases hown.2 with ⟨rfl, hn⟩ | ⟨g, cap, cur, rfl, _⟩
  · have := h none 0 w' (by rw [hn] at hown ⊢; exact hown) fr
    rw [hn] at this
    exact this
  · exact h _ _ w' hown fr
end

set_option maxHeartbeats 1000000 in
theorem pack_own (w : World) (s : ByteArray) (n : Nat) (hs : s.size ≤ 16777216) :
    Calls Tryz.prog 30 #[bv s n] w fun e w' => ∃ ad cap, e = .returned (.slice ad s.size cap) ∧ w'.ownsRow w.heap.size 5 1 (.slice ad s.size cap) s.size (strCells s) ∧ Fr [] w w' := by
  have f0 := (Fr.refl [] w).alloc (.cells #[.string s, .int .i64 (n : Int)] 43)
  go_enter Tryz.func30, Tryz.ntmps30
  go_wp2_with (refine wp_packOwn rfl _ _ rfl s rfl rfl hs ?_; intro ad cap w1 p1 f1)
  go_ret
  refine ⟨ad, cap, rfl, ?_, f0.trans f1⟩
  obtain ⟨h1, h2⟩ := p1
  refine ⟨h1, ?_⟩
  rcases h2 with hn | ⟨g, cap, cur, e, hb, r⟩
  · exact Or.inl hn
  · exact Or.inr ⟨g, cap, cur, e, by simp at hb; omega, r⟩

theorem strCells_arr (s : ByteArray) : strCells s = (arr (bl s)).toList := by simp [strCells, arr, bl]

end Go.Proofs.YtddcilmeignlmaaGreatDoor
