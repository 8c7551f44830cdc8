/-
  Labels: what LabelGoesOn asks of lengths and of rows of labels.
-/
import Derived.Test.YtddcilmeignlmaaGreatDoorSameB
import Derived.Test.YtddcilmeignlmaaGreatDoorLabOrd
import Derived.Test.YtddcilmeignlmaaGreatDoorAft
import Derived.Test.YtddcilmeignlmaaGreatDoorBetw
namespace Go.Proofs.YtddcilmeignlmaaGreatDoor
open Go.RowKit Go.Maps Go.Lib

theorem lab_same {l m : List UInt8} {ss : List (List Bool)} (L : Lab l ss) (M : Lab m ss) : l = m := by
  have h := (L.rep.unique M.rep).1
  rw [← bl_mkS l, ← bl_mkS m, h]
theorem lab_bytes {l : List UInt8} {ss : List (List Bool)} (L : Lab l ss) : l.length = ((enc ss).length + 7) / 8 := by
  have hl := L.rep.bl_len
  rw [bl_mkS] at hl
  exact hl
theorem enc_kid (pp : List (List Bool)) (s : List Bool) : (enc (pp ++ [s])).length = (enc pp).length + 2 * s.length + 1 := by
  rw [enc_append, enc_one, List.length_append, wr_length]
  omega
theorem lab_pos {l : List UInt8} {pp : List (List Bool)} {s : List Bool} (L : Lab l (pp ++ [s])) : 0 < l.length := by
  rw [lab_bytes L, enc_kid]
  omega
theorem abv_kid (pp : List (List Bool)) (s : List Bool) : abv pp (pp ++ [s]) = true := by
  unfold abv
  rw [enc_append, List.take_left]
  simp

/-- A neighbour, or none. -/
def Nb (pp : List (List Bool)) (n : Nat) (l : List UInt8) (s : List Bool) : Prop := (n = 0 ∧ s = []) ∨ (n ≠ 0 ∧ Lab l (pp ++ [s]))

theorem go_len {pp : List (List Bool)} {l0 l1 l2 l : List UInt8} {n0 n1 n2 : Nat} {lo up : List Bool} {k : Nat} (L0 : Lab l0 pp) (h0 : l0.length = n0) (h1 : l1.length = n1) (h2 : l2.length = n2) (A : Nb pp n1 l1 lo) (B : Nb pp n2 l2 up) (hk : k ≤ max lo.length up.length) (L : Lab l (pp ++ [preS lo k ++ [true]])) :
    l.length ≤ n1 + 1 ∨ l.length ≤ n2 + 1 ∨ l.length ≤ n0 + 2 := by
  have e := lab_bytes L
  rw [enc_kid, List.length_append, preS_length] at e
  have e0 := lab_bytes L0
  simp at e
  rcases A with ⟨_, rfl⟩ | ⟨_, A⟩
  · rcases B with ⟨_, rfl⟩ | ⟨_, B⟩
    · simp at hk
      omega
    · have e2 := lab_bytes B
      rw [enc_kid] at e2
      simp at hk
      omega
  · have e1 := lab_bytes A
    rw [enc_kid] at e1
    rcases B with ⟨_, rfl⟩ | ⟨_, B⟩
    · simp at hk
      omega
    · have e2 := lab_bytes B
      rw [enc_kid] at e2
      omega
theorem go_err {pp : List (List Bool)} {l0 l1 l2 : List UInt8} {n0 n1 n2 : Nat} {lo up : List Bool} {k : Nat} (L0 : Lab l0 pp) (h0 : l0.length = n0) (h1 : l1.length = n1) (h2 : l2.length = n2) (A : Nb pp n1 l1 lo) (B : Nb pp n2 l2 up) (hk : k ≤ max lo.length up.length) (h : 1024 < (enc (pp ++ [preS lo k ++ [true]])).length) :
    120 < n0 ∨ 120 < n1 ∨ 120 < n2 := by
  rw [enc_kid, List.length_append, preS_length] at h
  have e0 := lab_bytes L0
  simp at h
  rcases A with ⟨_, rfl⟩ | ⟨_, A⟩
  · rcases B with ⟨_, rfl⟩ | ⟨_, B⟩
    · simp at hk
      omega
    · have e2 := lab_bytes B
      rw [enc_kid] at e2
      simp at hk
      omega
  · have e1 := lab_bytes A
    rw [enc_kid] at e1
    rcases B with ⟨_, rfl⟩ | ⟨_, B⟩
    · simp at hk
      omega
    · have e2 := lab_bytes B
      rw [enc_kid] at e2
      omega

/-- A label of a row: where it lies, its bytes, its last step. -/
structure Ent where
  ad : Option Addr
  n : Nat
  cap : Nat
  l : List UInt8
  s : List Bool
def Ent.val (e : Ent) : Value := .slice e.ad e.n e.cap
structure EntAt (pp : List (List Bool)) (w : World) (e : Ent) : Prop where
  len : e.l.length = e.n
  pos : 0 < e.n
  bytes : BytesAt w e.ad e.l
  plain : Plain e.ad
  lab : Lab e.l (pp ++ [e.s])
theorem EntAt.kept {pp : List (List Bool)} {w w' : World} {e : Ent} (h : EntAt pp w e) (f : Fr [] w w') : EntAt pp w' e := ⟨h.len, h.pos, h.bytes.kept f (by simp), h.plain, h.lab⟩

def ins (R : List Ent) (k : Nat) (e : Ent) : List Ent := R.take k ++ [e] ++ R.drop k
theorem ins_get (R : List Ent) (k : Nat) (e : Ent) (hk : k ≤ R.length) (i : Nat) : (ins R k e)[i]? = if i < k then R[i]? else if i = k then some e else R[i - 1]? := by
  unfold ins
  have hl : (R.take k).length = k := by rw [List.length_take]; omega
  by_cases h1 : i < k
  · rw [if_pos h1, List.getElem?_append_left (by rw [List.length_append, hl]; simp; omega), List.getElem?_append_left (by omega), List.getElem?_take, if_pos h1]
  · rw [if_neg h1]
    by_cases h2 : i = k
    · subst h2
      rw [if_pos rfl, List.getElem?_append_left (by rw [List.length_append, hl]; simp), List.getElem?_append_right (by omega), hl, Nat.sub_self]
      rfl
    · rw [if_neg h2, List.getElem?_append_right (by rw [List.length_append, hl]; simp; omega), List.length_append, hl, List.getElem?_drop]
      congr 1
      simp
      omega
theorem ins_length (R : List Ent) (k : Nat) (e : Ent) (hk : k ≤ R.length) : (ins R k e).length = R.length + 1 := by
  simp [ins]
  omega
theorem ins_map (R : List Ent) (k : Nat) (e : Ent) : (ins R k e).map Ent.val = (R.map Ent.val).take k ++ [e.val] ++ (R.map Ent.val).drop k := by
  simp [ins, List.map_take, List.map_drop]
/-- Neighbours rise. -/
def Rise (R : List Ent) : Prop := ∀ i a b, R[i]? = some a → R[i + 1]? = some b → sless a.s b.s
theorem Rise.ins {R : List Ent} (h : Rise R) (k : Nat) (e : Ent) (hk : k ≤ R.length) (h1 : ∀ a, 0 < k → R[k - 1]? = some a → sless a.s e.s) (h2 : ∀ b, R[k]? = some b → sless e.s b.s) : Rise (ins R k e) := by
  intro i a b ha hb
  rw [ins_get R k e hk] at ha hb
  by_cases c1 : i + 1 < k
  · rw [if_pos (by omega)] at ha
    rw [if_pos c1] at hb
    exact h i a b ha hb
  · rw [if_neg c1] at hb
    by_cases c2 : i + 1 = k
    · rw [if_pos (by omega)] at ha
      rw [if_pos c2] at hb
      cases hb
      exact h1 a (by omega) (by rw [← c2]; simpa using ha)
    · rw [if_neg c2] at hb
      rw [if_neg (by omega)] at ha
      by_cases c3 : i = k
      · rw [if_pos c3] at ha
        cases ha
        exact h2 b (by rw [← c3]; simpa using hb)
      · rw [if_neg c3] at ha
        exact h (i - 1) a b ha (by rw [show i - 1 + 1 = i + 1 - 1 by omega]; exact hb)

/-- A row of labels of children, as it lies in memory. -/
structure RowAt (w0 : World) (pp : List (List Bool)) (w : World) (v : Value) (R : List Ent) : Prop where
  own : w.ownsRow 0 22 1 v R.length (R.map Ent.val)
  ents : ∀ e ∈ R, EntAt pp w e
  rise : Rise R
  fr : Fr [] w0 w
theorem RowAt.kept {w0 : World} {pp : List (List Bool)} {w w' : World} {v : Value} {R : List Ent} (h : RowAt w0 pp w v R) (f : Fr [] w w') : RowAt w0 pp w' v R :=
  ⟨own_kept h.own f (by simp), fun e he => (h.ents e he).kept f, h.rise, h.fr.trans f⟩

/-! ### rows of lists that are new -/
def OwnL (w0 w : World) (v : Value) (n : Nat) (xs : List Value) : Prop := w.ownsRow w0.heap.size 22 1 v n xs ∧ Fr [] w0 w
theorem OwnL.kept {w0 w w' : World} {v : Value} {n : Nat} {xs : List Value} (h : OwnL w0 w v n xs) (k : Fr [] w w') : OwnL w0 w' v n xs := ⟨own_kept h.1 k (by simp), h.2.trans k⟩
theorem OwnL.weak {w0 w : World} {v : Value} {n : Nat} {xs : List Value} (h : OwnL w0 w v n xs) : w.ownsRow 0 22 1 v n xs := by
  obtain ⟨h1, h2⟩ := h.1
  refine ⟨h1, ?_⟩
  rcases h2 with hn | ⟨g, cap, cur, rfl, hb, r⟩
  · exact Or.inl hn
  · exact Or.inr ⟨g, cap, cur, rfl, Nat.zero_le _, r⟩
theorem OwnL.out {w0 w : World} {v : Value} {n : Nat} {xs : List Value} (h : OwnL w0 w v n xs) : ∃ ad cap, v = .slice ad n cap := by
  rcases h.1.2 with ⟨e, e2⟩ | ⟨g, cap, cur, e, _⟩
  · exact ⟨none, 0, by rw [e, e2]⟩
  · exact ⟨_, _, e⟩
theorem run_appLN (w : World) (ty : TypeId) (w0 : World) (v : Value) (n : Nat) (xs : List Value) (hown : OwnL w0 w v n xs) (a0 : Addr) (m c : Nat) (news : List Value) (hl : news.length = m) (hsrc : ∀ j u, news[j]? = some u → w.cell? (a0.add j) = some u) (h1 : ∀ u ∈ news, u.oneCell' = true) (hm : n + m ≤ 1000000) :
    ∃ v' w', (Builtin.append_ #[35, 35] ty #[v, .slice (some a0) m c]).run Tryz.prog w = .ok v' w' ∧ OwnL w0 w' v' (n + m) (xs ++ news) := by
  obtain ⟨i, hi, hz, hs, hb⟩ := infoS'
  obtain ⟨v', w', hrun, h2, h3, _, _⟩ := run_append_own_at (P := Tryz.prog) w w0.heap.size 35 ty 22 i (.slice none 0 0) 1 24 Tryz.underlying35 hi hz hs hb rfl (by omega) v n xs hown.1 a0 m c news (by omega) hsrc h1 (by unfold maxLen; omega) (by omega) hown.2.size
  exact ⟨v', w', hrun, h2, hown.2.grown h3 (fun j e hj => by
    have := (hown.1.lt j e).1
    omega)⟩
theorem op_appLN {o : Oper} {a : Act} {w : World} {K : Act → World → Prop} {Q : Exit → Act → World → Prop} (s x : Operand) (ho : o.op = .call { callee := .builtin .append, args := #[s, x], argTypes := #[35, 35] }) (w0 : World) (v : Value) (n : Nat) (xs : List Value) (hs : a.eval s = v) (hown : OwnL w0 w v n xs)
    (a0 : Addr) (m c : Nat) (news : List Value) (hx : a.eval x = .slice (some a0) m c) (hl : news.length = m) (hsrc : ∀ j u, news[j]? = some u → w.cell? (a0.add j) = some u) (h1 : ∀ u ∈ news, u.oneCell' = true) (hm : n + m ≤ 1000000)
    (h : ∀ v' w', OwnL w0 w' v' (n + m) (xs ++ news) → K (a.put o.dst v') w') : Oper.wp Tryz.prog o a w K Q := by
  obtain ⟨v', w', hrun, hown'⟩ := run_appLN w o.type w0 v n xs hown a0 m c news hl hsrc h1 hm
  unfold Oper.wp execOp
  simp [ho, resolve, invoke, builtin, hs, hx, hrun, Result.andThen]
  exact h _ _ hown'
section
variable {ops : Array Oper} {rest : List Oper} {o : Oper} {a : Act} {w : World} {Q : Exit → Act → World → Prop}
theorem wp_appLN (hgd : o.guard = none) (s x : Operand) (ho : o.op = .call { callee := .builtin .append, args := #[s, x], argTypes := #[35, 35] }) (w0 : World) (v : Value) (n : Nat) (xs : List Value) (hs : a.eval s = v) (hown : OwnL w0 w v n xs)
    (a0 : Addr) (m c : Nat) (news : List Value) (hx : a.eval x = .slice (some a0) m c) (hl : news.length = m) (hsrc : ∀ j u, news[j]? = some u → w.cell? (a0.add j) = some u) (h1 : ∀ u ∈ news, u.oneCell' = true) (hm : n + m ≤ 1000000)
    (h : ∀ v' w', OwnL w0 w' v' (n + m) (xs ++ news) → wpList Tryz.prog ops Q rest (a.put o.dst v') w') : wpList Tryz.prog ops Q (o :: rest) a w :=
  wpList_plain hgd fun _ hK => op_appLN s x ho w0 v n xs hs hown a0 m c news hx hl hsrc h1 hm (fun v' w' o' => hK _ _ (h v' w' o'))
end

end Go.Proofs.YtddcilmeignlmaaGreatDoor
