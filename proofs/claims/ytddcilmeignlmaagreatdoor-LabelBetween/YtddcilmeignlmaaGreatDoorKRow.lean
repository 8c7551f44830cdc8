/-
  Labels: what Kids wants: rows of lists of bytes; the steps of children.
-/
import Derived.Test.YtddcilmeignlmaaGreatDoorKStep
namespace Go.Proofs.YtddcilmeignlmaaGreatDoor
open Go.RowKit Go.Maps Go.Lib

theorem infoS' : ∃ i, Tryz.prog.info? 22 = some i ∧ i.zero = some (.slice none 0 0) ∧ i.size = 1 ∧ i.bytes = 24 := by
  have h : (Tryz.prog.info? 22).map (fun i => (i.zero, i.size, i.bytes)) = some (some (.slice none 0 0), 1, 24) := by kernel_rfl
  cases hi : Tryz.prog.info? 22 with
  | none => rw [hi] at h; cases h
  | some i =>
    rw [hi] at h
    simp at h
    exact ⟨i, rfl, h.1, h.2.1, h.2.2⟩

theorem run_appL (w : World) (ty : TypeId) (v : Value) (m : Nat) (xs : List Value) (hown : w.ownsRow 0 22 1 v m xs) (ad : Addr) (c : Nat) (x : Value) (hx : w.cell? (ad.add 0) = some x) (h1 : x.oneCell' = true) (hm : m + 1 ≤ 16777216) :
    ∃ g cap w', (Builtin.append_ #[35, 35] ty #[v, .slice (some ad) 1 c]).run Tryz.prog w = .ok (.slice (some ⟨g, 0, none⟩) (m + 1) cap) w' ∧ w'.ownsRow 0 22 1 (.slice (some ⟨g, 0, none⟩) (m + 1) cap) (m + 1) (xs ++ [x]) ∧ Fr v.ownBlock.toList w w' ∧ (v.ownBlock = some g ∨ g = w.heap.size) ∧ g < w'.heap.size := by
  obtain ⟨i, hi, hz, hsz, hb⟩ := infoS'
  obtain ⟨g, cap, w', hrun, h2, h3, h5, h6⟩ := run_append_lies (P := Tryz.prog) w 35 ty 0 22 i (.slice none 0 0) 1 24 Tryz.underlying35 hi hz hsz hb rfl (by omega) v m xs hown ad 1 c [x] (by simp) (by intro j u hj; cases j with | zero => (simp at hj; subst hj; exact hx) | succ j => simp at hj) (by intro u hu; simp at hu; subst hu; exact h1) (by omega) (by unfold maxLen; omega) (by omega) (Nat.zero_le _) _ rfl
  exact ⟨g, cap, w', hrun, h2, fr_grown h3, h5, h6⟩

section
variable {ops : Array Oper} {rest : List Oper} {o : Oper} {a : Act} {w : World} {Q : Exit → Act → World → Prop}
theorem wp_appL (hgd : o.guard = none) (s y : Operand) (ho : o.op = .call { callee := .builtin .append, args := #[s, y], argTypes := #[35, 35] }) (v : Value) (m : Nat) (xs : List Value) (hs : a.eval s = v) (hown : w.ownsRow 0 22 1 v m xs)
    (b c : Nat) (x : Value) (hy : a.eval y = .slice (some ⟨b, 0, none⟩) 1 c) (hx : w.cell? ⟨b, 0, none⟩ = some x) (h1 : x.oneCell' = true) (hm : m + 1 ≤ 16777216)
    (h : ∀ g cap w', w'.ownsRow 0 22 1 (.slice (some ⟨g, 0, none⟩) (m + 1) cap) (m + 1) (xs ++ [x]) → Fr v.ownBlock.toList w w' → (v.ownBlock = some g ∨ g = w.heap.size) → g < w'.heap.size → wpList Tryz.prog ops Q rest (a.put o.dst (.slice (some ⟨g, 0, none⟩) (m + 1) cap)) w') : wpList Tryz.prog ops Q (o :: rest) a w :=
  wpList_plain hgd fun K hK => by
    obtain ⟨g, cap, w', hrun, h2, h3, h5, h6⟩ := run_appL w o.type v m xs hown ⟨b, 0, none⟩ c x (by rw [Addr.add_mid]; simpa using hx) h1 hm
    unfold Oper.wp execOp
    simp [ho, resolve, invoke, builtin, hs, hy, hrun, Result.andThen]
    exact hK _ _ (h _ _ _ h2 h3 h5 h6)
end

/-- A row of lists is no list of bytes. -/
theorem Out.apart {w0 w w' : World} {v u : Value} {l : List UInt8} {m : Nat} {xs : List Value} (h : Out w0 w v l) (o : w.ownsRow 0 22 1 u m xs) (f : Fr u.ownBlock.toList w w') : Out w0 w' v l := by
  obtain ⟨ad, cap, rfl, h1⟩ := h
  refine ⟨ad, cap, rfl, own_kept h1 f (fun g hg hm => ?_)⟩
  have hm' : u.ownBlock = some g := by simpa using hm
  rcases h1.2 with ⟨e, _⟩ | ⟨g1, c1, cur1, e1, _, hh1, _⟩
  · rw [e] at hg; cases hg
  · rcases o.2 with ⟨e, _⟩ | ⟨g2, c2, cur2, e2, _, hh2, _⟩
    · rw [e] at hm'; cases hm'
    · rw [e1] at hg
      rw [e2] at hm'
      have a1 : g1 = g := by simpa [Value.ownBlock] using hg
      have a2 : g2 = g := by simpa [Value.ownBlock] using hm'
      subst a1
      subst a2
      rw [hh1] at hh2
      cases hh2

theorem top_ex (i : Nat) : ∃ j, i / 2 ^ j < 2 ∧ (j = 0 ∨ 2 ^ j ≤ i) := by
  by_cases h : i = 0
  · exact ⟨0, by subst h; decide, Or.inl rfl⟩
  · refine ⟨i.log2, ?_, Or.inr (Nat.log2_self_le h)⟩
    have := Nat.lt_log2_self (n := i)
    rw [Nat.pow_succ] at this
    exact (Nat.div_lt_iff_lt_mul (Nat.two_pow_pos _)).2 (by omega)
theorem top_mono {i n j k : Nat} (hin : i ≤ n) (hi : i / 2 ^ j < 2 ∧ (j = 0 ∨ 2 ^ j ≤ i)) (hn : n / 2 ^ k < 2 ∧ (k = 0 ∨ 2 ^ k ≤ n)) : j ≤ k := by
  rcases Nat.lt_or_ge k j with h | h
  · exfalso
    rcases hi.2 with e | e
    · omega
    · have h3 : 2 ^ (k + 1) ≤ 2 ^ j := Nat.pow_le_pow_right (by omega) h
      have h4 : 2 ≤ n / 2 ^ k := (Nat.le_div_iff_mul_le (Nat.two_pow_pos k)).2 (by rw [Nat.pow_succ] at h3; omega)
      omega
  · exact h
theorem lowB_wide (i J : Nat) (h : i < 2 ^ J) : ∀ c, lowB i (c + J) = List.replicate c false ++ lowB i J
  | 0 => by simp
  | c + 1 => by
    rw [show c + 1 + J = (c + J) + 1 from by omega]
    show decide (i / 2 ^ (c + J) % 2 = 1) :: lowB i (c + J) = _
    have : i < 2 ^ (c + J) := Nat.lt_of_lt_of_le h (Nat.pow_le_pow_right (by omega) (by omega))
    rw [Nat.div_eq_of_lt this, lowB_wide i J h c, List.replicate_succ]
    rfl
theorem drop_true : ∀ r : List Bool, true ∈ r → (r.dropWhile (fun b => !b)).head? = some true
  | true :: r, _ => rfl
  | false :: r, h => by
    have : true ∈ r := by simpa using h
    simpa [List.dropWhile] using drop_true r this
theorem okS_trim (s : List Bool) (h : true ∈ s) : okS (trimS s) := by
  unfold okS trimS
  rw [List.getLast?_reverse]
  exact drop_true _ (by simpa using h)
theorem trim_app (c : Nat) (s : List Bool) (h : true ∈ s) : trimS (List.replicate c false ++ s) = List.replicate c false ++ trimS s := by
  unfold trimS
  rw [List.reverse_append, List.dropWhile_append]
  have hd := drop_true s.reverse (by simpa using h)
  rw [if_neg (by intro e; rw [List.isEmpty_iff.1 e] at hd; cases hd), List.reverse_append, List.reverse_reverse]
/-- The step of child i of so many bits. -/
def kidS (wide i : Nat) : List Bool := trimS (lowB i wide)
theorem kidS_eq {i j c wide : Nat} (h0 : i ≠ 0) (hj : i / 2 ^ j < 2 ∧ (j = 0 ∨ 2 ^ j ≤ i)) (hw : c + (j + 1) = wide) : List.replicate c false ++ trimS (lowB i (j + 1)) = kidS wide i ∧ okS (kidS wide i) := by
  have hlt : i < 2 ^ (j + 1) := by
    have := (Nat.div_lt_iff_lt_mul (Nat.two_pow_pos j)).1 hj.1
    rw [Nat.pow_succ]
    omega
  have hge : 2 ^ j ≤ i := by
    rcases hj.2 with e | e
    · subst e; simp; omega
    · exact e
  have h1 : i / 2 ^ j = 1 := by
    have : 1 ≤ i / 2 ^ j := (Nat.le_div_iff_mul_le (Nat.two_pow_pos j)).2 (by omega)
    have := hj.1
    omega
  have ht : true ∈ lowB i (j + 1) := by
    show true ∈ decide (i / 2 ^ j % 2 = 1) :: lowB i j
    rw [h1]
    simp
  subst hw
  unfold kidS
  rw [lowB_wide i (j + 1) hlt c, trim_app c _ ht]
  refine ⟨rfl, ?_⟩
  rw [← trim_app c _ ht]
  exact okS_trim _ (by simp [ht])
theorem kidS_len (wide i : Nat) : (kidS wide i).length ≤ wide := by
  have := trimS_le (lowB i wide)
  rwa [lowB_len] at this

end Go.Proofs.YtddcilmeignlmaaGreatDoor
