/-
  The document's own answer: children.
-/
import Derived.Test.YtddcilmeignlmaaDoorKids
import Derived.Test.YtddcilmeignlmaaDoorLRSteps
import Derived.Test.YtddcilmeignlmaaDoorLIns
namespace Go.Proofs.YtddcilmeignlmaaDoor
open Go.RowKit Go.Maps Go.Lib

theorem Hid.mk0 {p : Prop} (h : p) : Hid p := h
set_option maxHeartbeats 1000000 in
set_option maxRecDepth 100000 in
theorem kids_none (w : World) (ad : Option Addr) (m c : Nat) (l : List UInt8) (hn : ∀ ss, ¬ Lab l ss) (hl : l.length = m) (hb : BytesAt w ad l) (hp : Plain ad) (hm : m < 9223372036854775808) (n : Int) :
    Calls Tryd.prog 8 #[.slice ad m c, .int .i64 n] w fun e w' => e = .returned (.tuple #[.slice none 0 0, .int .i64 2]) ∧ Fr [] w w' := by
  have hr := Hid.mk0 (read_no w ad m c l hn hl hb hp hm)
  clear hn hl hb hp hm
  go_enter Tryd.func8, Tryd.ntmps8
  go_wp2_with fail
  refine hr.out.mono ?_
  rintro e w1 ⟨rfl, f1⟩
  have f1a := f1.alloc (.cells #[.string (mkS []), .int .i64 0, .string (mkS []), .int .i64 0, .string (mkS []), .int .i64 0, .int .i64 0] 47)
  go_wp2_with fail
  go_ret2
  exact ⟨rfl, f1a⟩
set_option maxHeartbeats 1000000 in
set_option maxRecDepth 100000 in
theorem kids_few (w : World) (ad : Option Addr) (m c : Nat) (l : List UInt8) (pp : List (List Bool)) (L : Lab l pp) (hl : l.length = m) (hb : BytesAt w ad l) (hp : Plain ad) (n : Int) (hn : n < 0) :
    Calls Tryd.prog 8 #[.slice ad m c, .int .i64 n] w fun e w' => e = .returned (.tuple #[.slice none 0 0, .int .i64 2]) ∧ Fr [] w w' := by
  have hr := Hid.mk0 (read_yes w ad m c l pp L hl hb hp)
  clear L hl hb hp
  go_enter Tryd.func8, Tryd.ntmps8
  go_wp2_with fail
  refine hr.out.mono ?_
  rintro e w1 ⟨u2, u3, rfl, q2, q3, f1⟩
  have f1a := f1.alloc (.cells #[.string (mkS l), .int .i64 ((enc pp).length : Int), .string u2, .int .i64 ((enc pp.dropLast).length : Int), .string u3, .int .i64 ((lastS pp).length : Int), .int .i64 (pp.length : Int)] 47)
  clear hr q2 q3
  go_wp2_with fail
  go_ret2
  exact ⟨rfl, f1a⟩
set_option maxHeartbeats 1000000 in
set_option maxRecDepth 100000 in
theorem kids_many (w : World) (ad : Option Addr) (m c : Nat) (l : List UInt8) (pp : List (List Bool)) (L : Lab l pp) (hl : l.length = m) (hb : BytesAt w ad l) (hp : Plain ad) (n : Int) (hn : 16384 < n) :
    Calls Tryd.prog 8 #[.slice ad m c, .int .i64 n] w fun e w' => e = .returned (.tuple #[.slice none 0 0, .int .i64 2]) ∧ Fr [] w w' := by
  have hr := Hid.mk0 (read_yes w ad m c l pp L hl hb hp)
  have hn0 : ¬ n < 0 := by omega
  clear L hl hb hp
  go_enter Tryd.func8, Tryd.ntmps8
  go_wp2_with fail
  refine hr.out.mono ?_
  rintro e w1 ⟨u2, u3, rfl, q2, q3, f1⟩
  have f1a := f1.alloc (.cells #[.string (mkS l), .int .i64 ((enc pp).length : Int), .string u2, .int .i64 ((enc pp.dropLast).length : Int), .string u3, .int .i64 ((lastS pp).length : Int), .int .i64 (pp.length : Int)] 47)
  clear hr q2 q3
  go_wp2_with fail
  go_ret2
  exact ⟨rfl, f1a⟩
end Go.Proofs.YtddcilmeignlmaaDoor

namespace Go.Proofs.YtddcilmeignlmaaDoor
open Go.RowKit Go.Maps Go.Lib

theorem run_head (s : ByteArray) (i : Int) (m : Nat) (hm : i = (m : Int)) (h : m ≤ s.size) (w : World) : (Instr.slice 9 (.string s) none (some (.int .i64 i)) none).run Tryd.prog w = .ok (.string (mkS ((bl s).take m))) w := by
  subst hm
  rw [run_slice_string_to_if (P := Tryd.prog) w 9 s .i64 (m : Int) Tryd.underlying9]
  have e : s.extract 0 m = mkS ((bl s).take m) := by
    have := ByteArray.extract_mk (bl s) 0 m
    have e2 : ByteArray.mk (bl s).toArray = s := rfl
    rw [e2] at this
    rw [this]
    simp [mkS]
  simp [h, e]

theorem lab_inj {l : List UInt8} {ss tt : List (List Bool)} (L : Lab l ss) (M : Lab l tt) : ss = tt := by
  have h1 := lab_go L
  rw [lab_go M] at h1
  exact (Prod.mk.inj (Option.some.inj h1)).1.symm
theorem rsteps_yes (w : World) (ad : Option Addr) (m c : Nat) (l : List UInt8) (hl : l.length = m) (hb : BytesAt w ad l) (pp : List (List Bool)) (L : Lab l pp) :
    Calls Tryd.prog 27 #[.slice ad m c] w fun e w' => ∃ v, e = .returned (.tuple #[v, .bool true]) ∧ Strs w w' v (pp.map sT) ∧ Fr [] w w' := by
  refine (rsteps_any w ad m c l hl hb).mono ?_
  rintro e w' ⟨⟨v, ss, L2, rfl, hS⟩ | ⟨hn, _⟩, f⟩
  · obtain rfl := lab_inj L L2
    exact ⟨v, rfl, hS, f⟩
  · exact absurd L (hn pp)
theorem rsteps_no (w : World) (ad : Option Addr) (m c : Nat) (l : List UInt8) (hl : l.length = m) (hb : BytesAt w ad l) (hn : ∀ ss, ¬ Lab l ss) :
    Calls Tryd.prog 27 #[.slice ad m c] w fun e w' => e = .returned (.tuple #[.slice none 0 0, .bool false]) ∧ Fr [] w w' := by
  refine (rsteps_any w ad m c l hl hb).mono ?_
  rintro e w' ⟨⟨v, ss, L2, rfl, hS⟩ | ⟨_, rfl⟩, f⟩
  · exact absurd L2 (hn ss)
  · exact ⟨rfl, f⟩
section
variable {ops : Array Oper} {rest : List Oper} {o : Oper} {a : Act} {w : World} {Q : Exit → Act → World → Prop}
theorem wp_appSs (hgd : o.guard = none) (s y : Operand) (ho : o.op = .call { callee := .builtin .append, args := #[s, y], argTypes := #[53, 53] }) (w0 : World) (v : Value) (l : List ByteArray) (hs : a.eval s = v) (hown : Strs w0 w v l) (f0 : Fr [] w0 w) (u : World) (sv : Value) (m : List ByteArray) (hy : a.eval y = sv) (hm : Strs u w sv m) (hb : l.length + m.length ≤ 1000000)
    (h : ∀ v' w', Strs w0 w' v' (l ++ m) → Fr [] w0 w' → wpList Tryd.prog ops Q rest (a.put o.dst v') w') : wpList Tryd.prog ops Q (o :: rest) a w :=
  wpList_plain hgd fun _ hK => by
  obtain ⟨i, hi, hz, hsz, hby⟩ := info9'
  rcases hm.2 with ⟨rfl, hn⟩ | ⟨g, cap, cur, rfl, _, hg, hnc, _, hcs, ht⟩
  · obtain rfl : m = [] := List.eq_nil_of_length_eq_zero hn
    have hrun := run_append_owned_none (P := Tryd.prog) (w := w) w0.heap.size 53 o.type 9 i 1 Tryd.underlying53 hi v l.length (l.map Value.string) hown
    unfold Oper.wp
    simp [execOp, ho, resolve, invoke, builtin, hs, hy, hrun, Result.andThen]
    exact hK _ _ (h v w (by rw [List.append_nil]; exact hown) f0)
  · obtain ⟨v', w', hrun, h2, h3, _, _⟩ := run_append_own_at (P := Tryd.prog) w w0.heap.size 53 o.type 9 i (.string ⟨#[]⟩) 1 16 Tryd.underlying53 hi hz hsz hby rfl (by omega) v l.length (l.map Value.string) hown ⟨g, 0, none⟩ m.length cap (m.map Value.string) (by simp) (by
      intro j x hj
      rw [Addr.add_mid, Nat.zero_add, cell_of_row w g j _ _ _ hg]
      have hjl : j < m.length := by have := (List.getElem?_eq_some_iff.1 hj).1; simpa using this
      rw [← ht, List.getElem?_take, if_pos (by omega)] at hj
      simpa using hj) (by intro x hx; obtain ⟨j, _, rfl⟩ := List.mem_map.1 hx; rfl) (by unfold maxLen; omega) (by omega) f0.size
    unfold Oper.wp
    simp [execOp, ho, resolve, invoke, builtin, hs, hy, hrun, Result.andThen]
    refine hK _ _ (h v' w' ?_ (f0.grown h3 (fun j e hj => ?_)))
    · show w'.ownsRow w0.heap.size 9 1 _ (l ++ m).length ((l ++ m).map Value.string)
      rw [List.length_append, List.map_append]
      exact h2
    · have := (hown.lt j e).1
      omega
end
theorem strs_empty {w0 w : World} (f : Fr [] w0 w) : Strs w0 (w.alloc (.cells #[] 9)) (.slice (some ⟨w.heap.size, 0, none⟩) 0 0) [] :=
  ⟨rfl, Or.inr ⟨w.heap.size, 0, #[], rfl, f.size, heap_alloc_new _ _, Nat.le_refl _, by unfold maxLen; omega, rfl, rfl⟩⟩
theorem lowB_get (i : Nat) : ∀ (K j : Nat), j < K → (lowB i K).getD (K - (j + 1)) false = decide (i / 2 ^ j % 2 = 1)
  | 0, j, h => by omega
  | K + 1, j, h => by
    rw [lowB]
    by_cases e : j = K
    · subst e
      rw [Nat.sub_self]
      rfl
    · rw [show K + 1 - (j + 1) = (K - (j + 1)) + 1 by omega]
      have := lowB_get i K j (by omega)
      simpa using this
theorem lowB_step (i K j : Nat) (h : j < K) : (lowB i K).take (K - j) = (lowB i K).take (K - (j + 1)) ++ [decide (i / 2 ^ j % 2 = 1)] := by
  have hl : K - (j + 1) < (lowB i K).length := by rw [lowB_len]; omega
  rw [show K - j = K - (j + 1) + 1 by omega, List.take_succ_eq_append_getElem hl]
  have := lowB_get i K j h
  have e : (lowB i K).getD (K - (j + 1)) false = (lowB i K)[K - (j + 1)] := by simp [hl]
  rw [← e, this]
theorem trim_last (s : List Bool) (h : s.getD (s.length - 1) false = true) : trimS s = s := by
  have hne : s ≠ [] := by rintro rfl; cases h
  have hl := last_get s hne
  rw [h] at hl
  unfold trimS
  obtain ⟨t, x, rfl⟩ : ∃ t x, s = t ++ [x] := ⟨s.dropLast, s.getLast hne, (List.dropLast_concat_getLast hne).symm⟩
  have : x = true := by simpa using hl
  subst this
  simp
theorem trim_drop (s : List Bool) (hne : s ≠ []) (h : s.getD (s.length - 1) false = false) : trimS (s.take (s.length - 1)) = trimS s ∧ (true ∈ s → true ∈ s.take (s.length - 1)) := by
  have hl := last_get s hne
  rw [h] at hl
  obtain ⟨t, x, rfl⟩ : ∃ t x, s = t ++ [x] := ⟨s.dropLast, s.getLast hne, (List.dropLast_concat_getLast hne).symm⟩
  have : x = false := by simpa using hl
  subst this
  have e : (t ++ [false]).take ((t ++ [false]).length - 1) = t := by simp
  rw [e]
  exact ⟨by unfold trimS; simp, by simp⟩
theorem low_true (i K : Nat) (h0 : i ≠ 0) (h : i < 2 ^ K) : true ∈ lowB i K := by
  induction K with
  | zero => simp at h; omega
  | succ K ih =>
    rw [lowB]
    by_cases e : i < 2 ^ K
    · exact List.mem_cons_of_mem _ (ih e)
    · have h1 : i / 2 ^ K = 1 := by
        have := Nat.pow_succ 2 K
        exact Nat.div_eq_of_lt_le (by omega) (by omega)
      rw [h1]
      exact List.mem_cons_self
theorem bit_int (i j : Nat) : ((i : Int) / 2 ^ j).tmod 2 = if decide (i / 2 ^ j % 2 = 1) = true then 1 else 0 := by
  have hnn : (0 : Int) ≤ (i : Int) / 2 ^ j := Int.ediv_nonneg (by omega) (Int.le_of_lt (Int.pow_pos (by omega)))
  rw [Int.tmod_eq_emod_of_nonneg hnn]
  have e : (i : Int) / 2 ^ j = ((i / 2 ^ j : Nat) : Int) := by rw [Int.natCast_ediv]; congr 1
  rw [e]
  by_cases h : i / 2 ^ j % 2 = 1
  · rw [if_pos (by simpa using h)]; omega
  · rw [if_neg (by simpa using h)]; omega
end Go.Proofs.YtddcilmeignlmaaDoor

