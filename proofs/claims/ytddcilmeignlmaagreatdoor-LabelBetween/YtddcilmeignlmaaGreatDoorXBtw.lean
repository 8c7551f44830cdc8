/-
  LabelBetween, walked.
-/
import Derived.Test.YtddcilmeignlmaaGreatDoorKids
import Derived.Test.YtddcilmeignlmaaGreatDoorLRSteps
import Derived.Test.YtddcilmeignlmaaGreatDoorLIns
import Derived.Test.YtddcilmeignlmaaGreatDoorBetw
import Derived.Test.YtddcilmeignlmaaGreatDoorXShort
import Derived.Test.YtddcilmeignlmaaGreatDoorXTell
namespace Go.Proofs.YtddcilmeignlmaaGreatDoor
open Go.RowKit Go.Maps Go.Lib

theorem Hid.mk0 {p : Prop} (h : p) : Hid p := h
set_option maxHeartbeats 1000000 in
set_option maxRecDepth 100000 in
theorem kids_none (w : World) (ad : Option Addr) (m c : Nat) (l : List UInt8) (hn : ∀ ss, ¬ Lab l ss) (hl : l.length = m) (hb : BytesAt w ad l) (hp : Plain ad) (hm : m < 9223372036854775808) (n : Int) :
    Calls Tryz.prog 25 #[.slice ad m c, .int .i64 n] w fun e w' => e = .returned (.tuple #[.slice none 0 0, .int .i64 2]) ∧ Fr [] w w' := by
  have hr := Hid.mk0 (read_no w ad m c l hn hl hb hp hm)
  clear hn hl hb hp hm
  go_enter Tryz.func25, Tryz.ntmps25
  go_wp2_with fail
  refine hr.out.mono ?_
  rintro e w1 ⟨rfl, f1⟩
  have f1a := f1.alloc (.cells #[.string (mkS []), .int .i64 0, .string (mkS []), .int .i64 0, .string (mkS []), .int .i64 0, .int .i64 0] 45)
  go_wp2_with fail
  go_ret2
  exact ⟨rfl, f1a⟩
set_option maxHeartbeats 1000000 in
set_option maxRecDepth 100000 in
theorem kids_few (w : World) (ad : Option Addr) (m c : Nat) (l : List UInt8) (pp : List (List Bool)) (L : Lab l pp) (hl : l.length = m) (hb : BytesAt w ad l) (hp : Plain ad) (n : Int) (hn : n < 0) :
    Calls Tryz.prog 25 #[.slice ad m c, .int .i64 n] w fun e w' => e = .returned (.tuple #[.slice none 0 0, .int .i64 2]) ∧ Fr [] w w' := by
  have hr := Hid.mk0 (read_yes w ad m c l pp L hl hb hp)
  clear L hl hb hp
  go_enter Tryz.func25, Tryz.ntmps25
  go_wp2_with fail
  refine hr.out.mono ?_
  rintro e w1 ⟨u2, u3, rfl, q2, q3, f1⟩
  have f1a := f1.alloc (.cells #[.string (mkS l), .int .i64 ((enc pp).length : Int), .string u2, .int .i64 ((enc pp.dropLast).length : Int), .string u3, .int .i64 ((lastS pp).length : Int), .int .i64 (pp.length : Int)] 45)
  clear hr q2 q3
  go_wp2_with fail
  go_ret2
  exact ⟨rfl, f1a⟩
set_option maxHeartbeats 1000000 in
set_option maxRecDepth 100000 in
theorem kids_many (w : World) (ad : Option Addr) (m c : Nat) (l : List UInt8) (pp : List (List Bool)) (L : Lab l pp) (hl : l.length = m) (hb : BytesAt w ad l) (hp : Plain ad) (n : Int) (hn : 16384 < n) :
    Calls Tryz.prog 25 #[.slice ad m c, .int .i64 n] w fun e w' => e = .returned (.tuple #[.slice none 0 0, .int .i64 2]) ∧ Fr [] w w' := by
  have hr := Hid.mk0 (read_yes w ad m c l pp L hl hb hp)
  have hn0 : ¬ n < 0 := by omega
  clear L hl hb hp
  go_enter Tryz.func25, Tryz.ntmps25
  go_wp2_with fail
  refine hr.out.mono ?_
  rintro e w1 ⟨u2, u3, rfl, q2, q3, f1⟩
  have f1a := f1.alloc (.cells #[.string (mkS l), .int .i64 ((enc pp).length : Int), .string u2, .int .i64 ((enc pp.dropLast).length : Int), .string u3, .int .i64 ((lastS pp).length : Int), .int .i64 (pp.length : Int)] 45)
  clear hr q2 q3
  go_wp2_with fail
  go_ret2
  exact ⟨rfl, f1a⟩
end Go.Proofs.YtddcilmeignlmaaGreatDoor

namespace Go.Proofs.YtddcilmeignlmaaGreatDoor
open Go.RowKit Go.Maps Go.Lib

theorem lab_inj {l : List UInt8} {ss tt : List (List Bool)} (L : Lab l ss) (M : Lab l tt) : ss = tt := by
  have h1 := lab_go L
  rw [lab_go M] at h1
  exact (Prod.mk.inj (Option.some.inj h1)).1.symm
theorem rsteps_yes (w : World) (ad : Option Addr) (m c : Nat) (l : List UInt8) (hl : l.length = m) (hb : BytesAt w ad l) (pp : List (List Bool)) (L : Lab l pp) :
    Calls Tryz.prog 31 #[.slice ad m c] w fun e w' => ∃ v, e = .returned (.tuple #[v, .bool true]) ∧ Strs w w' v (pp.map sT) ∧ Fr [] w w' := by
  refine (rsteps_any w ad m c l hl hb).mono ?_
  rintro e w' ⟨⟨v, ss, L2, rfl, hS⟩ | ⟨hn, _⟩, f⟩
  · obtain rfl := lab_inj L L2
    exact ⟨v, rfl, hS, f⟩
  · exact absurd L (hn pp)
theorem rsteps_no (w : World) (ad : Option Addr) (m c : Nat) (l : List UInt8) (hl : l.length = m) (hb : BytesAt w ad l) (hn : ∀ ss, ¬ Lab l ss) :
    Calls Tryz.prog 31 #[.slice ad m c] w fun e w' => e = .returned (.tuple #[.slice none 0 0, .bool false]) ∧ Fr [] w w' := by
  refine (rsteps_any w ad m c l hl hb).mono ?_
  rintro e w' ⟨⟨v, ss, L2, rfl, hS⟩ | ⟨_, rfl⟩, f⟩
  · exact absurd L2 (hn ss)
  · exact ⟨rfl, f⟩
section
variable {ops : Array Oper} {rest : List Oper} {o : Oper} {a : Act} {w : World} {Q : Exit → Act → World → Prop}
theorem wp_appSs (hgd : o.guard = none) (s y : Operand) (ho : o.op = .call { callee := .builtin .append, args := #[s, y], argTypes := #[49, 49] }) (w0 : World) (v : Value) (l : List ByteArray) (hs : a.eval s = v) (hown : Strs w0 w v l) (f0 : Fr [] w0 w) (u : World) (sv : Value) (m : List ByteArray) (hy : a.eval y = sv) (hm : Strs u w sv m) (hb : l.length + m.length ≤ 1000000)
    (h : ∀ v' w', Strs w0 w' v' (l ++ m) → Fr [] w0 w' → wpList Tryz.prog ops Q rest (a.put o.dst v') w') : wpList Tryz.prog ops Q (o :: rest) a w :=
  wpList_plain hgd fun _ hK => by
  obtain ⟨i, hi, hz, hsz, hby⟩ := info9'
  rcases hm.2 with ⟨rfl, hn⟩ | ⟨g, cap, cur, rfl, _, hg, hnc, _, hcs, ht⟩
  · obtain rfl : m = [] := List.eq_nil_of_length_eq_zero hn
    have hrun := run_append_owned_none (P := Tryz.prog) (w := w) w0.heap.size 49 o.type 9 i 1 Tryz.underlying49 hi v l.length (l.map Value.string) hown
    unfold Oper.wp
    simp [execOp, ho, resolve, invoke, builtin, hs, hy, hrun, Result.andThen]
    exact hK _ _ (h v w (by rw [List.append_nil]; exact hown) f0)
  · obtain ⟨v', w', hrun, h2, h3, _, _⟩ := run_append_own_at (P := Tryz.prog) w w0.heap.size 49 o.type 9 i (.string ⟨#[]⟩) 1 16 Tryz.underlying49 hi hz hsz hby rfl (by omega) v l.length (l.map Value.string) hown ⟨g, 0, none⟩ m.length cap (m.map Value.string) (by simp) (by
      intro j x hj
      rw [Addr.add_mid, Nat.zero_add, cell_of_row w g j _ _ _ hg]
      have hjl : j < m.length := by have := (List.getElem?_eq_some_iff.1 hj).1; simpa using this
      rw [← ht, List.getElem?_take, if_pos (by omega)] at hj
      simpa using hj) (by intro x hx; obtain ⟨j, _, rfl⟩ := List.mem_map.1 hx; rfl) (by unfold maxLen; omega) (by omega) f0.size
    unfold Oper.wp
    simp [execOp, ho, resolve, invoke, builtin, hs, hy, hrun, Result.andThen]
    refine hK _ _ (h v' w' ?_ (f0.grown h3 (fun j e hj => ?_)))
    · show w'.ownsRow w0.heap.size 9 1 _ (l ++ m).length ((l ++ m).map Value.string)
      rw [List.length_append, List.map_append]
      exact h2
    · have := (hown.lt j e).1
      omega
end
theorem strs_empty {w0 w : World} (f : Fr [] w0 w) : Strs w0 (w.alloc (.cells #[] 9)) (.slice (some ⟨w.heap.size, 0, none⟩) 0 0) [] :=
  ⟨rfl, Or.inr ⟨w.heap.size, 0, #[], rfl, f.size, heap_alloc_new _ _, Nat.le_refl _, by unfold maxLen; omega, rfl, rfl⟩⟩
theorem lowB_get (i : Nat) : ∀ (K j : Nat), j < K → (lowB i K).getD (K - (j + 1)) false = decide (i / 2 ^ j % 2 = 1)
  | 0, j, h => by omega
  | K + 1, j, h => by
    rw [lowB]
    by_cases e : j = K
    · subst e
      rw [Nat.sub_self]
      rfl
    · rw [show K + 1 - (j + 1) = (K - (j + 1)) + 1 by omega]
      have := lowB_get i K j (by omega)
      simpa using this
theorem lowB_step (i K j : Nat) (h : j < K) : (lowB i K).take (K - j) = (lowB i K).take (K - (j + 1)) ++ [decide (i / 2 ^ j % 2 = 1)] := by
  have hl : K - (j + 1) < (lowB i K).length := by rw [lowB_len]; omega
  rw [show K - j = K - (j + 1) + 1 by omega, List.take_succ_eq_append_getElem hl]
  have := lowB_get i K j h
  have e : (lowB i K).getD (K - (j + 1)) false = (lowB i K)[K - (j + 1)] := by simp [hl]
  rw [← e, this]
theorem trim_last (s : List Bool) (h : s.getD (s.length - 1) false = true) : trimS s = s := by
  have hne : s ≠ [] := by rintro rfl; cases h
  have hl := last_get s hne
  rw [h] at hl
  unfold trimS
  obtain ⟨t, x, rfl⟩ : ∃ t x, s = t ++ [x] := ⟨s.dropLast, s.getLast hne, (List.dropLast_concat_getLast hne).symm⟩
  have : x = true := by simpa using hl
  subst this
  simp
theorem trim_drop (s : List Bool) (hne : s ≠ []) (h : s.getD (s.length - 1) false = false) : trimS (s.take (s.length - 1)) = trimS s ∧ (true ∈ s → true ∈ s.take (s.length - 1)) := by
  have hl := last_get s hne
  rw [h] at hl
  obtain ⟨t, x, rfl⟩ : ∃ t x, s = t ++ [x] := ⟨s.dropLast, s.getLast hne, (List.dropLast_concat_getLast hne).symm⟩
  have : x = false := by simpa using hl
  subst this
  have e : (t ++ [false]).take ((t ++ [false]).length - 1) = t := by simp
  rw [e]
  exact ⟨by unfold trimS; simp, by simp⟩
theorem low_true (i K : Nat) (h0 : i ≠ 0) (h : i < 2 ^ K) : true ∈ lowB i K := by
  induction K with
  | zero => simp at h; omega
  | succ K ih =>
    rw [lowB]
    by_cases e : i < 2 ^ K
    · exact List.mem_cons_of_mem _ (ih e)
    · have h1 : i / 2 ^ K = 1 := by
        have := Nat.pow_succ 2 K
        exact Nat.div_eq_of_lt_le (by omega) (by omega)
      rw [h1]
      exact List.mem_cons_self
theorem bit_int (i j : Nat) : ((i : Int) / 2 ^ j).tmod 2 = if decide (i / 2 ^ j % 2 = 1) = true then 1 else 0 := by
  have hnn : (0 : Int) ≤ (i : Int) / 2 ^ j := Int.ediv_nonneg (by omega) (Int.le_of_lt (Int.pow_pos (by omega)))
  rw [Int.tmod_eq_emod_of_nonneg hnn]
  have e : (i : Int) / 2 ^ j = ((i / 2 ^ j : Nat) : Int) := by rw [Int.natCast_ediv]; congr 1
  rw [e]
  by_cases h : i / 2 ^ j % 2 = 1
  · rw [if_pos (by simpa using h)]; omega
  · rw [if_neg (by simpa using h)]; omega
end Go.Proofs.YtddcilmeignlmaaGreatDoor

namespace Go.Proofs.YtddcilmeignlmaaGreatDoor
open Go.RowKit Go.Maps Go.Lib

theorem lab_empty {l : List UInt8} (L : Lab l []) : l = [] := by
  have h := L.rep.size
  have e : (enc ([] : List (List Bool))).length = 0 := rfl
  rw [e, mkS_size] at h
  exact List.eq_nil_of_length_eq_zero (by omega)
theorem snoc_of {ss pp : List (List Bool)} (h : ss.dropLast = pp) (hne : ss ≠ []) : ss = pp ++ [lastS ss] := by
  subst h
  unfold lastS
  rcases List.eq_nil_or_concat ss with e | ⟨t, x, rfl⟩
  · exact absurd e hne
  · simp
/-- what is no child: refused; whatever it is: an answer. -/
theorem under_no (w : World) (r : ByteArray) (n : Nat) (p : ByteArray) (k : Nat) (s : ByteArray) (j : Nat) (lev : Int) (ad : Option Addr) (m c : Nat) (l : List UInt8) (hl : l.length = m) (h0 : m ≠ 0) (hb : BytesAt w ad l) (hp : Plain ad) (hm : m < 9223372036854775808) (pp : List (List Bool)) (hR : Rep r n (enc pp)) (hpp : ∀ t ∈ pp, okS t) (hno : ∀ t, ¬ Lab l (pp ++ [t])) :
    Calls Tryz.prog 42 #[pv r n p k s j lev, .slice ad m c] w fun e w' => e = .returned (.tuple #[bv (mkS []) 0, .bool false]) ∧ Fr [] w w' := by
  by_cases h : ∃ ss, Lab l ss
  · obtain ⟨ss, L⟩ := h
    refine (under_yes w r n p k s j lev ad m c l ss L hl h0 hb hp pp hR hpp).mono ?_
    rintro e w' ⟨h1 | h1, f⟩
    · exfalso
      obtain ⟨u3, _, _, hd⟩ := h1
      by_cases hne : ss = []
      · subst hne
        rw [lab_empty L] at hl
        exact h0 hl.symm
      · rw [snoc_of hd hne] at L
        exact hno _ L
    · exact ⟨h1.1, f⟩
  · exact under_bad w r n p k s j lev ad m c l (fun ss L => h ⟨ss, L⟩) hl h0 hb hp hm
theorem under_some (w : World) (r : ByteArray) (n : Nat) (p : ByteArray) (k : Nat) (s : ByteArray) (j : Nat) (lev : Int) (ad : Option Addr) (m c : Nat) (l : List UInt8) (hl : l.length = m) (hb : BytesAt w ad l) (hp : Plain ad) (hm : m < 9223372036854775808) (pp : List (List Bool)) (hR : Rep r n (enc pp)) (hpp : ∀ t ∈ pp, okS t) :
    Calls Tryz.prog 42 #[pv r n p k s j lev, .slice ad m c] w fun e w' => ∃ (u : ByteArray) (q : Nat) (ok : Bool), e = .returned (.tuple #[bv u q, .bool ok]) ∧ Fr [] w w' := by
  by_cases h0 : m = 0
  · subst h0
    exact (under_none w r n p k s j lev ad c).mono fun e w' ⟨h, f⟩ => ⟨_, _, _, h, f⟩
  by_cases h : ∃ ss, Lab l ss
  · obtain ⟨ss, L⟩ := h
    refine (under_yes w r n p k s j lev ad m c l ss L hl h0 hb hp pp hR hpp).mono ?_
    rintro e w' ⟨⟨u3, h1, _⟩ | h1, f⟩
    · exact ⟨_, _, _, h1, f⟩
    · exact ⟨_, _, _, h1.1, f⟩
  · exact (under_bad w r n p k s j lev ad m c l (fun ss L => h ⟨ss, L⟩) hl h0 hb hp hm).mono fun e w' ⟨h, f⟩ => ⟨_, _, _, h, f⟩

set_option maxHeartbeats 1000000 in
set_option maxRecDepth 100000 in
theorem between_none (w : World) (a0 a1 a2 : Option Addr) (n0 n1 n2 c0 c1 c2 : Nat) (l0 : List UInt8) (hn : ∀ ss, ¬ Lab l0 ss) (h0 : l0.length = n0) (b0 : BytesAt w a0 l0) (p0 : Plain a0) (hm : n0 < 9223372036854775808) :
    Calls Tryz.prog 22 #[.slice a0 n0 c0, .slice a1 n1 c1, .slice a2 n2 c2] w fun e w' => e = .returned (.tuple #[.slice none 0 0, .int .i64 2]) ∧ Fr [] w w' := by
  have hr := Hid.mk0 (read_no w a0 n0 c0 l0 hn h0 b0 p0 hm)
  clear hn h0 b0 p0 hm
  go_enter Tryz.func22, Tryz.ntmps22
  go_wp2_with fail
  refine hr.out.mono ?_
  rintro e w1 ⟨rfl, f1⟩
  have f1a := f1.alloc (.cells #[.string (mkS []), .int .i64 0, .string (mkS []), .int .i64 0, .string (mkS []), .int .i64 0, .int .i64 0] 45)
  go_wp2_with fail
  go_ret2
  exact ⟨rfl, f1a⟩

set_option maxHeartbeats 4000000 in
set_option maxRecDepth 100000 in
/-- a is no child, or b is none, or they do not rise. -/
theorem between_no (w : World) (a0 a1 a2 : Option Addr) (n0 n1 n2 c0 c1 c2 : Nat) (l0 l1 l2 : List UInt8) (h0 : l0.length = n0) (h1 : l1.length = n1) (h2 : l2.length = n2) (b0 : BytesAt w a0 l0) (b1 : BytesAt w a1 l1) (b2 : BytesAt w a2 l2) (p0 : Plain a0) (p1 : Plain a1) (p2 : Plain a2)
    (pp : List (List Bool)) (L : Lab l0 pp) (m1 : n1 < 9223372036854775808) (m2 : n2 < 9223372036854775808) (hno : (n1 ≠ 0 ∧ ∀ t, ¬ Lab l1 (pp ++ [t])) ∨ (n2 ≠ 0 ∧ ∀ t, ¬ Lab l2 (pp ++ [t])) ∨ (n1 ≠ 0 ∧ n2 ≠ 0 ∧ ¬ compareBytes l1 l2 < 0)) :
    Calls Tryz.prog 22 #[.slice a0 n0 c0, .slice a1 n1 c1, .slice a2 n2 c2] w fun e w' => e = .returned (.tuple #[.slice none 0 0, .int .i64 2]) ∧ Fr [] w w' := by
  have hr := read_yes w a0 n0 c0 l0 pp L h0 b0 p0
  have HL : Hid (Lab l0 pp) := L
  have H1 : Hid (l1.length = n1) := h1
  have H2 : Hid (l2.length = n2) := h2
  have HN := Hid.mk0 hno
  have M1 := Hid.mk0 m1
  have M2 := Hid.mk0 m2
  clear L h0 h1 h2 hno m1 m2
  go_enter Tryz.func22, Tryz.ntmps22
  go_wp2_with fail
  refine hr.mono ?_
  rintro e w1 ⟨u2, u3, rfl, q2, q3, f1⟩
  have f1a := f1.alloc (.cells #[.string (mkS l0), .int .i64 ((enc pp).length : Int), .string u2, .int .i64 ((enc pp.dropLast).length : Int), .string u3, .int .i64 ((lastS pp).length : Int), .int .i64 (pp.length : Int)] 45)
  have pB : PBox (w1.alloc (.cells #[.string (mkS l0), .int .i64 ((enc pp).length : Int), .string u2, .int .i64 ((enc pp.dropLast).length : Int), .string u3, .int .i64 ((lastS pp).length : Int), .int .i64 (pp.length : Int)] 45)) w1.heap.size (mkS l0) (enc pp).length u2 (enc pp.dropLast).length u3 (lastS pp).length (pp.length : Int) := heap_alloc_new w1 _
  have hu1 : Calls Tryz.prog 42 #[pv (mkS l0) (enc pp).length u2 (enc pp.dropLast).length u3 (lastS pp).length (pp.length : Int), .slice a1 n1 c1] (w1.alloc (.cells #[.string (mkS l0), .int .i64 ((enc pp).length : Int), .string u2, .int .i64 ((enc pp.dropLast).length : Int), .string u3, .int .i64 ((lastS pp).length : Int), .int .i64 (pp.length : Int)] 45)) fun e w' => ∃ (u : ByteArray) (q : Nat) (ok : Bool), e = .returned (.tuple #[bv u q, .bool ok]) ∧ Hid (n1 ≠ 0 ∧ (∀ t, ¬ Lab l1 (pp ++ [t])) → ok = false) ∧ Fr [] (w1.alloc (.cells #[.string (mkS l0), .int .i64 ((enc pp).length : Int), .string u2, .int .i64 ((enc pp.dropLast).length : Int), .string u3, .int .i64 ((lastS pp).length : Int), .int .i64 (pp.length : Int)] 45)) w' := by
    by_cases hq : n1 ≠ 0 ∧ (∀ t, ¬ Lab l1 (pp ++ [t]))
    · exact (under_no _ (mkS l0) (enc pp).length u2 (enc pp.dropLast).length u3 (lastS pp).length (pp.length : Int) a1 n1 c1 l1 H1.out hq.1 (b1.kept f1a (by simp)) p1 M1.out pp HL.out.rep HL.out.ok hq.2).mono fun e w' ⟨h, f⟩ => ⟨_, _, _, h, fun _ => rfl, f⟩
    · exact (under_some _ (mkS l0) (enc pp).length u2 (enc pp.dropLast).length u3 (lastS pp).length (pp.length : Int) a1 n1 c1 l1 H1.out (b1.kept f1a (by simp)) p1 M1.out pp HL.out.rep HL.out.ok).mono fun e w' ⟨u, q, ok, h, f⟩ => ⟨u, q, ok, h, fun x => absurd x hq, f⟩
  clear hr
  go_wp2_with fail
  refine hu1.mono ?_
  rintro e w2 ⟨u4, k4, ok4, rfl, HO4, f2⟩
  have pB2 := pB.kept f2 (by simp)
  have g2 := f1a.trans f2
  have fL : Fr [] w2 (w2.alloc (.cells #[.string u4, .int .i64 (k4 : Int)] 43)) := (Fr.refl _ _).alloc _
  have g3 := g2.trans fL
  have e0 := pB2.c0
  have e1 := pB2.c1
  have e2 := pB2.c2
  have e3 := pB2.c3
  have e4 := pB2.c4
  have e5 := pB2.c5
  have e6 := pB2.c6
  have hlt2 := pB2.lt
  have hu2 : Calls Tryz.prog 42 #[pv (mkS l0) (enc pp).length u2 (enc pp.dropLast).length u3 (lastS pp).length (pp.length : Int), .slice a2 n2 c2] (w2.alloc (.cells #[.string u4, .int .i64 (k4 : Int)] 43)) fun e w' => ∃ (u : ByteArray) (q : Nat) (ok : Bool), e = .returned (.tuple #[bv u q, .bool ok]) ∧ Hid (n2 ≠ 0 ∧ (∀ t, ¬ Lab l2 (pp ++ [t])) → ok = false) ∧ Fr [] (w2.alloc (.cells #[.string u4, .int .i64 (k4 : Int)] 43)) w' := by
    by_cases hq : n2 ≠ 0 ∧ (∀ t, ¬ Lab l2 (pp ++ [t]))
    · exact (under_no _ (mkS l0) (enc pp).length u2 (enc pp.dropLast).length u3 (lastS pp).length (pp.length : Int) a2 n2 c2 l2 H2.out hq.1 (b2.kept g3 (by simp)) p2 M2.out pp HL.out.rep HL.out.ok hq.2).mono fun e w' ⟨h, f⟩ => ⟨_, _, _, h, fun _ => rfl, f⟩
    · exact (under_some _ (mkS l0) (enc pp).length u2 (enc pp.dropLast).length u3 (lastS pp).length (pp.length : Int) a2 n2 c2 l2 H2.out (b2.kept g3 (by simp)) p2 M2.out pp HL.out.rep HL.out.ok).mono fun e w' ⟨u, q, ok, h, f⟩ => ⟨u, q, ok, h, fun x => absurd x hq, f⟩
  clear hu1 pB f1a f1 fL f2 g2 pB2
  generalize w1.heap.size = BP at *
  go_wp2_with fail
  refine hu2.mono ?_
  rintro e w3 ⟨u5, k5, ok5, rfl, HO5, f3⟩
  have g4 := g3.trans f3
  have fH : Fr [] w3 (w3.alloc (.cells #[.string u5, .int .i64 (k5 : Int)] 43)) := (Fr.refl _ _).alloc _
  have g5 := g4.trans fH
  have hcm := Hid.mk0 (compareL_any _ a1 a2 n1 n2 c1 c2 l1 l2 H1.out H2.out (b1.kept g5 (by simp)) (b2.kept g5 (by simp)))
  clear hu2 g3 g4 fH f3 e0 e1 e2 e3 e4 e5 e6 hlt2 b0 b1 b2 q2 q3
  have HCL : Hid (ok4 = true → ok5 = true → n1 ≠ 0 ∧ n2 ≠ 0 ∧ ¬ compareBytes l1 l2 < 0) := fun h4 h5 => by
    rcases HN.out with h | h | h
    · have := HO4.out h; rw [h4] at this; cases this
    · have := HO5.out h; rw [h5] at this; cases this
    · exact ⟨h.1, h.2.1, by have := h.2.2; omega⟩
  clear HO4 HO5 HN
  cases ok4 with
  | false =>
    go_wp2_with fail
    go_ret2
    exact ⟨rfl, g5⟩
  | true =>
    cases ok5 with
    | false =>
      go_wp2_with fail
      go_ret2
      exact ⟨rfl, g5⟩
    | true =>
      obtain ⟨z1, z2, hcv⟩ := HCL.out rfl rfl
      have z1' : 0 < n1 := by omega
      have z2' : 0 < n2 := by omega
      clear z1 z2
      generalize compareBytes l1 l2 = cv at hcm hcv
      go_wp2_with (go_at_call 17; refine hcm.out.mono ?_; rintro e w9 ⟨rfl, rfl⟩)
      go_ret2
      exact ⟨rfl, g5⟩
end Go.Proofs.YtddcilmeignlmaaGreatDoor

namespace Go.Proofs.YtddcilmeignlmaaGreatDoor
open Go.RowKit Go.Maps Go.Lib

/-- The step of a child. -/
def ChildTo (pp : List (List Bool)) (l : List UInt8) (t : List Bool) (ok : Bool) : Prop :=
  (l = [] ∧ t = [] ∧ ok = true) ∨ (l ≠ [] ∧ Lab l (pp ++ [t]) ∧ ok = true) ∨ (l ≠ [] ∧ (∀ t, ¬ Lab l (pp ++ [t])) ∧ t = [] ∧ ok = false)
theorem child_not {pp ss : List (List Bool)} {l : List UInt8} (L : Lab l ss) (h : ss.length ≠ pp.length + 1 ∨ ss.take pp.length ≠ pp) (t : List Bool) : ¬ Lab l (pp ++ [t]) := fun M => by
  obtain rfl := lab_unique L M
  rcases h with h | h
  · exact h (by simp)
  · exact h (by simp)
set_option maxHeartbeats 8000000 in
set_option maxRecDepth 100000 in
theorem rchild_any (w : World) (aP : Option Addr) (nP cP : Nat) (pp : List (List Bool)) (h1 : pp.length = nP) (p1 : StrAt w aP (pp.map sT)) (hpp : nP ≤ 1100) (ad : Option Addr) (m c : Nat) (l : List UInt8) (hl : l.length = m) (hb : BytesAt w ad l) :
    Calls Tryz.prog 45 #[.slice aP nP cP, .slice ad m c] w fun e w' => ∃ t ok, e = .returned (.tuple #[.string (sT t), .bool ok]) ∧ Hid (ChildTo pp l t ok) ∧ Fr [] w w' := by
  by_cases hm : m = 0
  · subst hm
    have hl0 : l = [] := List.eq_nil_of_length_eq_zero hl
    go_enter Tryz.func45, Tryz.ntmps45
    go_wp2_with fail
    go_ret2
    exact ⟨[], true, rfl, Lib.hid (Or.inl ⟨hl0, rfl, rfl⟩), Fr.refl _ _⟩
  · have hne : l ≠ [] := by rintro rfl; exact hm hl.symm
    have hm' : ((m : Int) == 0) = false := by simp; omega
    have cS := Lib.hid (rsteps_any w ad m c l hl hb)
    have P1 := Lib.hid p1
    have H1 := Lib.hid h1
    have hn1 : (nP : Int) ≤ 1100 := by omega
    have HNE := Lib.hid hne
    clear hl hb p1 h1 hm hne
    go_enter Tryz.func45, Tryz.ntmps45
    go_wp2_with fail
    refine cS.out.mono ?_
    rintro e w1 ⟨hd, f1⟩
    rcases hd with ⟨v, ss, L, rfl, hS⟩ | ⟨hno, rfl⟩
    · obtain ⟨ad1, cap1, rfl, hS1⟩ := hS.row
      rw [List.length_map]
      have HS := Lib.hid hS1
      have HL := Lib.hid L
      have hle := len_le_enc ss
      have hms := L.most
      obtain ⟨n, hn⟩ : ∃ n, ss.length = n := ⟨_, rfl⟩
      rw [hn]
      have HN := Lib.hid hn
      rw [hn] at hle
      have hn2 : (n : Int) ≤ 1024 := by omega
      clear hS hS1 L hle hms hn
      by_cases hlen : n = nP + 1
      · have hlen' : ((n : Int) != (nP : Int) + 1) = false := by simp; omega
        have cB := Lib.hid (rbegins_any w1 ad1 aP n nP cap1 cP ss pp HN.out H1.out HS.out (P1.out.kept f1) (by omega) (by omega))
        by_cases hpre : ss.take nP = pp
        · rw [decide_eq_true hpre] at cB
          have hss : ss = pp ++ [lastS ss] := by
            have e1 : ss.dropLast = pp := by rw [List.dropLast_eq_take, HN.out, hlen, Nat.add_sub_cancel]; exact hpre
            exact snoc_of e1 (by rintro rfl; have := HN.out; simp at this; omega)
          have hlt : nP < ss.length := by rw [HN.out]; omega
          obtain ⟨b, off, rfl, hc⟩ := HS.out nP (sT ss[nP]) (by rw [List.getElem?_map, List.getElem?_eq_getElem hlt]; rfl)
          have e2 : ss[nP] = lastS ss := by
            have e3 : ss[nP]? = some (lastS ss) := by
              rw [hss]
              rw [show lastS (pp ++ [lastS ss]) = lastS ss from lastS_snoc _ _]
              rw [← H1.out, List.getElem?_append_right (Nat.le_refl _), Nat.sub_self]
              rfl
            rw [List.getElem?_eq_getElem hlt] at e3
            exact Option.some.inj e3
          rw [e2] at hc
          have HSS := Lib.hid hss
          generalize lastS ss = T at hc HSS
          have hn3 : (n : Int) - 1 = (nP : Int) := by omega
          have hn4 : (nP : Int) < (n : Int) := by omega
          have hn5 : (0 : Int) ≤ (nP : Int) := by omega
          have HCC := Lib.hid (fun w' (f : Fr [] w1 w') => cell_fr hc f (by simp))
          clear hpre hss hlt e2 hc hlen
          go_wp2_with fail
          refine cB.out.mono ?_
          rintro e w2 ⟨rfl, f2⟩
          have hc2 := HCC.out w2 f2
          go_wp2_with fail
          go_ret2
          exact ⟨T, true, rfl, Lib.hid (Or.inr (Or.inl ⟨HNE.out, by rw [← HSS.out]; exact HL.out, rfl⟩)), f1.trans f2⟩
        · rw [decide_eq_false hpre] at cB
          have HPR := Lib.hid hpre
          clear hpre hlen
          go_wp2_with fail
          refine cB.out.mono ?_
          rintro e w2 ⟨rfl, f2⟩
          go_wp2_with fail
          go_ret2
          exact ⟨[], false, rfl, Lib.hid (Or.inr (Or.inr ⟨HNE.out, child_not HL.out (Or.inr (by rw [H1.out]; exact HPR.out)), rfl, rfl⟩)), f1.trans f2⟩
      · have hlen' : ((n : Int) != (nP : Int) + 1) = true := by simp; omega
        have HPR := Lib.hid hlen
        clear hlen
        go_wp2_with fail
        go_ret2
        exact ⟨[], false, rfl, Lib.hid (Or.inr (Or.inr ⟨HNE.out, child_not HL.out (Or.inl (by rw [H1.out, HN.out]; exact HPR.out)), rfl, rfl⟩)), f1⟩
    · have HNO := Lib.hid hno
      clear hno
      go_wp2_with fail
      go_ret2
      exact ⟨[], false, rfl, Lib.hid (Or.inr (Or.inr ⟨HNE.out, fun t => HNO.out _, rfl, rfl⟩)), f1⟩

/-- What stands between. -/
def BetwTo (l0 l1 l2 : List UInt8) (E : Int) (B : List UInt8) : Prop :=
  (∃ pp lo up k, Lab l0 pp ∧ ChildTo pp l1 lo true ∧ ChildTo pp l2 up true ∧ (l1 ≠ [] → l2 ≠ [] → sless lo up) ∧ Parts lo up k ∧ ((E = 0 ∧ Lab B (pp ++ [preS lo k ++ [true]])) ∨ (E = 140 ∧ B = [] ∧ 1024 < (enc (pp ++ [preS lo k ++ [true]])).length))) ∨
  (E = 2 ∧ B = [] ∧ ((∀ ss, ¬ Lab l0 ss) ∨ ∃ pp, Lab l0 pp ∧ ((l1 ≠ [] ∧ ∀ t, ¬ Lab l1 (pp ++ [t])) ∨ (l2 ≠ [] ∧ ∀ t, ¬ Lab l2 (pp ++ [t])) ∨ (∃ lo up, l1 ≠ [] ∧ l2 ≠ [] ∧ Lab l1 (pp ++ [lo]) ∧ Lab l2 (pp ++ [up]) ∧ ¬ sless lo up))))
theorem ChildTo.yes {pp : List (List Bool)} {l : List UInt8} {t : List Bool} (h : ChildTo pp l t true) : (l = [] ∧ t = []) ∨ (l ≠ [] ∧ Lab l (pp ++ [t])) := by
  rcases h with ⟨a, b, _⟩ | ⟨a, b, _⟩ | ⟨_, _, _, h⟩
  · exact Or.inl ⟨a, b⟩
  · exact Or.inr ⟨a, b⟩
  · cases h
theorem snoc_inj {pp : List (List Bool)} {a b : List Bool} (h : pp ++ [a] = pp ++ [b]) : a = b := by simpa using h
theorem ChildTo.one {pp : List (List Bool)} {l : List UInt8} {t u : List Bool} (h : ChildTo pp l t true) (g : ChildTo pp l u true) : t = u := by
  rcases h.yes with ⟨a, b⟩ | ⟨a, b⟩ <;> rcases g.yes with ⟨c, d⟩ | ⟨c, d⟩
  · rw [b, d]
  · exact absurd a c
  · exact absurd c a
  · exact snoc_inj (lab_unique b d)
theorem ChildTo.ok {pp : List (List Bool)} {l : List UInt8} {t : List Bool} (h : ChildTo pp l t true) : t = [] ∨ okS t := by
  rcases h.yes with ⟨_, b⟩ | ⟨_, b⟩
  · exact Or.inl b
  · exact Or.inr (b.ok t (by simp))
theorem ChildTo.len {pp : List (List Bool)} {l : List UInt8} {t : List Bool} (h : ChildTo pp l t true) : t.length ≤ 512 := by
  rcases h.yes with ⟨_, b⟩ | ⟨_, b⟩
  · rw [b]; simp
  · have h1 := b.most
    rw [enc_append, enc_one, List.length_append, wr_length] at h1
    omega
theorem BetwTo.one {l0 l1 l2 B C : List UInt8} {E F : Int} (h : BetwTo l0 l1 l2 E B) (g : BetwTo l0 l1 l2 F C) : E = F ∧ B = C := by
  rcases h with ⟨pp, lo, up, k, L, A1, A2, hs, P, h⟩ | ⟨rfl, rfl, h⟩ <;> rcases g with ⟨qq, lo', up', k', M, B1, B2, gs, Q, g⟩ | ⟨rfl, rfl, g⟩
  · obtain rfl := lab_unique L M
    obtain rfl := A1.one B1
    obtain rfl := A2.one B2
    obtain rfl := parts_one P Q
    rcases h with ⟨rfl, h⟩ | ⟨rfl, rfl, h⟩ <;> rcases g with ⟨rfl, g⟩ | ⟨rfl, rfl, g⟩
    · exact ⟨rfl, lab_same h g⟩
    · have := h.most; omega
    · have := g.most; omega
    · exact ⟨rfl, rfl⟩
  · exfalso
    rcases g with g | ⟨qq, M, g⟩
    · exact g _ L
    · obtain rfl := lab_unique L M
      rcases g with ⟨hn, g⟩ | ⟨hn, g⟩ | ⟨lo', up', n1, n2, b1, b2, g⟩
      · rcases A1.yes with ⟨a, _⟩ | ⟨_, a⟩
        · exact hn a
        · exact g _ a
      · rcases A2.yes with ⟨a, _⟩ | ⟨_, a⟩
        · exact hn a
        · exact g _ a
      · rcases A1.yes with ⟨a, _⟩ | ⟨_, a⟩
        · exact n1 a
        · rcases A2.yes with ⟨c, _⟩ | ⟨_, c⟩
          · exact n2 c
          · obtain rfl := snoc_inj (lab_unique a b1)
            obtain rfl := snoc_inj (lab_unique c b2)
            exact g (hs n1 n2)
  · exfalso
    rcases h with g | ⟨pp, L, g⟩
    · exact g _ M
    · obtain rfl := lab_unique M L
      rcases g with ⟨hn, g⟩ | ⟨hn, g⟩ | ⟨lo, up, n1, n2, b1, b2, g⟩
      · rcases B1.yes with ⟨a, _⟩ | ⟨_, a⟩
        · exact hn a
        · exact g _ a
      · rcases B2.yes with ⟨a, _⟩ | ⟨_, a⟩
        · exact hn a
        · exact g _ a
      · rcases B1.yes with ⟨a, _⟩ | ⟨_, a⟩
        · exact n1 a
        · rcases B2.yes with ⟨c, _⟩ | ⟨_, c⟩
          · exact n2 c
          · obtain rfl := snoc_inj (lab_unique a b1)
            obtain rfl := snoc_inj (lab_unique c b2)
            exact g (gs n1 n2)
  · exact ⟨rfl, rfl⟩
theorem BetwTo.len {l0 l1 l2 B : List UInt8} {E : Int} (h : BetwTo l0 l1 l2 E B) : B.length ≤ 1000000 := by
  rcases h with ⟨pp, lo, up, k, L, A1, A2, hs, P, ⟨_, h⟩ | ⟨_, rfl, h⟩⟩ | ⟨_, rfl, _⟩
  · have := lab_len h; omega
  · simp
  · simp
theorem less_iff {l1 l2 : List UInt8} {pp : List (List Bool)} {lo up : List Bool} (L : Lab l1 (pp ++ [lo])) (M : Lab l2 (pp ++ [up])) : compareBytes l1 l2 < 0 ↔ sless lo up :=
  ⟨less_kids L M, fun h => by rw [kids_less L M h]; omega⟩
theorem stand_iff {l1 l2 : List UInt8} {pp : List (List Bool)} {lo up : List Bool} (L : Lab l1 (pp ++ [lo])) (M : Lab l2 (pp ++ [up])) : stand lo up < 0 ↔ sless lo up :=
  ⟨sless_stand (L.ok lo (by simp)) (M.ok up (by simp)), fun h => by rw [stand_sless h]; omega⟩
/-- the program's own. -/
theorem betweenP_any (w : World) (a0 a1 a2 : Option Addr) (n0 n1 n2 c0 c1 c2 : Nat) (l0 l1 l2 : List UInt8) (h0 : l0.length = n0) (h1 : l1.length = n1) (h2 : l2.length = n2) (b0 : BytesAt w a0 l0) (b1 : BytesAt w a1 l1) (b2 : BytesAt w a2 l2) (p0 : Plain a0) (p1 : Plain a1) (p2 : Plain a2) (m0 : n0 ≤ 1000) (m1 : n1 ≤ 1000) (m2 : n2 ≤ 1000) :
    Calls Tryz.prog 22 #[.slice a0 n0 c0, .slice a1 n1 c1, .slice a2 n2 c2] w fun e w' => ∃ v E B, e = .returned (.tuple #[v, .int .i64 E]) ∧ BetwTo l0 l1 l2 E B ∧ Out w w' v B ∧ Fr [] w w' := by
  have z1 : n1 = 0 ↔ l1 = [] := ⟨fun h => List.eq_nil_of_length_eq_zero (by omega), fun h => by rw [← h1, h]; rfl⟩
  have z2 : n2 = 0 ↔ l2 = [] := ⟨fun h => List.eq_nil_of_length_eq_zero (by omega), fun h => by rw [← h2, h]; rfl⟩
  by_cases hp : ∃ ss, Lab l0 ss
  · obtain ⟨pp, L⟩ := hp
    have no : ((n1 ≠ 0 ∧ ∀ t, ¬ Lab l1 (pp ++ [t])) ∨ (n2 ≠ 0 ∧ ∀ t, ¬ Lab l2 (pp ++ [t])) ∨ (n1 ≠ 0 ∧ n2 ≠ 0 ∧ ¬ compareBytes l1 l2 < 0)) → (l1 ≠ [] ∧ ∀ t, ¬ Lab l1 (pp ++ [t])) ∨ (l2 ≠ [] ∧ ∀ t, ¬ Lab l2 (pp ++ [t])) ∨ (∃ lo up, l1 ≠ [] ∧ l2 ≠ [] ∧ Lab l1 (pp ++ [lo]) ∧ Lab l2 (pp ++ [up]) ∧ ¬ sless lo up) →
        Calls Tryz.prog 22 #[.slice a0 n0 c0, .slice a1 n1 c1, .slice a2 n2 c2] w fun e w' => ∃ v E B, e = .returned (.tuple #[v, .int .i64 E]) ∧ BetwTo l0 l1 l2 E B ∧ Out w w' v B ∧ Fr [] w w' := fun hno hx =>
      (between_no w a0 a1 a2 n0 n1 n2 c0 c1 c2 l0 l1 l2 h0 h1 h2 b0 b1 b2 p0 p1 p2 pp L (by omega) (by omega) hno).mono fun e w' ⟨he, f⟩ => ⟨_, 2, [], he, Or.inr ⟨rfl, rfl, Or.inr ⟨pp, L, hx⟩⟩, out_none _ _, f⟩
    by_cases k1 : l1 ≠ [] ∧ ∀ t, ¬ Lab l1 (pp ++ [t])
    · exact no (Or.inl ⟨fun h => k1.1 (z1.1 h), k1.2⟩) (Or.inl k1)
    by_cases k2 : l2 ≠ [] ∧ ∀ t, ¬ Lab l2 (pp ++ [t])
    · exact no (Or.inr (Or.inl ⟨fun h => k2.1 (z2.1 h), k2.2⟩)) (Or.inr (Or.inl k2))
    obtain ⟨lo, A1⟩ : ∃ lo, ChildTo pp l1 lo true := by
      by_cases e : l1 = []
      · exact ⟨[], Or.inl ⟨e, rfl, rfl⟩⟩
      · obtain ⟨t, ht⟩ := Classical.not_forall.1 (fun h => k1 ⟨e, h⟩)
        exact ⟨t, Or.inr (Or.inl ⟨e, Classical.byContradiction ht, rfl⟩)⟩
    obtain ⟨up, A2⟩ : ∃ up, ChildTo pp l2 up true := by
      by_cases e : l2 = []
      · exact ⟨[], Or.inl ⟨e, rfl, rfl⟩⟩
      · obtain ⟨t, ht⟩ := Classical.not_forall.1 (fun h => k2 ⟨e, h⟩)
        exact ⟨t, Or.inr (Or.inl ⟨e, Classical.byContradiction ht, rfl⟩)⟩
    by_cases k3 : l1 ≠ [] ∧ l2 ≠ [] ∧ ¬ compareBytes l1 l2 < 0
    · obtain ⟨e1, e2, e3⟩ := k3
      have L1 := (A1.yes.resolve_left fun h => e1 h.1).2
      have L2 := (A2.yes.resolve_left fun h => e2 h.1).2
      exact no (Or.inr (Or.inr ⟨fun h => e1 (z1.1 h), fun h => e2 (z2.1 h), e3⟩)) (Or.inr (Or.inr ⟨lo, up, e1, e2, L1, L2, fun h => e3 ((less_iff L1 L2).2 h)⟩))
    obtain ⟨k, hk, P⟩ := parts_ex lo up
    have g1 := A1.len
    have g2 := A2.len
    refine (between_ok w a0 a1 a2 n0 n1 n2 c0 c1 c2 l0 l1 l2 h0 h1 h2 b0 b1 b2 p0 p1 p2 pp L lo up (A1.yes.imp (fun h => ⟨z1.2 h.1, h.2⟩) (fun h => ⟨fun e => h.1 (z1.1 e), h.2⟩)) (A2.yes.imp (fun h => ⟨z2.2 h.1, h.2⟩) (fun h => ⟨fun e => h.1 (z2.1 e), h.2⟩)) (fun q1 q2 => Classical.byContradiction fun hc => k3 ⟨fun e => q1 (z1.2 e), fun e => q2 (z2.2 e), hc⟩) k P (by omega)).mono ?_
    rintro e w' ⟨v, en, rfl, h, f⟩
    have hs : l1 ≠ [] → l2 ≠ [] → sless lo up := fun e1 e2 => (less_iff (A1.yes.resolve_left fun h => e1 h.1).2 (A2.yes.resolve_left fun h => e2 h.1).2).1 (Classical.byContradiction fun hc => k3 ⟨e1, e2, hc⟩)
    rcases h with ⟨rfl, B, LB, O⟩ | ⟨rfl, rfl, hgt⟩
    · exact ⟨v, 0, B, rfl, Or.inl ⟨pp, lo, up, k, L, A1, A2, hs, P, Or.inl ⟨rfl, LB⟩⟩, O, f⟩
    · exact ⟨_, 140, [], rfl, Or.inl ⟨pp, lo, up, k, L, A1, A2, hs, P, Or.inr ⟨rfl, rfl, hgt⟩⟩, out_none _ _, f⟩
  · exact (between_none w a0 a1 a2 n0 n1 n2 c0 c1 c2 l0 (fun ss L => hp ⟨ss, L⟩) h0 b0 p0 (by omega)).mono fun e w' ⟨he, f⟩ => ⟨_, 2, [], he, Or.inr ⟨rfl, rfl, Or.inl fun ss L => hp ⟨ss, L⟩⟩, out_none _ _, f⟩
end Go.Proofs.YtddcilmeignlmaaGreatDoor

namespace Go.Proofs.YtddcilmeignlmaaGreatDoor
open Go.RowKit Go.Maps Go.Lib

theorem strs_lit' (w : World) (x : ByteArray) : (w.alloc (.cells #[.string x] 9)).cell? ⟨w.heap.size, 0, none⟩ = some (.string x) := by
  rw [cell_of_row _ _ _ _ _ _ (heap_alloc_new w _)]
  rfl
set_option maxHeartbeats 4000000 in
set_option maxRecDepth 100000 in
theorem rbetween_any (w : World) (a0 a1 a2 : Option Addr) (n0 n1 n2 c0 c1 c2 : Nat) (l0 l1 l2 : List UInt8) (h0 : l0.length = n0) (h1 : l1.length = n1) (h2 : l2.length = n2) (b0 : BytesAt w a0 l0) (b1 : BytesAt w a1 l1) (b2 : BytesAt w a2 l2) :
    Calls Tryz.prog 23 #[.slice a0 n0 c0, .slice a1 n1 c1, .slice a2 n2 c2] w fun e w' => ∃ v E B, e = .returned (.tuple #[v, .int .i64 E]) ∧ BetwTo l0 l1 l2 E B ∧ Out w w' v B ∧ Fr [] w w' := by
  have cS := Lib.hid (rsteps_any w a0 n0 c0 l0 h0 b0)
  have B1 := Lib.hid b1
  have B2 := Lib.hid b2
  have H1 := Lib.hid h1
  have H2 := Lib.hid h2
  have Z1 := Lib.hid (show n1 = 0 ↔ l1 = [] from ⟨fun h => List.eq_nil_of_length_eq_zero (by omega), fun h => by rw [← h1, h]; rfl⟩)
  have Z2 := Lib.hid (show n2 = 0 ↔ l2 = [] from ⟨fun h => List.eq_nil_of_length_eq_zero (by omega), fun h => by rw [← h2, h]; rfl⟩)
  clear b0 b1 b2 h0 h1 h2
  go_enter Tryz.func23, Tryz.ntmps23
  go_wp2_with fail
  refine cS.out.mono ?_
  rintro e w1 ⟨hd, f1⟩
  rcases hd with ⟨v, pp, L, rfl, hS⟩ | ⟨hno, rfl⟩
  · obtain ⟨ad1, cap1, rfl, hS1⟩ := hS.row
    rw [List.length_map]
    have HS := Lib.hid hS1
    have HL := Lib.hid L
    have hle := len_le_enc pp
    have hms := L.most
    obtain ⟨n, hn⟩ : ∃ n, pp.length = n := ⟨_, rfl⟩
    rw [hn]
    have HN := Lib.hid hn
    rw [hn] at hle
    have hn2 := Lib.hid (show n ≤ 1024 by omega)
    have HSS := Lib.hid (show Strs w w1 (.slice ad1 n cap1) (pp.map sT) from by have h5 := hS; rw [List.length_map, hn] at h5; exact h5)
    clear hS hS1 L hle hms hn
    go_wp2_with fail
    refine (rchild_any w1 ad1 n cap1 pp HN.out HS.out (by have := hn2.out; omega) a1 n1 c1 l1 H1.out (B1.out.kept f1 (by simp))).mono ?_
    rintro e w2 ⟨lo, ok1, rfl, C1, f2⟩
    have g2 := f1.trans f2
    have HS2 := Lib.hid (HS.out.kept f2)
    go_wp2_with fail
    refine (rchild_any w2 ad1 n cap1 pp HN.out HS2.out (by have := hn2.out; omega) a2 n2 c2 l2 H2.out (B2.out.kept g2 (by simp))).mono ?_
    rintro e w3 ⟨up, ok2, rfl, C2, f3⟩
    have g3 := Lib.hid (g2.trans f3)
    have HSS3 := Lib.hid (HSS.out.kept0 (f2.trans f3))
    clear f1 f2 f3 g2 HS HS2 HSS
    cases ok1 with
    | false =>
      have hx := Lib.hid (show l1 ≠ [] ∧ ∀ t, ¬ Lab l1 (pp ++ [t]) from by
        rcases C1.out with ⟨_, _, h⟩ | ⟨_, _, h⟩ | ⟨a, b, _, _⟩
        · cases h
        · cases h
        · exact ⟨a, b⟩)
      go_wp2_with fail
      go_ret2
      exact ⟨_, 2, [], rfl, Or.inr ⟨rfl, rfl, Or.inr ⟨pp, HL.out, Or.inl hx.out⟩⟩, out_none _ _, g3.out⟩
    | true =>
    cases ok2 with
    | false =>
      have hx := Lib.hid (show l2 ≠ [] ∧ ∀ t, ¬ Lab l2 (pp ++ [t]) from by
        rcases C2.out with ⟨_, _, h⟩ | ⟨_, _, h⟩ | ⟨a, b, _, _⟩
        · cases h
        · cases h
        · exact ⟨a, b⟩)
      go_wp2_with fail
      go_ret2
      exact ⟨_, 2, [], rfl, Or.inr ⟨rfl, rfl, Or.inr ⟨pp, HL.out, Or.inr (Or.inl hx.out)⟩⟩, out_none _ _, g3.out⟩
    | true =>
    have e1 := Lib.hid C1.out.len
    have e2 := Lib.hid C2.out.len
    by_cases hno : n1 ≠ 0 ∧ n2 ≠ 0 ∧ ¬ stand lo up < 0
    · obtain ⟨q1, q2, q3⟩ := hno
      have hx := Lib.hid (show ∃ lo up, l1 ≠ [] ∧ l2 ≠ [] ∧ Lab l1 (pp ++ [lo]) ∧ Lab l2 (pp ++ [up]) ∧ ¬ sless lo up from by
        have k1 : l1 ≠ [] := fun h => q1 (Z1.out.2 h)
        have k2 : l2 ≠ [] := fun h => q2 (Z2.out.2 h)
        have L1 := (C1.out.yes.resolve_left fun h => k1 h.1).2
        have L2 := (C2.out.yes.resolve_left fun h => k2 h.1).2
        exact ⟨lo, up, k1, k2, L1, L2, fun h => q3 ((stand_iff L1 L2).2 h)⟩)
      have q1' : 0 < n1 := by omega
      have q2' : 0 < n2 := by omega
      have cl := Lib.hid (fun w' => less_no q3 w' (by have := e1.out; omega) (by have := e2.out; omega))
      clear q1 q2 q3
      go_wp2_with fail
      refine (cl.out _).mono ?_
      rintro e w4 ⟨rfl, f4⟩
      go_wp2_with fail
      go_ret2
      exact ⟨_, 2, [], rfl, Or.inr ⟨rfl, rfl, Or.inr ⟨pp, HL.out, Or.inr (Or.inr hx.out)⟩⟩, out_none _ _, g3.out.trans f4⟩
    · have hs := Lib.hid (show l1 ≠ [] → l2 ≠ [] → sless lo up from fun k1 k2 =>
        (stand_iff (C1.out.yes.resolve_left fun h => k1 h.1).2 (C2.out.yes.resolve_left fun h => k2 h.1).2).1 (Classical.byContradiction fun hc => hno ⟨fun e => k1 (Z1.out.1 e), fun e => k2 (Z2.out.1 e), hc⟩))
      have hq := Lib.hid (show lo = [] ∨ up = [] ∨ sless lo up from by
        rcases C1.out.yes with ⟨_, h⟩ | ⟨k1, _⟩
        · exact Or.inl h
        · rcases C2.out.yes with ⟨_, h⟩ | ⟨k2, _⟩
          · exact Or.inr (Or.inl h)
          · exact Or.inr (Or.inr (hs.out k1 k2)))
      have HNO := Lib.hid hno
      clear hno
      obtain ⟨k, hk, P⟩ := parts_ex lo up
      have HP := Lib.hid P
      have hk2 := Lib.hid (show k ≤ 512 from by have := e1.out; have := e2.out; omega)
      have cSh := Lib.hid (fun w' => shortest_any w' lo up k HP.out hq.out C2.out.ok (by have := e1.out; omega) (by have := e2.out; omega) (by have := hk2.out; omega))
      have hen := Lib.hid (show (enc (pp ++ [preS lo k ++ [true]])).length ≤ 3000 from by
        rw [enc_append, enc_one, List.length_append, wr_length, mid_len]
        have := HL.out.most
        have := hk2.out
        omega)
      have HOKS := Lib.hid (show ∀ s ∈ pp ++ [preS lo k ++ [true]], okS s from fun s hs => by
        rcases List.mem_append.1 hs with h | h
        · exact HL.out.ok s h
        · rw [List.mem_singleton.1 h]; exact okS_true _)
      have hfin := Lib.hid (fun (E : Int) (B : List UInt8) (h : (E = 0 ∧ Lab B (pp ++ [preS lo k ++ [true]])) ∨ (E = 140 ∧ B = [] ∧ 1024 < (enc (pp ++ [preS lo k ++ [true]])).length)) => (show BetwTo l0 l1 l2 E B from Or.inl ⟨pp, lo, up, k, HL.out, C1.out, C2.out, hs.out, HP.out, h⟩))
      clear hk P
      by_cases z1 : n1 = 0
      · have z1' : ¬ 0 < n1 := by omega
        clear z1
        go_wp2_with (first
          | (refine wp_appSs rfl _ _ rfl w3 _ [] rfl (strs_empty (Fr.refl [] w3)) ((Fr.refl [] w3).alloc _) w _ (pp.map sT) rfl (HSS3.out.kept0 ((Fr.refl [] w3).alloc _)) (by rw [List.length_map, HN.out]; have := hn2.out; simp; omega) ?_; intro v5 w5 o5 f5; have O5 := Lib.hid o5; have F5 := Lib.hid f5; clear o5 f5)
          | (go_at_call 47; refine (cSh.out _).mono ?_; rintro e w6 ⟨rfl, f6⟩; have O6 := Lib.hid (O5.out.kept0 f6); have F6 := Lib.hid (F5.out.trans f6); clear f6)
          | (refine wp_appS rfl _ _ rfl w3 _ ([] ++ pp.map sT) rfl (O6.out.kept0 ((Fr.refl [] w6).alloc _)) (F6.out.alloc _).size w6.heap.size 1 (sT (preS lo k ++ [true])) rfl (strs_lit' _ _) (by rw [List.nil_append, List.length_map, HN.out]; have := hn2.out; omega) (F6.out.alloc _) ?_; intro v7 w7 o7 f7; obtain ⟨ad7, cap7, rfl, hS7⟩ := o7.row; have F7 := Lib.hid f7; have HS7 := Lib.hid (show StrAt w7 ad7 ((pp ++ [preS lo k ++ [true]]).map sT) from by simpa using hS7); clear o7 f7 hS7)
          | (go_at_call 32; refine (rlabel_any _ ad7 _ cap7 (pp ++ [preS lo k ++ [true]]) (by simp) HS7.out hen.out HOKS.out).mono ?_; rintro e w8 ⟨hd8, f8⟩; have F8 := Lib.hid (g3.out.trans (F7.out.trans f8)); have F9 := Lib.hid (g3.out.trans F7.out); rcases hd8 with ⟨hle8, v8, l8, rfl, hL8, hO8⟩ | ⟨hgt8, rfl⟩))
        · go_ret2
          exact ⟨_, 0, l8, rfl, hfin.out _ _ (Or.inl ⟨rfl, hL8⟩), hO8.from F9.out, F8.out⟩
        · go_ret2
          exact ⟨_, 140, [], rfl, hfin.out _ _ (Or.inr ⟨rfl, rfl, hgt8⟩), out_none _ _, F8.out⟩
      · by_cases z2 : n2 = 0
        · have z1' : 0 < n1 := by omega
          have z2' : ¬ 0 < n2 := by omega
          clear z1 z2
          go_wp2_with (first
            | (refine wp_appSs rfl _ _ rfl w3 _ [] rfl (strs_empty (Fr.refl [] w3)) ((Fr.refl [] w3).alloc _) w _ (pp.map sT) rfl (HSS3.out.kept0 ((Fr.refl [] w3).alloc _)) (by rw [List.length_map, HN.out]; have := hn2.out; simp; omega) ?_; intro v5 w5 o5 f5; have O5 := Lib.hid o5; have F5 := Lib.hid f5; clear o5 f5)
            | (go_at_call 47; refine (cSh.out _).mono ?_; rintro e w6 ⟨rfl, f6⟩; have O6 := Lib.hid (O5.out.kept0 f6); have F6 := Lib.hid (F5.out.trans f6); clear f6)
            | (refine wp_appS rfl _ _ rfl w3 _ ([] ++ pp.map sT) rfl (O6.out.kept0 ((Fr.refl [] w6).alloc _)) (F6.out.alloc _).size w6.heap.size 1 (sT (preS lo k ++ [true])) rfl (strs_lit' _ _) (by rw [List.nil_append, List.length_map, HN.out]; have := hn2.out; omega) (F6.out.alloc _) ?_; intro v7 w7 o7 f7; obtain ⟨ad7, cap7, rfl, hS7⟩ := o7.row; have F7 := Lib.hid f7; have HS7 := Lib.hid (show StrAt w7 ad7 ((pp ++ [preS lo k ++ [true]]).map sT) from by simpa using hS7); clear o7 f7 hS7)
            | (go_at_call 32; refine (rlabel_any _ ad7 _ cap7 (pp ++ [preS lo k ++ [true]]) (by simp) HS7.out hen.out HOKS.out).mono ?_; rintro e w8 ⟨hd8, f8⟩; have F8 := Lib.hid (g3.out.trans (F7.out.trans f8)); have F9 := Lib.hid (g3.out.trans F7.out); rcases hd8 with ⟨hle8, v8, l8, rfl, hL8, hO8⟩ | ⟨hgt8, rfl⟩))
          · go_ret2
            exact ⟨_, 0, l8, rfl, hfin.out _ _ (Or.inl ⟨rfl, hL8⟩), hO8.from F9.out, F8.out⟩
          · go_ret2
            exact ⟨_, 140, [], rfl, hfin.out _ _ (Or.inr ⟨rfl, rfl, hgt8⟩), out_none _ _, F8.out⟩
        · have z1' : 0 < n1 := by omega
          have z2' : 0 < n2 := by omega
          have cl := Lib.hid (fun w' => less_yes (Classical.byContradiction fun hc => HNO.out ⟨z1, z2, hc⟩) w' (by have := e1.out; omega) (by have := e2.out; omega))
          clear z1 z2
          go_wp2_with fail
          refine (cl.out _).mono ?_
          rintro e w4 ⟨rfl, f4⟩
          have HSS4 := Lib.hid (HSS3.out.kept0 f4)
          have g4 := Lib.hid (g3.out.trans f4)
          clear f4
          go_wp2_with (first
            | (refine wp_appSs rfl _ _ rfl w4 _ [] rfl (strs_empty (Fr.refl [] w4)) ((Fr.refl [] w4).alloc _) w _ (pp.map sT) rfl (HSS4.out.kept0 ((Fr.refl [] w4).alloc _)) (by rw [List.length_map, HN.out]; have := hn2.out; simp; omega) ?_; intro v5 w5 o5 f5; have O5 := Lib.hid o5; have F5 := Lib.hid f5; clear o5 f5)
            | (go_at_call 47; refine (cSh.out _).mono ?_; rintro e w6 ⟨rfl, f6⟩; have O6 := Lib.hid (O5.out.kept0 f6); have F6 := Lib.hid (F5.out.trans f6); clear f6)
            | (refine wp_appS rfl _ _ rfl w4 _ ([] ++ pp.map sT) rfl (O6.out.kept0 ((Fr.refl [] w6).alloc _)) (F6.out.alloc _).size w6.heap.size 1 (sT (preS lo k ++ [true])) rfl (strs_lit' _ _) (by rw [List.nil_append, List.length_map, HN.out]; have := hn2.out; omega) (F6.out.alloc _) ?_; intro v7 w7 o7 f7; obtain ⟨ad7, cap7, rfl, hS7⟩ := o7.row; have F7 := Lib.hid f7; have HS7 := Lib.hid (show StrAt w7 ad7 ((pp ++ [preS lo k ++ [true]]).map sT) from by simpa using hS7); clear o7 f7 hS7)
            | (go_at_call 32; refine (rlabel_any _ ad7 _ cap7 (pp ++ [preS lo k ++ [true]]) (by simp) HS7.out hen.out HOKS.out).mono ?_; rintro e w8 ⟨hd8, f8⟩; have F8 := Lib.hid (g4.out.trans (F7.out.trans f8)); have F9 := Lib.hid (g4.out.trans F7.out); rcases hd8 with ⟨hle8, v8, l8, rfl, hL8, hO8⟩ | ⟨hgt8, rfl⟩))
          · go_ret2
            exact ⟨_, 0, l8, rfl, hfin.out _ _ (Or.inl ⟨rfl, hL8⟩), hO8.from F9.out, F8.out⟩
          · go_ret2
            exact ⟨_, 140, [], rfl, hfin.out _ _ (Or.inr ⟨rfl, rfl, hgt8⟩), out_none _ _, F8.out⟩
  · have HNO := Lib.hid hno
    clear hno
    go_wp2_with fail
    go_ret2
    exact ⟨_, 2, [], rfl, Or.inr ⟨rfl, rfl, Or.inl HNO.out⟩, out_none _ _, f1⟩
end Go.Proofs.YtddcilmeignlmaaGreatDoor

namespace Go.Proofs.YtddcilmeignlmaaGreatDoor
open Go.RowKit Go.Maps Go.Lib

set_option maxHeartbeats 8000000 in
set_option maxRecDepth 100000 in
theorem between_law (w : World) (hL : Laid w) (ad0 ad1 ad2 : Option Addr) (m0 c0 m1 c1 m2 c2 : Nat) (l0 l1 l2 : List UInt8) (hl0 : l0.length = m0) (hl1 : l1.length = m1) (hl2 : l2.length = m2) (hb0 : BytesAt w ad0 l0) (hb1 : BytesAt w ad1 l1) (hb2 : BytesAt w ad2 l2) (hc0 : ad0 = none → c0 = 0) (hc1 : ad1 = none → c1 = 0) (hc2 : ad2 = none → c2 = 0) (hm : m0 + m1 + m2 ≤ 1000) :
    Calls Tryz.prog 4 #[.slice ad0 m0 c0, .slice ad1 m1 c1, .slice ad2 m2 c2] w fun e w' => e = .returned (.bool true) ∧ Fr [] w w' := by
  have hm' : ¬ (1000 : Int) < (m0 : Int) + (m1 : Int) + (m2 : Int) := by omega
  have k0 : (m0 : Int) ≤ 1000 := by omega
  have k1 : (m1 : Int) ≤ 1000 := by omega
  have k2 : (m2 : Int) ≤ 1000 := by omega
  have cA := Lib.hid (awake_any w hL)
  have cL0 := Lib.hid (fun w' (f : Fr [] w w') => lent_both w' ad0 m0 c0 l0 hl0 (by omega) (hb0.kept f (by simp)) hc0)
  have cK0 := Lib.hid (fun w' (f : Fr [] w w') g cap (le : LentAt w' g cap l0) => kept_any w' g cap m0 c0 ad0 l0 hl0 (by omega) le (hb0.kept f (by simp)))
  have cL1 := Lib.hid (fun w' (f : Fr [] w w') => lent_both w' ad1 m1 c1 l1 hl1 (by omega) (hb1.kept f (by simp)) hc1)
  have cK1 := Lib.hid (fun w' (f : Fr [] w w') g cap (le : LentAt w' g cap l1) => kept_any w' g cap m1 c1 ad1 l1 hl1 (by omega) le (hb1.kept f (by simp)))
  have cL2 := Lib.hid (fun w' (f : Fr [] w w') => lent_both w' ad2 m2 c2 l2 hl2 (by omega) (hb2.kept f (by simp)) hc2)
  have cK2 := Lib.hid (fun w' (f : Fr [] w w') g cap (le : LentAt w' g cap l2) => kept_any w' g cap m2 c2 ad2 l2 hl2 (by omega) le (hb2.kept f (by simp)))
  have cP := Lib.hid (fun w' g0 cap0 (le0 : LentAt w' g0 cap0 l0) g1 cap1 (le1 : LentAt w' g1 cap1 l1) g2 cap2 (le2 : LentAt w' g2 cap2 l2) => betweenP_any w' (some ⟨g0, 0, none⟩) (some ⟨g1, 0, none⟩) (some ⟨g2, 0, none⟩) m0 m1 m2 cap0 cap1 cap2 l0 l1 l2 hl0 hl1 hl2 le0.bytes le1.bytes le2.bytes (Or.inr ⟨g0, 0, rfl⟩) (Or.inr ⟨g1, 0, rfl⟩) (Or.inr ⟨g2, 0, rfl⟩) (by omega) (by omega) (by omega))
  have dP := Lib.hid (fun w' (f : Fr [] w w') => rbetween_any w' ad0 ad1 ad2 m0 m1 m2 c0 c1 c2 l0 l1 l2 hl0 hl1 hl2 (hb0.kept f (by simp)) (hb1.kept f (by simp)) (hb2.kept f (by simp)))
  clear hL hl0 hl1 hl2 hb0 hb1 hb2 hc0 hc1 hc2 hm
  go_enter Tryz.func4, Tryz.ntmps4
  go_wp2_with fail
  refine (cA.out).mono ?_
  rintro e w1 ⟨rfl, f1⟩
  have FF := Lib.hid f1
  clear f1
  go_wp2_with fail
  refine (cL0.out _ FF.out).mono ?_
  rintro e w2 ⟨g0, cap0, rfl, le2, hg, f2⟩
  replace FF := Lib.hid (FF.out.trans f2)
  have L0 := Lib.hid le2
  clear le2 f2 hg
  go_wp2_with fail
  refine (cL1.out _ FF.out).mono ?_
  rintro e w3 ⟨g1, cap1, rfl, le3, hg, f3⟩
  replace FF := Lib.hid (FF.out.trans f3)
  replace L0 := Lib.hid (L0.out.kept f3 (by simp))
  have L1 := Lib.hid le3
  clear le3 f3 hg
  go_wp2_with fail
  refine (cL2.out _ FF.out).mono ?_
  rintro e w4 ⟨g2, cap2, rfl, le4, hg, f4⟩
  replace FF := Lib.hid (FF.out.trans f4)
  replace L0 := Lib.hid (L0.out.kept f4 (by simp))
  replace L1 := Lib.hid (L1.out.kept f4 (by simp))
  have L2 := Lib.hid le4
  clear le4 f4 hg
  go_wp2_with fail
  refine (cP.out _ g0 cap0 L0.out g1 cap1 L1.out g2 cap2 L2.out).mono ?_
  rintro e w5 ⟨v5, E5, P5, rfl, i5, o5, f5⟩
  replace FF := Lib.hid (FF.out.trans f5)
  replace L0 := Lib.hid (L0.out.kept f5 (by simp))
  replace L1 := Lib.hid (L1.out.kept f5 (by simp))
  replace L2 := Lib.hid (L2.out.kept f5 (by simp))
  have I5 := Lib.hid i5
  have O5 := Lib.hid o5
  clear i5 o5 f5
  go_wp2_with fail
  refine (dP.out _ FF.out).mono ?_
  rintro e w6 ⟨v6, E6, P6, rfl, i6, o6, f6⟩
  obtain ⟨rfl, rfl⟩ := I5.out.one i6
  replace FF := Lib.hid (FF.out.trans f6)
  replace L0 := Lib.hid (L0.out.kept f6 (by simp))
  replace L1 := Lib.hid (L1.out.kept f6 (by simp))
  replace L2 := Lib.hid (L2.out.kept f6 (by simp))
  replace O5 := Lib.hid (O5.out.kept f6)
  have O6 := Lib.hid o6
  clear i6 o6 f6
  go_wp2_with fail
  refine (same_out O5.out O6.out I5.out.len).mono ?_
  rintro e w7 ⟨rfl, f7⟩
  replace FF := Lib.hid (FF.out.trans f7)
  replace L0 := Lib.hid (L0.out.kept f7 (by simp))
  replace L1 := Lib.hid (L1.out.kept f7 (by simp))
  replace L2 := Lib.hid (L2.out.kept f7 (by simp))
  clear f7
  go_wp2_with fail
  refine (cK0.out _ FF.out g0 cap0 L0.out).mono ?_
  rintro e w8 ⟨rfl, f8⟩
  replace FF := Lib.hid (FF.out.trans f8)
  replace L1 := Lib.hid (L1.out.kept f8 (by simp))
  replace L2 := Lib.hid (L2.out.kept f8 (by simp))
  clear f8
  go_wp2_with fail
  refine (cK1.out _ FF.out g1 cap1 L1.out).mono ?_
  rintro e w9 ⟨rfl, f9⟩
  replace FF := Lib.hid (FF.out.trans f9)
  replace L2 := Lib.hid (L2.out.kept f9 (by simp))
  clear f9
  go_wp2_with fail
  refine (cK2.out _ FF.out g2 cap2 L2.out).mono ?_
  rintro e w10 ⟨rfl, f10⟩
  replace FF := Lib.hid (FF.out.trans f10)
  clear f10
  go_wp2_with fail
  go_ret
  exact ⟨rfl, FF.out⟩
set_option maxHeartbeats 2000000 in
theorem between_long (w : World) (hL : Laid w) (ad0 ad1 ad2 : Option Addr) (m0 c0 m1 c1 m2 c2 : Nat) (hm : 1000 < m0 + m1 + m2) (hz0 : m0 < 140737488355328) (hz1 : m1 < 140737488355328) (hz2 : m2 < 140737488355328) :
    Calls Tryz.prog 4 #[.slice ad0 m0 c0, .slice ad1 m1 c1, .slice ad2 m2 c2] w fun e w' => e = .returned (.bool true) ∧ Fr [] w w' := by
  have hm' : (1000 : Int) < (m0 : Int) + (m1 : Int) + (m2 : Int) := by omega
  have k0 : (m0 : Int) < 140737488355328 := by omega
  have k1 : (m1 : Int) < 140737488355328 := by omega
  have k2 : (m2 : Int) < 140737488355328 := by omega
  have cA := Lib.hid (awake_any w hL)
  clear hL hm hz0 hz1 hz2
  go_enter Tryz.func4, Tryz.ntmps4
  go_wp2_with fail
  refine (cA.out).mono ?_
  rintro e w1 ⟨rfl, f1⟩
  go_wp2_with fail
  go_ret
  exact ⟨rfl, f1⟩
end Go.Proofs.YtddcilmeignlmaaGreatDoor

