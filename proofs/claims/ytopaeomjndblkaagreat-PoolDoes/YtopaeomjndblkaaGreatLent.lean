/-
  The laws' own helpers on bytes that are handed in: marks, LentBytes, KeptBytes, OverBytes.
-/
import Derived.Test.YtopaeomjndblkaaGreatBase
import Derived.Deep.AppendLies
import Derived.Laws.MakeOwn
import Derived.Laws.AppendOwnNone
namespace Go.Proofs.YtopaeomjndblkaaGreat
open Go.RowKit Go.Maps

set_option maxHeartbeats 400000 in
theorem mark_any (w : World) (k i : Int) (hk0 : 0 ≤ k) (hk1 : k ≤ 100) (hi0 : 0 ≤ i) (hi1 : i ≤ 1000000) :
    Calls Tryz.prog 266 #[.int .i64 k, .int .i64 i] w fun e w' => e = .returned (.int .i64 (1000003 * (k + 7) + i)) ∧ w' = w := by
  go_enter Tryz.func266, Tryz.ntmps266
  go_wp2
  go_ret
  exact ⟨rfl, rfl⟩

/-- The mark of a place in a list of bytes. -/
def mB (k i : Int) : Int := IntKind.u64.wrap ((1000003 * (k + 7) + i) * 11400714819323198485) / 72057594037927936 % 256
theorem mB_range (k i : Int) : 0 ≤ mB k i ∧ mB k i < 256 := by unfold mB; omega

set_option maxHeartbeats 400000 in
theorem markByte_any (w : World) (k i : Int) (hk0 : 0 ≤ k) (hk1 : k ≤ 100) (hi0 : 0 ≤ i) (hi1 : i ≤ 1000000) :
    Calls Tryz.prog 230 #[.int .i64 k, .int .i64 i] w fun e w' => e = .returned (.int .u8 (mB k i)) ∧ w = w' := by
  go_enter Tryz.func230, Tryz.ntmps230
  go_wp2_with (go_at_call 266; refine (mark_any _ k i hk0 hk1 hi0 hi1).mono ?_; rintro e w ⟨rfl, rfl⟩)
  go_ret
  exact ⟨rfl, rfl⟩

theorem markByte_eq (w : World) (k i : Int) (hk0 : 0 ≤ k) (hk1 : k ≤ 100) (hi0 : 0 ≤ i) (hi1 : i ≤ 1000000) :
    Calls Tryz.prog 230 #[.int .i64 k, .int .i64 i] w fun e w' => e = .returned (.int .u8 (mB k i)) ∧ w' = w :=
  (markByte_any w k i hk0 hk1 hi0 hi1).mono fun _ _ h => ⟨h.1, h.2.symm⟩

section
variable {ops : Array Oper} {rest : List Oper} {o : Oper} {a : Act} {w : World} {Q : Exit → Act → World → Prop}

/-- A slice of bytes that is new since w0, with what it holds. -/
def Own (w0 w : World) (v : Value) (n : Nat) (xs : List Value) : Prop := w.ownsRow w0.heap.size 5 1 v n xs ∧ Fr [] w0 w

theorem Own.kept {w0 w w' : World} {v : Value} {n : Nat} {xs : List Value} (h : Own w0 w v n xs) (k : Fr [] w w') : Own w0 w' v n xs := by
  refine ⟨?_, h.2.trans k⟩
  obtain ⟨h1, h2⟩ := h.1
  refine ⟨h1, ?_⟩
  rcases h2 with hn | ⟨g, cap, cur, rfl, hb, hg, r⟩
  · exact Or.inl hn
  · exact Or.inr ⟨g, cap, cur, rfl, hb, k.same (by simp) hg, r⟩

theorem wp_make0 (hgd : o.guard = none) (x y : Operand) (ho : o.op = .makeSlice 37 x y) (c : Nat) (hx : a.eval x = .int .i64 0) (hy : a.eval y = .int .i64 (c : Int)) (hc : c ≤ 1000000) (w0 : World) (f0 : Fr [] w0 w)
    (h : ∀ w', Own w0 w' (.slice (some ⟨w.heap.size, 0, none⟩) 0 c) 0 [] → wpList Tryz.prog ops Q rest (a.put o.dst (.slice (some ⟨w.heap.size, 0, none⟩) 0 c)) w') : wpList Tryz.prog ops Q (o :: rest) a w :=
  wpList_plain hgd fun K hK => by
    obtain ⟨i, hi, hz, hs, hb⟩ := info5'
    obtain ⟨w', hrun, hown, hg⟩ := run_makeSlice_owned (P := Tryz.prog) w w0.heap.size 37 5 i (.int .u8 0) 1 Tryz.underlying37 hi hz hs .i64 .i64 c (by omega) (by rw [hb]; omega) (by unfold maxLen; omega) f0.size
    unfold Oper.wp execOp
    simp [ho, hx, hy, hrun, Result.andThen]
    exact hK _ _ (h _ ⟨hown, f0.grown hg (fun j e => nomatch e)⟩)

/-- append of bytes to a slice that is new since w0. -/
theorem run_app (ty : TypeId) (w0 : World) (v : Value) (n : Nat) (xs : List Value) (hown : Own w0 w v n xs) (ad : Option Addr) (m c : Nat) (l : List UInt8) (hl : l.length = m) (hsrc : BytesAt w ad l) (hm : n + m ≤ 1000000)
    (hne : m = 0 → (∃ x, ad = some x) ) :
    ∃ v' w', (Builtin.append_ #[37, 37] ty #[v, .slice ad m c]).run Tryz.prog w = .ok v' w' ∧ Own w0 w' v' (n + m) (xs ++ (arr l).toList) := by
  obtain ⟨i, hi, hz, hs, hb⟩ := info5'
  have hlen : (arr l).toList.length = m * 1 := by simp [arr, hl]
  obtain ⟨a0, rfl⟩ : ∃ a0, ad = some a0 := by
    by_cases e : m = 0
    · exact hne e
    · have h0 : 0 < l.length := by omega
      obtain ⟨b, off, e, _⟩ := hsrc 0 (.int .u8 l[0].toNat) (by simp [arr, h0])
      exact ⟨_, e⟩
  obtain ⟨v', w', hrun, h2, h3, _, _⟩ := run_append_own_at (P := Tryz.prog) w w0.heap.size 37 ty 5 i (.int .u8 0) 1 1 Tryz.underlying37 hi hz hs hb rfl (by omega) v n xs hown.1 a0 m c (arr l).toList hlen
    (by
      intro j u hu
      obtain ⟨b, off, e, hc⟩ := hsrc j u hu
      cases e
      rw [Addr.add_mid]
      exact hc) (arr_one l) (by unfold maxLen; omega) (by omega) hown.2.size
  exact ⟨v', w', hrun, h2, hown.2.grown h3 (fun j e hj => by
    have := (hown.1.lt j e).1
    omega)⟩

theorem wp_app (hgd : o.guard = none) (s x : Operand) (ho : o.op = .call { callee := .builtin .append, args := #[s, x], argTypes := #[37, 37] }) (w0 : World) (v : Value) (n : Nat) (xs : List Value) (hs : a.eval s = v) (hown : Own w0 w v n xs)
    (ad : Option Addr) (m c : Nat) (l : List UInt8) (hx : a.eval x = .slice ad m c) (hl : l.length = m) (hsrc : BytesAt w ad l) (hm : n + m ≤ 1000000) (hne : m = 0 → (∃ x, ad = some x))
    (h : ∀ v' w', Own w0 w' v' (n + m) (xs ++ (arr l).toList) → wpList Tryz.prog ops Q rest (a.put o.dst v') w') : wpList Tryz.prog ops Q (o :: rest) a w :=
  wpList_plain hgd fun K hK => by
    obtain ⟨v', w', hrun, hown'⟩ := run_app o.type w0 v n xs hown ad m c l hl hsrc hm hne
    unfold Oper.wp execOp
    simp [ho, resolve, invoke, builtin, hs, hx, hrun, Result.andThen]
    exact hK _ _ (h _ _ hown')

end

/-- Bytes that are handed in, with marks behind their end. -/
def mkL (k : Int) (j : Nat) : List UInt8 := (List.range j).map fun i => UInt8.ofNat (mB k (i : Nat)).toNat
theorem mkL_length (k : Int) (j : Nat) : (mkL k j).length = j := by simp [mkL]
theorem mkL_succ (k : Int) (j : Nat) : mkL k (j + 1) = mkL k j ++ [UInt8.ofNat (mB k (j : Nat)).toNat] := by simp [mkL, List.range_succ]
theorem mkL_at (k : Int) (j m : Nat) (h : j < m) : (mkL k m)[j]?.map (fun b => (b.toNat : Int)) = some (mB k j) := by
  have := mB_range k j
  simp [mkL, List.getElem?_range h]
  omega

structure LentAt (w : World) (g cap : Nat) (l : List UInt8) : Prop where
  ex : ∃ cur, w.heap[g]? = some (.cells cur 5) ∧ cur.toList.take (l.length + 12) = (arr (l ++ mkL 1 12)).toList ∧ cur.size = cap
  cap : l.length + 12 ≤ cap

theorem oneByte (x : Int) (h0 : 0 ≤ x) (h1 : x < 256) (w : World) : BytesAt (w.alloc (.cells #[.int .u8 x] 5)) (some ⟨w.heap.size, 0, none⟩) [UInt8.ofNat x.toNat] := by
  intro j v hv
  have hx : ((UInt8.ofNat x.toNat).toNat : Int) = x := by rw [UInt8.toNat_ofNat']; omega
  cases j with
  | zero =>
    simp [arr] at hv
    refine ⟨w.heap.size, 0, rfl, ?_⟩
    rw [cell_of_row _ _ _ _ _ _ (heap_alloc_new w _), ← hv]
    simp
    omega
  | succ j => simp [arr] at hv

set_option maxHeartbeats 1000000 in
set_option maxRecDepth 100000 in
theorem lent_any (w : World) (a0 : Addr) (n c : Nat) (l : List UInt8) (hl : l.length = n) (hn : n ≤ 5000) (hsrc : BytesAt w (some a0) l) :
    Calls Tryz.prog 178 #[.slice (some a0) n c] w fun e w' => ∃ g cap, e = .returned (.slice (some ⟨g, 0, none⟩) n cap) ∧ LentAt w' g cap l ∧ w.heap.size ≤ g ∧ Fr [] w w' := by
  have HL : Hid (l.length = n) := hl
  have hn' : (n : Int) ≤ 5000 := by omega
  have hn0 : (0 : Int) ≤ (n : Int) := by omega
  clear hl
  go_enter Tryz.func178, Tryz.ntmps178
  go_wp2_with (first
    | (refine wp_make0 rfl _ _ rfl (n + 12) rfl (by rfl) (by omega) w (Fr.refl _ _) ?_; intro w1 o1)
    | (refine wp_app rfl _ _ rfl w _ 0 [] rfl o1 _ n _ l rfl HL.out (hsrc.kept o1.2 (by simp)) (by omega) (fun _ => ⟨_, rfl⟩) ?_; intro v2 w2 o2)
    | go_in)
  go_loopw [3, 4] (fun v i wr => ∃ j : Nat, j ≤ 12 ∧ i = .int .i64 j ∧ Own w wr v (n + j) (arr (l ++ mkL 1 j)).toList) (fun _ i _ => 12 - (intOf i).toNat)
  case atStart => exact ⟨0, by omega, rfl, by simpa [mkL] using o2⟩
  case round =>
    obtain ⟨j, hj, rfl, ow⟩ := hrel
    by_cases hlt : j < 12
    · have hlt' : (j : Int) < 12 := by omega
      have hj0 : (0 : Int) ≤ (j : Int) := by omega
      obtain ⟨m0, m1⟩ := mB_range 1 j
      go_wp2_with (first
        | (go_at_call 230; refine (markByte_any _ 1 j (by omega) (by omega) hj0 (by omega)).mono ?_; rintro e w5 ⟨rfl, rfl⟩)
        | (refine wp_app rfl _ _ rfl w _ (n + j) _ rfl (ow.kept ((Fr.refl [] wr).alloc _)) _ 1 _ [UInt8.ofNat (mB 1 j).toNat] rfl rfl (oneByte (mB 1 j) m0 m1 wr) (by omega) (fun h => absurd h (by omega)) ?_; intro v5 w5 o5)
        | go_in)
      refine ⟨⟨j + 1, by omega, by go_num, ?_⟩, by simp [intOf]; omega⟩
      rw [mkL_succ, ← List.append_assoc, ← arr_append]
      exact o5
    · obtain rfl : j = 12 := by omega
      have hpos : 0 < n + 12 := by omega
      obtain ⟨hle, hcase⟩ := ow.1
      rcases hcase with ⟨_, h0⟩ | ⟨g, cap, cur, hv, hb, hg, hcap, hmx, hsz, htk⟩
      · omega
      · subst hv
        have hcap' : (n : Int) ≤ (cap : Int) := by omega
        have hcz : ¬ cap = 0 := by omega
        go_wp2_with fail
        go_ret
        exact ⟨g, cap, rfl, ⟨⟨cur, hg, by rw [HL.out]; simpa using htk, by omega⟩, by rw [HL.out]; omega⟩, hb, ow.2⟩

set_option maxHeartbeats 1000000 in
set_option maxRecDepth 100000 in
theorem lent_nil (w : World) (n : Nat) (l : List UInt8) (hl : l.length = n) (hn : n ≤ 5000) (hn2 : n = 0) :
    Calls Tryz.prog 178 #[.slice none 0 0] w fun e w' => ∃ g cap, e = .returned (.slice (some ⟨g, 0, none⟩) 0 cap) ∧ LentAt w' g cap [] ∧ w.heap.size ≤ g ∧ Fr [] w w' := by
  subst hn2
  obtain rfl : l = [] := List.eq_nil_of_length_eq_zero hl
  obtain ⟨i, hi, hz, hs, hb⟩ := info5'
  have HL : Hid (([] : List UInt8).length = 0) := rfl
  have n0 : (0 : Nat) = 0 := rfl
  clear hl hn
  go_enter Tryz.func178, Tryz.ntmps178
  go_wp2_with (first
    | (refine wp_make0 rfl _ _ rfl 12 rfl (by rfl) (by omega) w (Fr.refl _ _) ?_; intro w1 o1)
    | (refine wpList_append_own_none rfl _ _ 37 rfl w.heap.size 5 i 1 Tryz.underlying37 hi _ 0 [] rfl o1.1 rfl ?_; have o2 := o1)
    | go_in)
  go_loopw [3, 4] (fun v i wr => ∃ j : Nat, j ≤ 12 ∧ i = .int .i64 j ∧ Own w wr v j (arr ([] ++ mkL 1 j)).toList) (fun _ i _ => 12 - (intOf i).toNat)
  case atStart => exact ⟨0, by omega, rfl, by simpa [mkL, arr] using o2⟩
  case round =>
    obtain ⟨j, hj, rfl, ow⟩ := hrel
    by_cases hlt : j < 12
    · have hlt' : (j : Int) < 12 := by omega
      have hj0 : (0 : Int) ≤ (j : Int) := by omega
      obtain ⟨m0, m1⟩ := mB_range 1 j
      go_wp2_with (first
        | (go_at_call 230; refine (markByte_any _ 1 j (by omega) (by omega) hj0 (by omega)).mono ?_; rintro e w5 ⟨rfl, rfl⟩)
        | (refine wp_app rfl _ _ rfl w _ j _ rfl (ow.kept ((Fr.refl [] wr).alloc _)) _ 1 _ [UInt8.ofNat (mB 1 j).toNat] rfl rfl (oneByte (mB 1 j) m0 m1 wr) (by omega) (fun h => absurd h (by omega)) ?_; intro v5 w5 o5)
        | go_in)
      refine ⟨⟨j + 1, by omega, by go_num, ?_⟩, by simp [intOf]; omega⟩
      rw [mkL_succ, ← List.append_assoc, ← arr_append]
      exact o5
    · obtain rfl : j = 12 := by omega
      have hpos : 0 < 12 := by omega
      obtain ⟨hle, hcase⟩ := ow.1
      rcases hcase with ⟨_, h0⟩ | ⟨g, cap, cur, hv, hb, hg, hcap, hmx, hsz, htk⟩
      · omega
      · subst hv
        have hcap' : (0 : Int) ≤ (cap : Int) := by omega
        have hcz : ¬ cap = 0 := by omega
        go_wp2_with fail
        go_ret
        exact ⟨g, cap, rfl, ⟨⟨cur, hg, by rw [HL.out]; simpa using htk, by omega⟩, by rw [HL.out]; omega⟩, hb, ow.2⟩

theorem LentAt.lt {w : World} {g cap : Nat} {l : List UInt8} (h : LentAt w g cap l) : g < w.heap.size := by
  obtain ⟨cur, hg, _⟩ := h.ex
  exact (Array.getElem?_eq_some_iff.1 hg).1
theorem LentAt.kept {w w' : World} {g cap : Nat} {l : List UInt8} {L : List Nat} (h : LentAt w g cap l) (k : Fr L w w') (hg : g ∉ L) : LentAt w' g cap l := by
  obtain ⟨cur, hc, r⟩ := h.ex
  exact ⟨⟨cur, k.same hg hc, r⟩, h.cap⟩
theorem LentAt.cell {w : World} {g cap : Nat} {l : List UInt8} (h : LentAt w g cap l) (j : Nat) (hj : j < l.length + 12) : w.cell? ⟨g, j, none⟩ = (arr (l ++ mkL 1 12)).toList[j]? := by
  obtain ⟨cur, hc, ht, _⟩ := h.ex
  rw [cell_of_row w g j _ _ _ hc, ← ht, List.getElem?_take, if_pos hj]
  simp
theorem LentAt.low {w : World} {g cap : Nat} {l : List UInt8} (h : LentAt w g cap l) (j : Nat) (hj : j < l.length) : w.cell? ⟨g, j, none⟩ = some (.int .u8 l[j].toNat) := by
  rw [h.cell j (by omega)]
  rw [← arr_append, List.getElem?_append_left (by simpa [arr] using hj)]
  simp [arr, hj]
theorem LentAt.high {w : World} {g cap : Nat} {l : List UInt8} (h : LentAt w g cap l) (j : Nat) (h0 : l.length ≤ j) (h1 : j < l.length + 12) : w.cell? ⟨g, j, none⟩ = some (.int .u8 (mB 1 ((j : Int) - (l.length : Int)))) := by
  rw [h.cell j h1]
  have hm := mkL_at 1 (j - l.length) 12 (by omega)
  have e : ((j - l.length : Nat) : Int) = (j : Int) - (l.length : Int) := by omega
  rw [e] at hm
  cases hx : (mkL 1 12)[j - l.length]? with
  | none => rw [hx] at hm; cases hm
  | some b =>
    rw [hx] at hm
    simp at hm
    rw [← arr_append, List.getElem?_append_right (by simpa [arr] using h0)]
    simp [arr, hx, hm]
theorem LentAt.bytes {w : World} {g cap : Nat} {l : List UInt8} (h : LentAt w g cap l) : BytesAt w (some ⟨g, 0, none⟩) l := by
  intro j v hv
  have hj : j < l.length := by
    have := (List.getElem?_eq_some_iff.1 hv).1
    simpa [arr] using this
  refine ⟨g, 0, rfl, ?_⟩
  rw [Nat.zero_add, h.low j hj, ← hv]
  simp [arr, hj]

set_option maxHeartbeats 2000000 in
set_option maxRecDepth 100000 in
theorem kept_any (w : World) (g cap n c : Nat) (ad : Option Addr) (l : List UInt8) (hl : l.length = n) (hn : n ≤ 5000) (hlent : LentAt w g cap l) (hsrc : BytesAt w ad l) :
    Calls Tryz.prog 180 #[.slice (some ⟨g, 0, none⟩) n cap, .slice ad n c] w fun e w' => e = .returned (.bool true) ∧ Fr [] w w' := by
  have hcap := hlent.cap
  rw [hl] at hcap
  have HL : Hid (l.length = n) := hl
  have hn' : (n : Int) ≤ 5000 := by omega
  have hn0 : (0 : Int) ≤ (n : Int) := by omega
  have hc1 : (n : Int) + 12 ≤ (cap : Int) := by omega
  have hcz : ¬ cap = 0 := by omega
  clear hl
  go_enter Tryz.func180, Tryz.ntmps180
  go_wp2_with fail
  go_loopw [6] (fun i wr => ∃ j : Nat, j ≤ n + 12 ∧ i = .int .i64 j ∧ Fr [] w wr) (fun i _ => n + 12 - (intOf i).toNat)
  case atStart => exact ⟨0, by omega, rfl, Fr.refl _ _⟩
  case round =>
    obtain ⟨j, hj, rfl, fr⟩ := hrel
    by_cases hlt : j < n + 12
    · have hlt' : (j : Int) < (n : Int) + 12 := by omega
      have hj0 : (0 : Int) ≤ (j : Int) := by omega
      by_cases hlow : j < n
      · have hlow' : (j : Int) < (n : Int) := by omega
        have hdl : decide ((j : Int) < (n : Int)) = true := by simpa using hlow
        have hdg : decide (n ≤ j) = false := by simp; omega
        have hdn : decide (j < n) = true := by simpa using hlow
        have gl : j < l.length := by rw [HL.out]; exact hlow
        have q1 := (hlent.kept fr (by simp)).low j gl
        obtain ⟨b2, o2, e2, q2⟩ := (hsrc.kept fr (by simp)) j (.int .u8 l[j].toNat) (by simp [arr, gl])
        subst e2
        generalize (l[j].toNat : Int) = x at q1 q2
        go_wp2_with fail
        go_quiet (fail)
        go_wp2_with fail
        exact ⟨⟨j + 1, by omega, by go_num, fr.drewN _⟩, by simp [intOf]; omega⟩
      · have hdl : decide ((j : Int) < (n : Int)) = false := by simp; omega
        have hge : (n : Int) ≤ (j : Int) := by omega
        have hdg : decide (n ≤ j) = true := by simp; omega
        have hdn : decide (j < n) = false := by simp; omega
        have q1 := (hlent.kept fr (by simp)).high j (by rw [HL.out]; omega) (by rw [HL.out]; omega)
        rw [HL.out] at q1
        go_wp2_with fail
        go_quiet ((go_at_call 230; exact Calls.quiet_of_same (markByte_eq _ 1 _ (by omega) (by omega) (by omega) (by omega))))
        go_wp2_with fail
        exact ⟨⟨j + 1, by omega, by go_num, fr.drewN _⟩, by simp [intOf]; omega⟩
    · obtain rfl : j = n + 12 := by omega
      go_wp2_with fail
      go_ret
      exact ⟨rfl, fr⟩

set_option maxHeartbeats 1000000 in
set_option maxRecDepth 100000 in
theorem same_len (w : World) (a1 a2 : Option Addr) (n1 n2 c1 c2 : Nat) (h : n1 ≠ n2) :
    Calls Tryz.prog 29 #[.slice a1 n1 c1, .slice a2 n2 c2] w fun e w' => e = .returned (.bool false) ∧ w' = w := by
  have hb : ((n1 : Int) == (n2 : Int)) = false := by simp; omega
  go_enter Tryz.func29, Tryz.ntmps29
  go_wp2
  go_ret
  exact ⟨rfl, rfl⟩

set_option maxHeartbeats 1000000 in
set_option maxRecDepth 100000 in
theorem same_any (w : World) (a1 a2 : Option Addr) (l1 l2 : List UInt8) (n c1 c2 : Nat) (h1 : BytesAt w a1 l1) (h2 : BytesAt w a2 l2) (n1 : l1.length = n) (n2 : l2.length = n) (hn : n ≤ 1000000) :
    Calls Tryz.prog 29 #[.slice a1 n c1, .slice a2 n c2] w fun e w' => e = .returned (.bool (l1 == l2)) ∧ Fr [] w w' := by
  have N1 : Hid (l1.length = n) := n1
  have N2 : Hid (l2.length = n) := n2
  clear n1 n2
  go_enter Tryz.func29, Tryz.ntmps29
  go_wp2
  go_loopw [5] (fun i wr => ∃ j : Nat, j ≤ n ∧ i = .int .i64 j ∧ l1.take j = l2.take j ∧ Fr [] w wr) (fun i _ => n - (intOf i).toNat)
  case atStart => exact ⟨0, by omega, rfl, by simp, Fr.refl _ _⟩
  case round =>
    obtain ⟨j, hj, rfl, ht, fr⟩ := hrel
    have HT : Hid (l1.take j = l2.take j) := ht
    clear ht
    by_cases hlt : j < n
    · have hlt' : (j : Int) < (n : Int) := by omega
      have hj0 : (0 : Int) ≤ (j : Int) := by omega
      have g1 : j < l1.length := by rw [N1.out]; exact hlt
      have g2 : j < l2.length := by rw [N2.out]; exact hlt
      obtain ⟨b1, o1, e1, q1⟩ := (h1.kept fr (by simp)) j (.int .u8 l1[j].toNat) (by simp [arr, g1])
      obtain ⟨b2, o2, e2, q2⟩ := (h2.kept fr (by simp)) j (.int .u8 l2[j].toNat) (by simp [arr, g2])
      subst e1 e2
      by_cases heq : l1[j] = l2[j]
      · have HQ : Hid (l1[j] = l2[j]) := heq
        have hbe : ((l1[j].toNat : Int) == (l2[j].toNat : Int)) = true := by rw [heq]; simp
        clear heq
        generalize hx1 : (l1[j].toNat : Int) = x1 at q1 hbe
        generalize hx2 : (l2[j].toNat : Int) = x2 at q2 hbe
        clear hx1 hx2
        go_wp2
        go_region_held3 (fun w' => w'.cell? ⟨b1, o1 + j, none⟩ = some (.int .u8 x1) ∧ w'.cell? ⟨b2, o2 + j, none⟩ = some (.int .u8 x2)) (go_keep) (fail)
        go_wp2
        refine ⟨⟨j + 1, by omega, by go_num, ?_, fr.drew⟩, by simp [intOf]; omega⟩
        rw [List.take_succ_eq_append_getElem g1, List.take_succ_eq_append_getElem g2, HT.out, HQ.out]
      · have hbe : ((l1[j].toNat : Int) == (l2[j].toNat : Int)) = false := by
          rw [beq_eq_false_iff_ne]
          intro e
          exact heq (UInt8.toNat_inj.1 (by omega))
        have HN : Hid ((l1 == l2) = false) := by
          show (l1 == l2) = false
          rw [beq_eq_false_iff_ne]
          intro e
          exact heq (by subst e; rfl)
        clear heq
        generalize hx1 : (l1[j].toNat : Int) = x1 at q1 hbe
        generalize hx2 : (l2[j].toNat : Int) = x2 at q2 hbe
        clear hx1 hx2
        go_wp2
        go_region_held3 (fun w' => w'.cell? ⟨b1, o1 + j, none⟩ = some (.int .u8 x1) ∧ w'.cell? ⟨b2, o2 + j, none⟩ = some (.int .u8 x2)) (go_keep) (fail)
        go_wp2
        go_ret
        exact ⟨by rw [HN.out]; rfl, fr.drew⟩
    · obtain rfl : j = n := by omega
      have HN : Hid ((l1 == l2) = true) := by
        show (l1 == l2) = true
        rw [beq_iff_eq]
        have := HT.out
        rw [List.take_of_length_le (by rw [N1.out]; omega), List.take_of_length_le (by rw [N2.out]; omega)] at this
        exact this
      go_wp2
      go_ret
      exact ⟨by rw [HN.out]; rfl, fr⟩

set_option maxHeartbeats 1000000 in
set_option maxRecDepth 100000 in
theorem over_any (w : World) (g cap n : Nat) (l : List UInt8) (hl : l.length = n) (hn : n ≤ 5000) (hlent : LentAt w g cap l) :
    Calls Tryz.prog 181 #[.slice (some ⟨g, 0, none⟩) n cap] w fun e w' => e = .returned (.tuple #[]) ∧ Fr [g] w w' := by
  have hcap := hlent.cap
  rw [hl] at hcap
  have hn' : (n : Int) ≤ 5000 := by omega
  have hn0 : (0 : Int) ≤ (n : Int) := by omega
  have hc1 : (n : Int) + 12 ≤ (cap : Int) := by omega
  have hcz : ¬ cap = 0 := by omega
  obtain ⟨cur0, hg0, _, hs0⟩ := hlent.ex
  clear hl hlent
  go_enter Tryz.func181, Tryz.ntmps181
  go_wp2_with fail
  go_loopw [3] (fun i wr => ∃ j : Nat, j ≤ n + 12 ∧ i = .int .i64 j ∧ (∃ cur : Array Value, wr.heap[g]? = some (.cells cur 5) ∧ cap ≤ cur.size) ∧ Fr [g] w wr) (fun i _ => n + 12 - (intOf i).toNat)
  case atStart => exact ⟨0, by omega, rfl, ⟨cur0, hg0, by omega⟩, Fr.refl _ _⟩
  case round =>
    obtain ⟨j, hj, rfl, ⟨cur, hg, hs⟩, fr⟩ := hrel
    by_cases hlt : j < n + 12
    · have hlt' : (j : Int) < (n : Int) + 12 := by omega
      have hj0 : (0 : Int) ≤ (j : Int) := by omega
      have hc := cell_of_row wr g j cur 5 (0, 0) hg
      rw [Array.getElem?_eq_getElem (show j < cur.size by omega)] at hc
      have hfz := frozen_of_row wr g j cur 5 hg
      go_wp2_with (go_at_call 230; refine (markByte_any _ 2 j (by omega) (by omega) hj0 (by omega)).mono ?_; rintro e w5 ⟨rfl, rfl⟩)
      exact ⟨⟨j + 1, by omega, by go_num, ⟨_, heap_setCell_same wr g j cur 5 _ hg, by simpa using hs⟩, fr.setCell _ _ (by simp)⟩, by simp [intOf]; omega⟩
    · obtain rfl : j = n + 12 := by omega
      go_wp2_with fail
      go_end0
      exact ⟨rfl, fr⟩


end Go.Proofs.YtopaeomjndblkaaGreat
