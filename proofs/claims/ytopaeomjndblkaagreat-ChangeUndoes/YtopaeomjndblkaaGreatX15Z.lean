/-
  What a page tells: place, Check, Kind, Next, Count, Room, copied, Get, New.
-/
import Derived.Test.YtopaeomjndblkaaGreatX14Z
import Derived.Deep.AppendLies
import Derived.Laws.MakeOwn
import Derived.Laws.AppendOwnNone
namespace Go.Proofs.YtopaeomjndblkaaGreat.Pg
open Go.RowKit Go.Maps

set_option maxHeartbeats 400000 in
theorem mark_any (w : World) (k i : Int) (hk0 : 0 ≤ k) (hk1 : k ≤ 100) (hi0 : 0 ≤ i) (hi1 : i ≤ 1000000) :
    Calls Tryz.prog 266 #[.int .i64 k, .int .i64 i] w fun e w' => e = .returned (.int .i64 (1000003 * (k + 7) + i)) ∧ w' = w := by
  go_enter Tryz.func266, Tryz.ntmps266
  go_wp2
  go_ret
  exact ⟨rfl, rfl⟩

/-- The mark of a place in a list of bytes. -/
def mB (k i : Int) : Int := IntKind.u64.wrap ((1000003 * (k + 7) + i) * 11400714819323198485) / 72057594037927936 % 256
theorem mB_range (k i : Int) : 0 ≤ mB k i ∧ mB k i < 256 := by unfold mB; omega

set_option maxHeartbeats 400000 in
theorem markByte_any (w : World) (k i : Int) (hk0 : 0 ≤ k) (hk1 : k ≤ 100) (hi0 : 0 ≤ i) (hi1 : i ≤ 1000000) :
    Calls Tryz.prog 230 #[.int .i64 k, .int .i64 i] w fun e w' => e = .returned (.int .u8 (mB k i)) ∧ w = w' := by
  go_enter Tryz.func230, Tryz.ntmps230
  go_wp2_with (go_at_call 266; refine (mark_any _ k i hk0 hk1 hi0 hi1).mono ?_; rintro e w ⟨rfl, rfl⟩)
  go_ret
  exact ⟨rfl, rfl⟩

theorem markByte_eq (w : World) (k i : Int) (hk0 : 0 ≤ k) (hk1 : k ≤ 100) (hi0 : 0 ≤ i) (hi1 : i ≤ 1000000) :
    Calls Tryz.prog 230 #[.int .i64 k, .int .i64 i] w fun e w' => e = .returned (.int .u8 (mB k i)) ∧ w' = w :=
  (markByte_any w k i hk0 hk1 hi0 hi1).mono fun _ _ h => ⟨h.1, h.2.symm⟩

section
variable {ops : Array Oper} {rest : List Oper} {o : Oper} {a : Act} {w : World} {Q : Exit → Act → World → Prop}

/-- A slice of bytes that is new since w0, with what it holds. -/
def Own (w0 w : World) (v : Value) (n : Nat) (xs : List Value) : Prop := w.ownsRow w0.heap.size 5 1 v n xs ∧ Fr [] w0 w

theorem Own.kept {w0 w w' : World} {v : Value} {n : Nat} {xs : List Value} (h : Own w0 w v n xs) (k : Fr [] w w') : Own w0 w' v n xs := by
  refine ⟨?_, h.2.trans k⟩
  obtain ⟨h1, h2⟩ := h.1
  refine ⟨h1, ?_⟩
  rcases h2 with hn | ⟨g, cap, cur, rfl, hb, hg, r⟩
  · exact Or.inl hn
  · exact Or.inr ⟨g, cap, cur, rfl, hb, k.same (by simp) hg, r⟩

theorem wp_make0 (hgd : o.guard = none) (x y : Operand) (ho : o.op = .makeSlice 37 x y) (c : Nat) (hx : a.eval x = .int .i64 0) (hy : a.eval y = .int .i64 (c : Int)) (hc : c ≤ 1000000) (w0 : World) (f0 : Fr [] w0 w)
    (h : ∀ w', Own w0 w' (.slice (some ⟨w.heap.size, 0, none⟩) 0 c) 0 [] → wpList Tryz.prog ops Q rest (a.put o.dst (.slice (some ⟨w.heap.size, 0, none⟩) 0 c)) w') : wpList Tryz.prog ops Q (o :: rest) a w :=
  wpList_plain hgd fun K hK => by
    obtain ⟨i, hi, hz, hs, hb⟩ := info5'
    obtain ⟨w', hrun, hown, hg⟩ := run_makeSlice_owned (P := Tryz.prog) w w0.heap.size 37 5 i (.int .u8 0) 1 Tryz.underlying37 hi hz hs .i64 .i64 c (by omega) (by rw [hb]; omega) (by unfold maxLen; omega) f0.size
    unfold Oper.wp execOp
    simp [ho, hx, hy, hrun, Result.andThen]
    exact hK _ _ (h _ ⟨hown, f0.grown hg (fun j e => nomatch e)⟩)

/-- append of bytes to a slice that is new since w0. -/
theorem run_app (ty : TypeId) (w0 : World) (v : Value) (n : Nat) (xs : List Value) (hown : Own w0 w v n xs) (ad : Option Addr) (m c : Nat) (l : List UInt8) (hl : l.length = m) (hsrc : BytesAt w ad l) (hm : n + m ≤ 1000000)
    (hne : m = 0 → (∃ x, ad = some x) ) :
    ∃ v' w', (Builtin.append_ #[37, 37] ty #[v, .slice ad m c]).run Tryz.prog w = .ok v' w' ∧ Own w0 w' v' (n + m) (xs ++ (arr l).toList) := by
  obtain ⟨i, hi, hz, hs, hb⟩ := info5'
  have hlen : (arr l).toList.length = m * 1 := by simp [arr, hl]
  obtain ⟨a0, rfl⟩ : ∃ a0, ad = some a0 := by
    by_cases e : m = 0
    · exact hne e
    · have h0 : 0 < l.length := by omega
      obtain ⟨b, off, e, _⟩ := hsrc 0 (.int .u8 l[0].toNat) (by simp [arr, h0])
      exact ⟨_, e⟩
  obtain ⟨v', w', hrun, h2, h3, _, _⟩ := run_append_own_at (P := Tryz.prog) w w0.heap.size 37 ty 5 i (.int .u8 0) 1 1 Tryz.underlying37 hi hz hs hb rfl (by omega) v n xs hown.1 a0 m c (arr l).toList hlen
    (by
      intro j u hu
      obtain ⟨b, off, e, hc⟩ := hsrc j u hu
      cases e
      rw [Addr.add_mid]
      exact hc) (arr_one l) (by unfold maxLen; omega) (by omega) hown.2.size
  exact ⟨v', w', hrun, h2, hown.2.grown h3 (fun j e hj => by
    have := (hown.1.lt j e).1
    omega)⟩

theorem wp_app (hgd : o.guard = none) (s x : Operand) (ho : o.op = .call { callee := .builtin .append, args := #[s, x], argTypes := #[37, 37] }) (w0 : World) (v : Value) (n : Nat) (xs : List Value) (hs : a.eval s = v) (hown : Own w0 w v n xs)
    (ad : Option Addr) (m c : Nat) (l : List UInt8) (hx : a.eval x = .slice ad m c) (hl : l.length = m) (hsrc : BytesAt w ad l) (hm : n + m ≤ 1000000) (hne : m = 0 → (∃ x, ad = some x))
    (h : ∀ v' w', Own w0 w' v' (n + m) (xs ++ (arr l).toList) → wpList Tryz.prog ops Q rest (a.put o.dst v') w') : wpList Tryz.prog ops Q (o :: rest) a w :=
  wpList_plain hgd fun K hK => by
    obtain ⟨v', w', hrun, hown'⟩ := run_app o.type w0 v n xs hown ad m c l hl hsrc hm hne
    unfold Oper.wp execOp
    simp [ho, resolve, invoke, builtin, hs, hx, hrun, Result.andThen]
    exact hK _ _ (h _ _ hown')

end

/-- Bytes that are handed in, with marks behind their end. -/
def mkL (k : Int) (j : Nat) : List UInt8 := (List.range j).map fun i => UInt8.ofNat (mB k (i : Nat)).toNat
theorem mkL_length (k : Int) (j : Nat) : (mkL k j).length = j := by simp [mkL]
theorem mkL_succ (k : Int) (j : Nat) : mkL k (j + 1) = mkL k j ++ [UInt8.ofNat (mB k (j : Nat)).toNat] := by simp [mkL, List.range_succ]
theorem mkL_at (k : Int) (j m : Nat) (h : j < m) : (mkL k m)[j]?.map (fun b => (b.toNat : Int)) = some (mB k j) := by
  have := mB_range k j
  simp [mkL, List.getElem?_range h]
  omega

structure LentAt (w : World) (g cap : Nat) (l : List UInt8) : Prop where
  ex : ∃ cur, w.heap[g]? = some (.cells cur 5) ∧ cur.toList.take (l.length + 12) = (arr (l ++ mkL 1 12)).toList ∧ cur.size = cap
  cap : l.length + 12 ≤ cap

theorem oneByte (x : Int) (h0 : 0 ≤ x) (h1 : x < 256) (w : World) : BytesAt (w.alloc (.cells #[.int .u8 x] 5)) (some ⟨w.heap.size, 0, none⟩) [UInt8.ofNat x.toNat] := by
  intro j v hv
  have hx : ((UInt8.ofNat x.toNat).toNat : Int) = x := by rw [UInt8.toNat_ofNat']; omega
  cases j with
  | zero =>
    simp [arr] at hv
    refine ⟨w.heap.size, 0, rfl, ?_⟩
    rw [cell_of_row _ _ _ _ _ _ (heap_alloc_new w _), ← hv]
    simp
    omega
  | succ j => simp [arr] at hv

set_option maxHeartbeats 1000000 in
set_option maxRecDepth 100000 in
theorem lent_any (w : World) (a0 : Addr) (n c : Nat) (l : List UInt8) (hl : l.length = n) (hn : n ≤ 5000) (hsrc : BytesAt w (some a0) l) :
    Calls Tryz.prog 178 #[.slice (some a0) n c] w fun e w' => ∃ g cap, e = .returned (.slice (some ⟨g, 0, none⟩) n cap) ∧ LentAt w' g cap l ∧ w.heap.size ≤ g ∧ Fr [] w w' := by
  have HL : Hid (l.length = n) := hl
  have hn' : (n : Int) ≤ 5000 := by omega
  have hn0 : (0 : Int) ≤ (n : Int) := by omega
  clear hl
  go_enter Tryz.func178, Tryz.ntmps178
  go_wp2_with (first
    | (refine wp_make0 rfl _ _ rfl (n + 12) rfl (by rfl) (by omega) w (Fr.refl _ _) ?_; intro w1 o1)
    | (refine wp_app rfl _ _ rfl w _ 0 [] rfl o1 _ n _ l rfl HL.out (hsrc.kept o1.2 (by simp)) (by omega) (fun _ => ⟨_, rfl⟩) ?_; intro v2 w2 o2)
    | go_in)
  go_loopw [3, 4] (fun v i wr => ∃ j : Nat, j ≤ 12 ∧ i = .int .i64 j ∧ Own w wr v (n + j) (arr (l ++ mkL 1 j)).toList) (fun _ i _ => 12 - (intOf i).toNat)
  case atStart => exact ⟨0, by omega, rfl, by simpa [mkL] using o2⟩
  case round =>
    obtain ⟨j, hj, rfl, ow⟩ := hrel
    by_cases hlt : j < 12
    · have hlt' : (j : Int) < 12 := by omega
      have hj0 : (0 : Int) ≤ (j : Int) := by omega
      obtain ⟨m0, m1⟩ := mB_range 1 j
      go_wp2_with (first
        | (go_at_call 230; refine (markByte_any _ 1 j (by omega) (by omega) hj0 (by omega)).mono ?_; rintro e w5 ⟨rfl, rfl⟩)
        | (refine wp_app rfl _ _ rfl w _ (n + j) _ rfl (ow.kept ((Fr.refl [] wr).alloc _)) _ 1 _ [UInt8.ofNat (mB 1 j).toNat] rfl rfl (oneByte (mB 1 j) m0 m1 wr) (by omega) (fun h => absurd h (by omega)) ?_; intro v5 w5 o5)
        | go_in)
      refine ⟨⟨j + 1, by omega, by go_num, ?_⟩, by simp [intOf]; omega⟩
      rw [mkL_succ, ← List.append_assoc, ← arr_append]
      exact o5
    · obtain rfl : j = 12 := by omega
      have hpos : 0 < n + 12 := by omega
      obtain ⟨hle, hcase⟩ := ow.1
      rcases hcase with ⟨_, h0⟩ | ⟨g, cap, cur, hv, hb, hg, hcap, hmx, hsz, htk⟩
      · omega
      · subst hv
        have hcap' : (n : Int) ≤ (cap : Int) := by omega
        have hcz : ¬ cap = 0 := by omega
        go_wp2_with fail
        go_ret
        exact ⟨g, cap, rfl, ⟨⟨cur, hg, by rw [HL.out]; simpa using htk, by omega⟩, by rw [HL.out]; omega⟩, hb, ow.2⟩

set_option maxHeartbeats 1000000 in
set_option maxRecDepth 100000 in
theorem lent_nil (w : World) (n : Nat) (l : List UInt8) (hl : l.length = n) (hn : n ≤ 5000) (hn2 : n = 0) :
    Calls Tryz.prog 178 #[.slice none 0 0] w fun e w' => ∃ g cap, e = .returned (.slice (some ⟨g, 0, none⟩) 0 cap) ∧ LentAt w' g cap [] ∧ w.heap.size ≤ g ∧ Fr [] w w' := by
  subst hn2
  obtain rfl : l = [] := List.eq_nil_of_length_eq_zero hl
  obtain ⟨i, hi, hz, hs, hb⟩ := info5'
  have HL : Hid (([] : List UInt8).length = 0) := rfl
  have n0 : (0 : Nat) = 0 := rfl
  clear hl hn
  go_enter Tryz.func178, Tryz.ntmps178
  go_wp2_with (first
    | (refine wp_make0 rfl _ _ rfl 12 rfl (by rfl) (by omega) w (Fr.refl _ _) ?_; intro w1 o1)
    | (refine wpList_append_own_none rfl _ _ 37 rfl w.heap.size 5 i 1 Tryz.underlying37 hi _ 0 [] rfl o1.1 rfl ?_; have o2 := o1)
    | go_in)
  go_loopw [3, 4] (fun v i wr => ∃ j : Nat, j ≤ 12 ∧ i = .int .i64 j ∧ Own w wr v j (arr ([] ++ mkL 1 j)).toList) (fun _ i _ => 12 - (intOf i).toNat)
  case atStart => exact ⟨0, by omega, rfl, by simpa [mkL, arr] using o2⟩
  case round =>
    obtain ⟨j, hj, rfl, ow⟩ := hrel
    by_cases hlt : j < 12
    · have hlt' : (j : Int) < 12 := by omega
      have hj0 : (0 : Int) ≤ (j : Int) := by omega
      obtain ⟨m0, m1⟩ := mB_range 1 j
      go_wp2_with (first
        | (go_at_call 230; refine (markByte_any _ 1 j (by omega) (by omega) hj0 (by omega)).mono ?_; rintro e w5 ⟨rfl, rfl⟩)
        | (refine wp_app rfl _ _ rfl w _ j _ rfl (ow.kept ((Fr.refl [] wr).alloc _)) _ 1 _ [UInt8.ofNat (mB 1 j).toNat] rfl rfl (oneByte (mB 1 j) m0 m1 wr) (by omega) (fun h => absurd h (by omega)) ?_; intro v5 w5 o5)
        | go_in)
      refine ⟨⟨j + 1, by omega, by go_num, ?_⟩, by simp [intOf]; omega⟩
      rw [mkL_succ, ← List.append_assoc, ← arr_append]
      exact o5
    · obtain rfl : j = 12 := by omega
      have hpos : 0 < 12 := by omega
      obtain ⟨hle, hcase⟩ := ow.1
      rcases hcase with ⟨_, h0⟩ | ⟨g, cap, cur, hv, hb, hg, hcap, hmx, hsz, htk⟩
      · omega
      · subst hv
        have hcap' : (0 : Int) ≤ (cap : Int) := by omega
        have hcz : ¬ cap = 0 := by omega
        go_wp2_with fail
        go_ret
        exact ⟨g, cap, rfl, ⟨⟨cur, hg, by rw [HL.out]; simpa using htk, by omega⟩, by rw [HL.out]; omega⟩, hb, ow.2⟩

theorem LentAt.lt {w : World} {g cap : Nat} {l : List UInt8} (h : LentAt w g cap l) : g < w.heap.size := by
  obtain ⟨cur, hg, _⟩ := h.ex
  exact (Array.getElem?_eq_some_iff.1 hg).1
theorem LentAt.kept {w w' : World} {g cap : Nat} {l : List UInt8} {L : List Nat} (h : LentAt w g cap l) (k : Fr L w w') (hg : g ∉ L) : LentAt w' g cap l := by
  obtain ⟨cur, hc, r⟩ := h.ex
  exact ⟨⟨cur, k.same hg hc, r⟩, h.cap⟩
theorem LentAt.cell {w : World} {g cap : Nat} {l : List UInt8} (h : LentAt w g cap l) (j : Nat) (hj : j < l.length + 12) : w.cell? ⟨g, j, none⟩ = (arr (l ++ mkL 1 12)).toList[j]? := by
  obtain ⟨cur, hc, ht, _⟩ := h.ex
  rw [cell_of_row w g j _ _ _ hc, ← ht, List.getElem?_take, if_pos hj]
  simp
theorem LentAt.low {w : World} {g cap : Nat} {l : List UInt8} (h : LentAt w g cap l) (j : Nat) (hj : j < l.length) : w.cell? ⟨g, j, none⟩ = some (.int .u8 l[j].toNat) := by
  rw [h.cell j (by omega)]
  rw [← arr_append, List.getElem?_append_left (by simpa [arr] using hj)]
  simp [arr, hj]
theorem LentAt.high {w : World} {g cap : Nat} {l : List UInt8} (h : LentAt w g cap l) (j : Nat) (h0 : l.length ≤ j) (h1 : j < l.length + 12) : w.cell? ⟨g, j, none⟩ = some (.int .u8 (mB 1 ((j : Int) - (l.length : Int)))) := by
  rw [h.cell j h1]
  have hm := mkL_at 1 (j - l.length) 12 (by omega)
  have e : ((j - l.length : Nat) : Int) = (j : Int) - (l.length : Int) := by omega
  rw [e] at hm
  cases hx : (mkL 1 12)[j - l.length]? with
  | none => rw [hx] at hm; cases hm
  | some b =>
    rw [hx] at hm
    simp at hm
    rw [← arr_append, List.getElem?_append_right (by simpa [arr] using h0)]
    simp [arr, hx, hm]
theorem LentAt.bytes {w : World} {g cap : Nat} {l : List UInt8} (h : LentAt w g cap l) : BytesAt w (some ⟨g, 0, none⟩) l := by
  intro j v hv
  have hj : j < l.length := by
    have := (List.getElem?_eq_some_iff.1 hv).1
    simpa [arr] using this
  refine ⟨g, 0, rfl, ?_⟩
  rw [Nat.zero_add, h.low j hj, ← hv]
  simp [arr, hj]

set_option maxHeartbeats 2000000 in
set_option maxRecDepth 100000 in
theorem kept_any (w : World) (g cap n c : Nat) (ad : Option Addr) (l : List UInt8) (hl : l.length = n) (hn : n ≤ 5000) (hlent : LentAt w g cap l) (hsrc : BytesAt w ad l) :
    Calls Tryz.prog 180 #[.slice (some ⟨g, 0, none⟩) n cap, .slice ad n c] w fun e w' => e = .returned (.bool true) ∧ Fr [] w w' := by
  have hcap := hlent.cap
  rw [hl] at hcap
  have HL : Hid (l.length = n) := hl
  have hn' : (n : Int) ≤ 5000 := by omega
  have hn0 : (0 : Int) ≤ (n : Int) := by omega
  have hc1 : (n : Int) + 12 ≤ (cap : Int) := by omega
  have hcz : ¬ cap = 0 := by omega
  clear hl
  go_enter Tryz.func180, Tryz.ntmps180
  go_wp2_with fail
  go_loopw [6] (fun i wr => ∃ j : Nat, j ≤ n + 12 ∧ i = .int .i64 j ∧ Fr [] w wr) (fun i _ => n + 12 - (intOf i).toNat)
  case atStart => exact ⟨0, by omega, rfl, Fr.refl _ _⟩
  case round =>
    obtain ⟨j, hj, rfl, fr⟩ := hrel
    by_cases hlt : j < n + 12
    · have hlt' : (j : Int) < (n : Int) + 12 := by omega
      have hj0 : (0 : Int) ≤ (j : Int) := by omega
      by_cases hlow : j < n
      · have hlow' : (j : Int) < (n : Int) := by omega
        have hdl : decide ((j : Int) < (n : Int)) = true := by simpa using hlow
        have hdg : decide (n ≤ j) = false := by simp; omega
        have hdn : decide (j < n) = true := by simpa using hlow
        have gl : j < l.length := by rw [HL.out]; exact hlow
        have q1 := (hlent.kept fr (by simp)).low j gl
        obtain ⟨b2, o2, e2, q2⟩ := (hsrc.kept fr (by simp)) j (.int .u8 l[j].toNat) (by simp [arr, gl])
        subst e2
        generalize (l[j].toNat : Int) = x at q1 q2
        go_wp2_with fail
        go_quiet (fail)
        go_wp2_with fail
        exact ⟨⟨j + 1, by omega, by go_num, fr.drewN _⟩, by simp [intOf]; omega⟩
      · have hdl : decide ((j : Int) < (n : Int)) = false := by simp; omega
        have hge : (n : Int) ≤ (j : Int) := by omega
        have hdg : decide (n ≤ j) = true := by simp; omega
        have hdn : decide (j < n) = false := by simp; omega
        have q1 := (hlent.kept fr (by simp)).high j (by rw [HL.out]; omega) (by rw [HL.out]; omega)
        rw [HL.out] at q1
        go_wp2_with fail
        go_quiet ((go_at_call 230; exact Calls.quiet_of_same (markByte_eq _ 1 _ (by omega) (by omega) (by omega) (by omega))))
        go_wp2_with fail
        exact ⟨⟨j + 1, by omega, by go_num, fr.drewN _⟩, by simp [intOf]; omega⟩
    · obtain rfl : j = n + 12 := by omega
      go_wp2_with fail
      go_ret
      exact ⟨rfl, fr⟩

set_option maxHeartbeats 1000000 in
set_option maxRecDepth 100000 in
theorem same_len (w : World) (a1 a2 : Option Addr) (n1 n2 c1 c2 : Nat) (h : n1 ≠ n2) :
    Calls Tryz.prog 29 #[.slice a1 n1 c1, .slice a2 n2 c2] w fun e w' => e = .returned (.bool false) ∧ w' = w := by
  have hb : ((n1 : Int) == (n2 : Int)) = false := by simp; omega
  go_enter Tryz.func29, Tryz.ntmps29
  go_wp2
  go_ret
  exact ⟨rfl, rfl⟩

set_option maxHeartbeats 1000000 in
set_option maxRecDepth 100000 in
theorem same_any (w : World) (a1 a2 : Option Addr) (l1 l2 : List UInt8) (n c1 c2 : Nat) (h1 : BytesAt w a1 l1) (h2 : BytesAt w a2 l2) (n1 : l1.length = n) (n2 : l2.length = n) (hn : n ≤ 1000000) :
    Calls Tryz.prog 29 #[.slice a1 n c1, .slice a2 n c2] w fun e w' => e = .returned (.bool (l1 == l2)) ∧ Fr [] w w' := by
  have N1 : Hid (l1.length = n) := n1
  have N2 : Hid (l2.length = n) := n2
  clear n1 n2
  go_enter Tryz.func29, Tryz.ntmps29
  go_wp2
  go_loopw [5] (fun i wr => ∃ j : Nat, j ≤ n ∧ i = .int .i64 j ∧ l1.take j = l2.take j ∧ Fr [] w wr) (fun i _ => n - (intOf i).toNat)
  case atStart => exact ⟨0, by omega, rfl, by simp, Fr.refl _ _⟩
  case round =>
    obtain ⟨j, hj, rfl, ht, fr⟩ := hrel
    have HT : Hid (l1.take j = l2.take j) := ht
    clear ht
    by_cases hlt : j < n
    · have hlt' : (j : Int) < (n : Int) := by omega
      have hj0 : (0 : Int) ≤ (j : Int) := by omega
      have g1 : j < l1.length := by rw [N1.out]; exact hlt
      have g2 : j < l2.length := by rw [N2.out]; exact hlt
      obtain ⟨b1, o1, e1, q1⟩ := (h1.kept fr (by simp)) j (.int .u8 l1[j].toNat) (by simp [arr, g1])
      obtain ⟨b2, o2, e2, q2⟩ := (h2.kept fr (by simp)) j (.int .u8 l2[j].toNat) (by simp [arr, g2])
      subst e1 e2
      by_cases heq : l1[j] = l2[j]
      · have HQ : Hid (l1[j] = l2[j]) := heq
        have hbe : ((l1[j].toNat : Int) == (l2[j].toNat : Int)) = true := by rw [heq]; simp
        clear heq
        generalize hx1 : (l1[j].toNat : Int) = x1 at q1 hbe
        generalize hx2 : (l2[j].toNat : Int) = x2 at q2 hbe
        clear hx1 hx2
        go_wp2
        go_region_held3 (fun w' => w'.cell? ⟨b1, o1 + j, none⟩ = some (.int .u8 x1) ∧ w'.cell? ⟨b2, o2 + j, none⟩ = some (.int .u8 x2)) (go_keep) (fail)
        go_wp2
        refine ⟨⟨j + 1, by omega, by go_num, ?_, fr.drew⟩, by simp [intOf]; omega⟩
        rw [List.take_succ_eq_append_getElem g1, List.take_succ_eq_append_getElem g2, HT.out, HQ.out]
      · have hbe : ((l1[j].toNat : Int) == (l2[j].toNat : Int)) = false := by
          rw [beq_eq_false_iff_ne]
          intro e
          exact heq (UInt8.toNat_inj.1 (by omega))
        have HN : Hid ((l1 == l2) = false) := by
          show (l1 == l2) = false
          rw [beq_eq_false_iff_ne]
          intro e
          exact heq (by subst e; rfl)
        clear heq
        generalize hx1 : (l1[j].toNat : Int) = x1 at q1 hbe
        generalize hx2 : (l2[j].toNat : Int) = x2 at q2 hbe
        clear hx1 hx2
        go_wp2
        go_region_held3 (fun w' => w'.cell? ⟨b1, o1 + j, none⟩ = some (.int .u8 x1) ∧ w'.cell? ⟨b2, o2 + j, none⟩ = some (.int .u8 x2)) (go_keep) (fail)
        go_wp2
        go_ret
        exact ⟨by rw [HN.out]; rfl, fr.drew⟩
    · obtain rfl : j = n := by omega
      have HN : Hid ((l1 == l2) = true) := by
        show (l1 == l2) = true
        rw [beq_iff_eq]
        have := HT.out
        rw [List.take_of_length_le (by rw [N1.out]; omega), List.take_of_length_le (by rw [N2.out]; omega)] at this
        exact this
      go_wp2
      go_ret
      exact ⟨by rw [HN.out]; rfl, fr⟩

set_option maxHeartbeats 1000000 in
set_option maxRecDepth 100000 in
theorem over_any (w : World) (g cap n : Nat) (l : List UInt8) (hl : l.length = n) (hn : n ≤ 5000) (hlent : LentAt w g cap l) :
    Calls Tryz.prog 181 #[.slice (some ⟨g, 0, none⟩) n cap] w fun e w' => e = .returned (.tuple #[]) ∧ Fr [g] w w' := by
  have hcap := hlent.cap
  rw [hl] at hcap
  have hn' : (n : Int) ≤ 5000 := by omega
  have hn0 : (0 : Int) ≤ (n : Int) := by omega
  have hc1 : (n : Int) + 12 ≤ (cap : Int) := by omega
  have hcz : ¬ cap = 0 := by omega
  obtain ⟨cur0, hg0, _, hs0⟩ := hlent.ex
  clear hl hlent
  go_enter Tryz.func181, Tryz.ntmps181
  go_wp2_with fail
  go_loopw [3] (fun i wr => ∃ j : Nat, j ≤ n + 12 ∧ i = .int .i64 j ∧ (∃ cur : Array Value, wr.heap[g]? = some (.cells cur 5) ∧ cap ≤ cur.size) ∧ Fr [g] w wr) (fun i _ => n + 12 - (intOf i).toNat)
  case atStart => exact ⟨0, by omega, rfl, ⟨cur0, hg0, by omega⟩, Fr.refl _ _⟩
  case round =>
    obtain ⟨j, hj, rfl, ⟨cur, hg, hs⟩, fr⟩ := hrel
    by_cases hlt : j < n + 12
    · have hlt' : (j : Int) < (n : Int) + 12 := by omega
      have hj0 : (0 : Int) ≤ (j : Int) := by omega
      have hc := cell_of_row wr g j cur 5 (0, 0) hg
      rw [Array.getElem?_eq_getElem (show j < cur.size by omega)] at hc
      have hfz := frozen_of_row wr g j cur 5 hg
      go_wp2_with (go_at_call 230; refine (markByte_any _ 2 j (by omega) (by omega) hj0 (by omega)).mono ?_; rintro e w5 ⟨rfl, rfl⟩)
      exact ⟨⟨j + 1, by omega, by go_num, ⟨_, heap_setCell_same wr g j cur 5 _ hg, by simpa using hs⟩, fr.setCell _ _ (by simp)⟩, by simp [intOf]; omega⟩
    · obtain rfl : j = n + 12 := by omega
      go_wp2_with fail
      go_end0
      exact ⟨rfl, fr⟩


end Go.Proofs.YtopaeomjndblkaaGreat.Pg

namespace Go.Proofs.YtopaeomjndblkaaGreat.Pg

theorem u8_ofNat_toNat (n : Nat) : (UInt8.ofNat n).toNat = n % 256 := UInt8.toNat_ofNat'
theorem u8_of (b : UInt8) (n : Nat) (h : n % 256 = b.toNat) : UInt8.ofNat n = b := by
  apply UInt8.toNat_inj.1; rw [u8_ofNat_toNat]; exact h
def zs (n : Nat) : List UInt8 := List.replicate n 0
theorem zs_length (n : Nat) : (zs n).length = n := by simp [zs]
theorem zs_add (m n : Nat) : zs m ++ zs n = zs (m + n) := by simp [zs]
theorem all_zs (l : List UInt8) (h : l.all (· == 0) = true) : l = zs l.length := by
  unfold zs
  rw [List.eq_replicate_iff]
  exact ⟨rfl, fun b hb => by simpa using List.all_eq_true.1 h b hb⟩
theorem zs_all (n : Nat) : (zs n).all (· == 0) = true := by simp [zs]

/-- Two bytes that say a number, the highest first. -/
def be2 (n : Nat) : List UInt8 := [UInt8.ofNat (n / 256), UInt8.ofNat n]
def be4 (n : Nat) : List UInt8 := [UInt8.ofNat (n / 16777216), UInt8.ofNat (n / 65536), UInt8.ofNat (n / 256), UInt8.ofNat n]
theorem be2_length (n : Nat) : (be2 n).length = 2 := rfl
theorem be4_length (n : Nat) : (be4 n).length = 4 := rfl

/-- The number that two bytes of a row say. -/
def num2 (l : List UInt8) (e : Nat) : Nat := 256 * (byteAt l e).toNat + (byteAt l (e + 1)).toNat
def num4 (l : List UInt8) (e : Nat) : Nat := 16777216 * (byteAt l e).toNat + 65536 * (byteAt l (e + 1)).toNat + 256 * (byteAt l (e + 2)).toNat + (byteAt l (e + 3)).toNat
theorem num2_lt (l : List UInt8) (e : Nat) : num2 l e < 65536 := by
  unfold num2; have := (byteAt l e).toNat_lt; have := (byteAt l (e + 1)).toNat_lt; omega
theorem num4_lt (l : List UInt8) (e : Nat) : num4 l e < 4294967296 := by
  unfold num4; have := (byteAt l e).toNat_lt; have := (byteAt l (e + 1)).toNat_lt; have := (byteAt l (e + 2)).toNat_lt; have := (byteAt l (e + 3)).toNat_lt; omega
theorem byteAt_app_right (p q : List UInt8) (j : Nat) : byteAt (p ++ q) (p.length + j) = byteAt q j := by
  unfold byteAt; simp [List.getD_eq_getElem?_getD, List.getElem?_append_right]
theorem byteAt_app_left (p q : List UInt8) (j : Nat) (h : j < p.length) : byteAt (p ++ q) j = byteAt p j := by
  unfold byteAt; simp [List.getD_eq_getElem?_getD, List.getElem?_append_left h]
theorem byteAt_drop (l : List UInt8) (e j : Nat) : byteAt (l.drop e) j = byteAt l (e + j) := by
  unfold byteAt; simp [List.getD_eq_getElem?_getD, List.getElem?_drop]
theorem num2_drop (l : List UInt8) (e : Nat) : num2 (l.drop e) 0 = num2 l e := by unfold num2; rw [byteAt_drop, byteAt_drop]; rfl
theorem num2_be2 (n : Nat) (h : n < 65536) (r : List UInt8) : num2 (be2 n ++ r) 0 = n := by
  unfold num2 be2 byteAt
  simp only [List.cons_append, List.nil_append, List.getD_cons_zero, List.getD_cons_succ, u8_ofNat_toNat]
  omega
theorem be2_num2 (l : List UInt8) (e : Nat) (h : e + 2 ≤ l.length) : (l.drop e).take 2 = be2 (num2 l e) := by
  have h1 : l.drop e = l[e] :: l[e + 1] :: l.drop (e + 2) := by
    rw [List.drop_eq_getElem_cons (by omega), List.drop_eq_getElem_cons (by omega)]
  rw [h1]
  simp only [List.take_succ_cons, List.take_zero, be2]
  have b1 := byteAt_lt (l := l) (k := e) (by omega)
  have b2 := byteAt_lt (l := l) (k := e + 1) (by omega)
  have := l[e].toNat_lt
  have := l[e + 1].toNat_lt
  rw [u8_of l[e] _ (by unfold num2; rw [b1, b2]; omega), u8_of l[e + 1] _ (by unfold num2; rw [b1, b2]; omega)]
theorem num4_be4 (n : Nat) (h : n < 4294967296) (p r : List UInt8) : num4 (p ++ (be4 n ++ r)) p.length = n := by
  unfold num4
  have h0 := byteAt_app_right p (be4 n ++ r) 0
  rw [Nat.add_zero] at h0
  rw [h0, byteAt_app_right, byteAt_app_right, byteAt_app_right]
  unfold be4 byteAt
  simp only [List.cons_append, List.nil_append, List.getD_cons_zero, List.getD_cons_succ, u8_ofNat_toNat]
  omega
theorem be4_num4 (l : List UInt8) (e : Nat) (h : e + 4 ≤ l.length) : (l.drop e).take 4 = be4 (num4 l e) := by
  have h1 : l.drop e = l[e] :: l[e + 1] :: l[e + 2] :: l[e + 3] :: l.drop (e + 4) := by
    rw [List.drop_eq_getElem_cons (by omega), List.drop_eq_getElem_cons (by omega), List.drop_eq_getElem_cons (by omega), List.drop_eq_getElem_cons (by omega)]
  rw [h1]
  simp only [List.take_succ_cons, List.take_zero, be4]
  have b1 := byteAt_lt (l := l) (k := e) (by omega)
  have b2 := byteAt_lt (l := l) (k := e + 1) (by omega)
  have b3 := byteAt_lt (l := l) (k := e + 2) (by omega)
  have b4 := byteAt_lt (l := l) (k := e + 3) (by omega)
  have := l[e].toNat_lt
  have := l[e + 1].toNat_lt
  have := l[e + 2].toNat_lt
  have := l[e + 3].toNat_lt
  rw [u8_of l[e] _ (by unfold num4; rw [b1, b2, b3, b4]; omega), u8_of l[e + 1] _ (by unfold num4; rw [b1, b2, b3, b4]; omega), u8_of l[e + 2] _ (by unfold num4; rw [b1, b2, b3, b4]; omega), u8_of l[e + 3] _ (by unfold num4; rw [b1, b2, b3, b4]; omega)]

/-- Cells, one behind the other. -/
def enc : List (List UInt8) → List UInt8
  | [] => []
  | c :: r => be2 c.length ++ (c ++ enc r)
def elen (cs : List (List UInt8)) : Nat := (enc cs).length
theorem elen_nil : elen [] = 0 := rfl
theorem elen_cons (c : List UInt8) (r : List (List UInt8)) : elen (c :: r) = 2 + c.length + elen r := by
  simp [elen, enc, be2]; omega
theorem enc_append (a b : List (List UInt8)) : enc (a ++ b) = enc a ++ enc b := by
  induction a with
  | nil => rfl
  | cons c r ih => simp [enc, ih]
theorem elen_append (a b : List (List UInt8)) : elen (a ++ b) = elen a + elen b := by simp [elen, enc_append]
theorem elen_one (c : List UInt8) : elen [c] = 2 + c.length := by rw [elen_cons, elen_nil]; omega
theorem elen_ge (cs : List (List UInt8)) : 2 * cs.length ≤ elen cs := by
  induction cs with
  | nil => simp
  | cons c r ih => rw [elen_cons]; simp only [List.length_cons]; omega

/-- The place behind the cell that begins at a place. -/
def beh (l : List UInt8) (e : Nat) : Nat := e + 2 + num2 l e

/-- The cells that stand from a place on, so many, and noughts behind them. -/
def cellsAt (l : List UInt8) : Nat → Nat → Option (List (List UInt8))
  | 0, e => if (l.drop e).all (· == 0) then some [] else none
  | n + 1, e => if l.length < e + 2 then none else if l.length < beh l e then none else (cellsAt l n (beh l e)).map (((l.drop (e + 2)).take (num2 l e)) :: ·)

theorem cellsAt_some (l : List UInt8) (n e : Nat) (cs : List (List UInt8)) (he : e ≤ l.length) (h : cellsAt l n e = some cs) :
    cs.length = n ∧ e + elen cs ≤ l.length ∧ l.drop e = enc cs ++ zs (l.length - e - elen cs) := by
  induction n generalizing e cs with
  | zero =>
    unfold cellsAt at h
    split at h
    · rename_i hz
      cases h
      refine ⟨rfl, by rw [elen_nil]; omega, ?_⟩
      have := all_zs _ hz
      rw [List.length_drop] at this
      simpa [enc, elen_nil] using this
    · cases h
  | succ n ih =>
    unfold cellsAt at h
    split at h
    · cases h
    · split at h
      · cases h
      · rename_i h1 h2
        cases hc : cellsAt l n (beh l e) with
        | none => rw [hc] at h; cases h
        | some r =>
          rw [hc] at h
          simp only [Option.map_some, Option.some.injEq] at h
          subst h
          have hle : beh l e ≤ l.length := by omega
          obtain ⟨i1, i2, i3⟩ := ih (beh l e) r hle hc
          have hl : ((l.drop (e + 2)).take (num2 l e)).length = num2 l e := by
            rw [List.length_take, List.length_drop]; unfold beh at hle; omega
          refine ⟨by simp [i1], by rw [elen_cons, hl]; unfold beh at i2; omega, ?_⟩
          have e1 : l.drop e = be2 (num2 l e) ++ ((l.drop (e + 2)).take (num2 l e) ++ l.drop (beh l e)) := by
            have a1 : l.drop e = (l.drop e).take 2 ++ l.drop (e + 2) := by
              conv => lhs; rw [← List.take_append_drop 2 (l.drop e), List.drop_drop]
            have a2 : l.drop (e + 2) = (l.drop (e + 2)).take (num2 l e) ++ l.drop (beh l e) := by
              conv => lhs; rw [← List.take_append_drop (num2 l e) (l.drop (e + 2)), List.drop_drop]
              rfl
            rw [a1, be2_num2 l e (by omega)]
            conv => lhs; rw [a2]
          rw [e1, enc, hl, elen_cons, hl, i3]
          simp only [List.append_assoc]
          congr 4
          unfold beh; omega

theorem cellsAt_of (l : List UInt8) (cs : List (List UInt8)) (e : Nat) (he : e + elen cs ≤ l.length) (hs : elen cs ≤ 65535) (h : l.drop e = enc cs ++ zs (l.length - e - elen cs)) : cellsAt l cs.length e = some cs := by
  induction cs generalizing e with
  | nil =>
    simp only [enc, elen_nil, List.nil_append] at h
    show (if (l.drop e).all (· == 0) = true then some [] else none) = _
    rw [h, zs_all]; rfl
  | cons c r ih =>
    rw [elen_cons] at he hs
    have hn : num2 l e = c.length := by
      rw [← num2_drop, h, enc, List.append_assoc]
      exact num2_be2 _ (by omega) _
    have hb : beh l e = e + 2 + c.length := by unfold beh; rw [hn]
    simp only [List.length_cons]
    unfold cellsAt
    rw [if_neg (by omega), hb, if_neg (by omega)]
    have d2 : l.drop (e + 2) = c ++ (enc r ++ zs (l.length - e - elen (c :: r))) := by
      rw [← List.drop_drop, h, enc, List.append_assoc, List.append_assoc]
      rfl
    have d3 : l.drop (e + 2 + c.length) = enc r ++ zs (l.length - (e + 2 + c.length) - elen r) := by
      rw [← List.drop_drop, d2, List.drop_left, elen_cons]
      congr 2
      omega
    rw [ih _ (by omega) (by omega) d3, d2, hn, List.take_left]
    rfl

/-- A page's bytes. -/
def pgB (k : UInt8) (x : Nat) (cs : List (List UInt8)) : List UInt8 := [k, UInt8.ofNat cs.length] ++ (be4 x ++ (enc cs ++ zs (506 - elen cs)))
theorem pgB_length (k : UInt8) (x : Nat) (cs : List (List UInt8)) (h : elen cs ≤ 506) : (pgB k x cs).length = 512 := by
  have : (enc cs).length = elen cs := rfl
  simp [pgB, be4_length, zs_length]; omega
def pageOf (l : List UInt8) : Option (List (List UInt8)) := if l.length = 512 then cellsAt l (byteAt l 1).toNat 6 else none
theorem pgB_drop (k : UInt8) (x : Nat) (cs : List (List UInt8)) : (pgB k x cs).drop 6 = enc cs ++ zs (506 - elen cs) := by
  simp [pgB, be4]
theorem pgB_kind (k : UInt8) (x : Nat) (cs : List (List UInt8)) : byteAt (pgB k x cs) 0 = k := by simp [pgB, byteAt]
theorem pgB_count (k : UInt8) (x : Nat) (cs : List (List UInt8)) (h : elen cs ≤ 506) : (byteAt (pgB k x cs) 1).toNat = cs.length := by
  have := elen_ge cs
  simp [pgB, byteAt]; omega
theorem pgB_next (k : UInt8) (x : Nat) (cs : List (List UInt8)) (hx : x < 4294967296) : num4 (pgB k x cs) 2 = x := num4_be4 x hx [k, UInt8.ofNat cs.length] _
theorem pageOf_pgB (k : UInt8) (x : Nat) (cs : List (List UInt8)) (h : elen cs ≤ 506) : pageOf (pgB k x cs) = some cs := by
  unfold pageOf
  rw [if_pos (pgB_length k x cs h), pgB_count k x cs h]
  refine cellsAt_of _ cs 6 (by rw [pgB_length k x cs h]; omega) (by omega) ?_
  rw [pgB_drop, pgB_length k x cs h]
theorem pgB_of (l : List UInt8) (cs : List (List UInt8)) (h : pageOf l = some cs) : elen cs ≤ 506 ∧ l = pgB (byteAt l 0) (num4 l 2) cs := by
  unfold pageOf at h
  split at h
  · rename_i hl
    obtain ⟨h1, h2, h3⟩ := cellsAt_some l _ 6 cs (by omega) h
    refine ⟨by omega, ?_⟩
    have a1 : l = [byteAt l 0, byteAt l 1] ++ l.drop 2 := by
      rw [byteAt_lt (by omega), byteAt_lt (by omega)]
      conv => lhs; rw [← List.drop_zero (l := l), List.drop_eq_getElem_cons (by omega), List.drop_eq_getElem_cons (by omega)]
      rfl
    have a2 : l.drop 2 = (l.drop 2).take 4 ++ l.drop 6 := by
      conv => lhs; rw [← List.take_append_drop 4 (l.drop 2), List.drop_drop]
    rw [be4_num4 l 2 (by omega)] at a2
    have a3 : byteAt l 1 = UInt8.ofNat cs.length := (u8_of _ _ (by rw [h1]; have := (byteAt l 1).toNat_lt; omega)).symm
    unfold pgB
    conv => lhs; rw [a1, a2, h3, a3]
    rw [hl]
  · cases h
theorem pageOf_len (l : List UInt8) (h : l.length ≠ 512) : pageOf l = none := by unfold pageOf; rw [if_neg h]

/-! ### a cell put in, a cell taken out -/
theorem enc_split (cs : List (List UInt8)) (s : Nat) : enc cs = enc (cs.take s) ++ enc (cs.drop s) := by
  rw [← enc_append, List.take_append_drop]
theorem elen_split (cs : List (List UInt8)) (s : Nat) : elen cs = elen (cs.take s) + elen (cs.drop s) := by
  rw [← elen_append, List.take_append_drop]
def insC (cs : List (List UInt8)) (s : Nat) (c : List UInt8) : List (List UInt8) := cs.take s ++ c :: cs.drop s
theorem insC_length (cs : List (List UInt8)) (s : Nat) (c : List UInt8) (h : s ≤ cs.length) : (insC cs s c).length = cs.length + 1 := by
  simp [insC]; omega
theorem insC_elen (cs : List (List UInt8)) (s : Nat) (c : List UInt8) : elen (insC cs s c) = elen cs + 2 + c.length := by
  unfold insC; rw [elen_append, elen_cons, elen_split cs s]; omega
theorem insC_enc (cs : List (List UInt8)) (s : Nat) (c : List UInt8) : enc (insC cs s c) = enc (cs.take s) ++ (be2 c.length ++ (c ++ enc (cs.drop s))) := by
  unfold insC; rw [enc_append]; rfl
def delC (cs : List (List UInt8)) (s : Nat) : List (List UInt8) := cs.take s ++ cs.drop (s + 1)
theorem drop_at (cs : List (List UInt8)) (s : Nat) (h : s < cs.length) : cs.drop s = cs[s] :: cs.drop (s + 1) := List.drop_eq_getElem_cons h
theorem delC_length (cs : List (List UInt8)) (s : Nat) (h : s < cs.length) : (delC cs s).length + 1 = cs.length := by
  simp [delC]; omega
theorem delC_elen (cs : List (List UInt8)) (s : Nat) (h : s < cs.length) : elen (delC cs s) + 2 + cs[s].length = elen cs := by
  unfold delC; rw [elen_append, elen_split cs s, drop_at cs s h, elen_cons]; omega
/-- Where a slot begins. -/
def slotAt (cs : List (List UInt8)) (s : Nat) : Nat := 6 + elen (cs.take s)
theorem slot_succ (cs : List (List UInt8)) (s : Nat) (h : s < cs.length) : slotAt cs (s + 1) = slotAt cs s + 2 + cs[s].length := by
  unfold slotAt; rw [List.take_succ_eq_append_getElem h, elen_append, elen_one]; omega
theorem slot_le (cs : List (List UInt8)) (s : Nat) : slotAt cs s ≤ 6 + elen cs := by
  unfold slotAt; rw [elen_split cs s]; omega
theorem pgB_slot (k : UInt8) (x : Nat) (cs : List (List UInt8)) (s : Nat) : (pgB k x cs).drop (slotAt cs s) = enc (cs.drop s) ++ zs (506 - elen cs) := by
  unfold slotAt
  rw [← List.drop_drop, pgB_drop, enc_split cs s, List.append_assoc, List.drop_append_of_le_length (by unfold elen; omega)]
  unfold elen
  rw [List.drop_length]
  rfl
theorem pgB_num (k : UInt8) (x : Nat) (cs : List (List UInt8)) (s : Nat) (h : s < cs.length) (hf : elen cs ≤ 506) : num2 (pgB k x cs) (slotAt cs s) = cs[s].length := by
  have := delC_elen cs s h
  rw [← num2_drop, pgB_slot, drop_at cs s h, enc, List.append_assoc]
  exact num2_be2 _ (by omega) _
theorem pgB_cell (k : UInt8) (x : Nat) (cs : List (List UInt8)) (s : Nat) (h : s < cs.length) : ((pgB k x cs).drop (slotAt cs s + 2)).take cs[s].length = cs[s] := by
  rw [← List.drop_drop, pgB_slot, drop_at cs s h, enc, List.append_assoc, List.append_assoc]
  show (cs[s] ++ (enc (cs.drop (s + 1)) ++ _)).take _ = _
  rw [List.take_left]
end Go.Proofs.YtopaeomjndblkaaGreat.Pg

namespace Go.Proofs.YtopaeomjndblkaaGreat.Pg
open Go.RowKit Go.Maps

def valL (l : List UInt8) : Nat := l.foldl (fun n b => n * 256 + b.toNat) 0
theorem valL_snoc (l : List UInt8) (b : UInt8) : valL (l ++ [b]) = valL l * 256 + b.toNat := by simp [valL]
theorem valL_lt (l : List UInt8) : valL l < 256 ^ l.length := by
  suffices h : ∀ r : List UInt8, valL r.reverse < 256 ^ r.length by simpa using h l.reverse
  intro r
  induction r with
  | nil => simp [valL]
  | cons b r ih =>
    rw [List.reverse_cons, valL_snoc, List.length_cons, Nat.pow_succ]
    have := b.toNat_lt
    omega

theorem BytesAt.sub {w : World} {g o : Nat} {l : List UInt8} (h : BytesAt w (some ⟨g, o, none⟩) l) (i m : Nat) : BytesAt w (some ⟨g, o + i, none⟩) ((l.drop i).take m) := by
  intro j v hv
  have hv2 : (arr l).toList[i + j]? = some v := by
    simp only [arr, List.getElem?_map, List.getElem?_take, List.getElem?_drop] at hv ⊢
    split at hv
    · exact hv
    · cases hv
  obtain ⟨b, off, e, hc⟩ := h (i + j) v hv2
  cases e
  exact ⟨g, o + i, rfl, by rw [Nat.add_assoc]; exact hc⟩

theorem ret_int {k : IntKind} {a b : Int} (h : a = b) : Ending.returned (.int k a) = .returned (.int k b) := by rw [h]
theorem i64_or_nat (a b : Nat) (ha : a < 4611686018427387904) (hb : b < 4611686018427387904) : bits .or .i64 (a : Int) (b : Int) = ((a ||| b : Nat) : Int) := by
  have hx : a ||| b < 2 ^ 62 := Nat.or_lt_two_pow (by omega) (by omega)
  show IntKind.i64.wrap ((BitVec.ofInt 64 (a : Int) ||| BitVec.ofInt 64 (b : Int)).toNat : Int) = _
  rw [BitVec.toNat_or, ofInt_u64 a (by omega), ofInt_u64 b (by omega)]
  unfold IntKind.wrap
  simp [IntKind.signed, IntKind.bits]
  omega
theorem or_low (A x : Nat) (hA : A < 16777216) (hx : x < 256) : bits .or .i64 (wrap64 ((A : Int) * 256)) (wrap64 (x : Int)) = ((A * 256 + x : Nat) : Int) := by
  have e1 : wrap64 ((A : Int) * 256) = ((A * 256 : Nat) : Int) := by unfold wrap64; omega
  have e2 : wrap64 (x : Int) = (x : Int) := by unfold wrap64; omega
  rw [e1, e2, i64_or_nat _ _ (by omega) (by omega), nat_join 8 _ _ (by omega) (by omega)]

theorem num2_val (l : List UInt8) (e : Nat) (h : e + 2 ≤ l.length) : valL ((l.drop e).take 2) = num2 l e := by
  rw [be2_num2 l e h]
  have := num2_lt l e
  simp [valL, be2]
  omega
theorem num4_val (l : List UInt8) (e : Nat) (h : e + 4 ≤ l.length) : valL ((l.drop e).take 4) = num4 l e := by
  rw [be4_num4 l e h]
  have := num4_lt l e
  simp [valL, be4]
  omega

/-- A slice of 512 bytes in memory. -/
structure At512 (w : World) (g o c : Nat) (l : List UInt8) : Prop where
  len : l.length = 512
  bytes : BytesAt w (some ⟨g, o, none⟩) l
  cap : 512 ≤ c
theorem At512.kept {w w' : World} {g o c : Nat} {l : List UInt8} {L : List Nat} (h : At512 w g o c l) (k : Fr L w w') (hg : g ∉ L) : At512 w' g o c l :=
  ⟨h.len, h.bytes.kept k (fun b off e => by cases e; exact hg), h.cap⟩
theorem At512.cell {w : World} {g o c : Nat} {l : List UInt8} (h : At512 w g o c l) (j : Nat) (hj : j < 512) : w.cell? ⟨g, o + j, none⟩ = some (.int .u8 (byteAt l j).toNat) := by
  obtain ⟨b, off, e, hc⟩ := h.bytes.at j (by rw [h.len]; exact hj)
  cases e
  exact hc

/-! ### measure -/
def endOf (l : List UInt8) : Nat := match pageOf l with
  | some cs => 6 + elen cs
  | none => 0
def okP (l : List UInt8) : Bool := (pageOf l).isSome

theorem okP_some {l : List UInt8} {cs : List (List UInt8)} (h : pageOf l = some cs) : okP l = true ∧ endOf l = 6 + elen cs := by
  unfold okP endOf; rw [h]; exact ⟨rfl, rfl⟩
theorem okP_none {l : List UInt8} (h : pageOf l = none) : okP l = false ∧ endOf l = 0 := by
  unfold okP endOf; rw [h]; exact ⟨rfl, rfl⟩

theorem ret_two {k : IntKind} {a b : Int} {x y : Bool} (h : a = b) (h2 : x = y) : Ending.returned (.tuple #[.int k a, .bool x]) = .returned (.tuple #[.int k b, .bool y]) := by rw [h, h2]

end Go.Proofs.YtopaeomjndblkaaGreat.Pg

namespace Go.Proofs.YtopaeomjndblkaaGreat.Pg
open Go.RowKit Go.Maps

/-- The value of a slice of bytes in memory; of 512 bytes it has an address. -/
structure SlAt (w : World) (ad : Option Addr) (n c : Nat) (l : List UInt8) : Prop where
  len : l.length = n
  bytes : BytesAt w ad l
  cap : n ≤ c
theorem SlAt.at512 {w : World} {ad : Option Addr} {n c : Nat} {l : List UInt8} (h : SlAt w ad n c l) (hn : n = 512) : ∃ g o, ad = some ⟨g, o, none⟩ ∧ At512 w g o c l := by
  obtain ⟨g, o, e, _⟩ := h.bytes.at 0 (by rw [h.len]; omega)
  subst e
  exact ⟨g, o, rfl, by rw [h.len]; exact hn, h.bytes, by have := h.cap; omega⟩
theorem SlAt.kept {w w' : World} {ad : Option Addr} {n c : Nat} {l : List UInt8} {L : List Nat} (h : SlAt w ad n c l) (k : Fr L w w') (hL : ∀ b off, ad = some ⟨b, off, none⟩ → b ∉ L) : SlAt w' ad n c l :=
  ⟨h.len, h.bytes.kept k hL, h.cap⟩
theorem At512.sl {w : World} {g o c : Nat} {l : List UInt8} (h : At512 w g o c l) : SlAt w (some ⟨g, o, none⟩) 512 c l := ⟨h.len, h.bytes, h.cap⟩

/-- A right page. -/
structure Pg (l : List UInt8) (k : UInt8) (x : Nat) (cs : List (List UInt8)) : Prop where
  eq : l = pgB k x cs
  fits : elen cs ≤ 506
  nx : x < 4294967296
theorem Pg.of {l : List UInt8} {cs : List (List UInt8)} (h : pageOf l = some cs) : Pg l (byteAt l 0) (num4 l 2) cs := by
  obtain ⟨h1, h2⟩ := pgB_of l cs h
  exact ⟨h2, h1, num4_lt l 2⟩
theorem Pg.page {l : List UInt8} {k : UInt8} {x : Nat} {cs : List (List UInt8)} (h : Pg l k x cs) : pageOf l = some cs := by
  rw [h.eq]; exact pageOf_pgB k x cs h.fits
theorem Pg.len {l : List UInt8} {k : UInt8} {x : Nat} {cs : List (List UInt8)} (h : Pg l k x cs) : l.length = 512 := by rw [h.eq]; exact pgB_length k x cs h.fits
theorem Pg.ok {l : List UInt8} {k : UInt8} {x : Nat} {cs : List (List UInt8)} (h : Pg l k x cs) : okP l = true := (okP_some h.page).1
theorem Pg.end {l : List UInt8} {k : UInt8} {x : Nat} {cs : List (List UInt8)} (h : Pg l k x cs) : endOf l = 6 + elen cs := (okP_some h.page).2
theorem Pg.kind {l : List UInt8} {k : UInt8} {x : Nat} {cs : List (List UInt8)} (h : Pg l k x cs) : byteAt l 0 = k := by rw [h.eq]; exact pgB_kind k x cs
theorem Pg.count {l : List UInt8} {k : UInt8} {x : Nat} {cs : List (List UInt8)} (h : Pg l k x cs) : (byteAt l 1).toNat = cs.length := by rw [h.eq]; exact pgB_count k x cs h.fits
theorem Pg.next {l : List UInt8} {k : UInt8} {x : Nat} {cs : List (List UInt8)} (h : Pg l k x cs) : num4 l 2 = x := by rw [h.eq]; exact pgB_next k x cs h.nx
theorem Pg.few {l : List UInt8} {k : UInt8} {x : Nat} {cs : List (List UInt8)} (h : Pg l k x cs) : cs.length ≤ 253 := by have := elen_ge cs; have := h.fits; omega

/-- What a row of bytes tells: kind, next, cells. -/
def kindOf (l : List UInt8) : Nat := if okP l then (byteAt l 0).toNat else 0
def nextOf (l : List UInt8) : Nat := if okP l then num4 l 2 else 0
def cellsOf (l : List UInt8) : List (List UInt8) := (pageOf l).getD []
def roomOf (l : List UInt8) : Nat := if okP l then 512 - endOf l else 0
theorem cells_some {l : List UInt8} {cs : List (List UInt8)} (h : pageOf l = some cs) : cellsOf l = cs := by unfold cellsOf; rw [h]; rfl
theorem cells_none {l : List UInt8} (h : pageOf l = none) : cellsOf l = [] := by unfold cellsOf; rw [h]; rfl
theorem page_or (l : List UInt8) : (pageOf l = none ∧ okP l = false) ∨ (∃ cs, pageOf l = some cs ∧ okP l = true ∧ Pg l (byteAt l 0) (num4 l 2) cs) := by
  cases h : pageOf l with
  | none => exact Or.inl ⟨rfl, (okP_none h).1⟩
  | some cs => exact Or.inr ⟨cs, rfl, (okP_some h).1, Pg.of h⟩

end Go.Proofs.YtopaeomjndblkaaGreat.Pg

