/-
  The laws' own helpers: Pick, CopyBytes.
-/
import Derived.Test.YtlfpoeimgoikkaaGCopy
import Derived.Laws.AppendOwnNone
namespace Go.Proofs.Ytlfpoeimgoikkaa
open Go.RowKit Go.Maps

theorem i64_bounds {x : Int} (h : (Lit.int .i64 x).wf = true) : -9223372036854775808 ≤ x ∧ x ≤ 9223372036854775807 := by
  simp [Lit.wf, show IntKind.i64.min = -9223372036854775808 from rfl, show IntKind.i64.max = 9223372036854775807 from rfl] at h
  exact h

theorem tmod_neg {x n : Int} (h1 : 1 ≤ n) (h : x.tmod n < 0) : x.tmod n + n = x % n := by
  have e := Int.tmod_eq_emod (a := x) (b := n)
  have h2 := Int.emod_nonneg x (show n ≠ 0 by omega)
  split at e <;> omega
theorem tmod_pos {x n : Int} (h1 : 1 ≤ n) (h : 0 ≤ x.tmod n) : x.tmod n = x % n := by
  have e := Int.tmod_eq_emod (a := x) (b := n)
  have h2 := Int.emod_lt_of_pos x (show 0 < n by omega)
  split at e <;> omega
theorem wrap64_small {v : Int} (h0 : -9223372036854775808 ≤ v) (h1 : v ≤ 9223372036854775807) : wrap64 v = v := by
  unfold wrap64
  omega

set_option maxHeartbeats 400000 in
theorem pick_any (w : World) (x n : Int) (hx : (Lit.int .i64 x).wf = true) (h1 : 1 ≤ n) (h2 : n ≤ 1000000) :
    Calls Try.prog 30 #[.int .i64 x, .int .i64 n] w fun e w' => e = .returned (.int .i64 (x % n)) ∧ w' = w := by
  obtain ⟨b1, b2⟩ := i64_bounds hx
  have hn : ¬ n < 1 := by omega
  have g1 := Int.emod_nonneg x (show n ≠ 0 by omega)
  have g2 := Int.emod_lt_of_pos x (show 0 < n by omega)
  by_cases hneg : x.tmod n < 0
  · have e1 : Hid (wrap64 (x.tmod n + n) = x % n) := by rw [tmod_neg h1 hneg]; exact wrap64_small (by omega) (by omega)
    clear g1 g2
    go_enter Try.func30, Try.ntmps30
    go_wp2
    go_ret
    exact ⟨ret_int e1.out, rfl⟩
  · have e1 : Hid (x.tmod n = x % n) := tmod_pos h1 (by omega)
    clear g1 g2
    go_enter Try.func30, Try.ntmps30
    go_wp2
    go_ret
    exact ⟨ret_int e1.out, rfl⟩


theorem own_row {w0 w : World} {v : Value} {n : Nat} {l : List UInt8} (h : Own w0 w v n (arr l).toList) (hl : l.length = n) (h0 : 0 < n) : ∃ g cap, v = .slice (some ⟨g, 0, none⟩) n cap ∧ RowB w g cap l ∧ w0.heap.size ≤ g := by
  rcases h.1.2 with ⟨_, hn⟩ | ⟨g, cap, cur, rfl, hb, hg, hnc, _, hcs, ht⟩
  · omega
  · refine ⟨g, cap, rfl, ⟨cur.toList.drop n, ?_, ?_⟩, hb⟩
    · rw [hg]
      refine congrArg (fun z => some (Obj.cells z 5)) (Array.ext' ?_)
      have h2 : cur.toList.take n = (arr l).toList := by simpa using ht
      rw [← h2]
      simp
    · have e1 : cur.toList.length = cur.size := rfl
      rw [List.length_drop, hl]
      omega

set_option maxHeartbeats 400000 in
set_option maxRecDepth 100000 in
theorem copyBytes_any (w : World) (ad : Option Addr) (n c : Nat) (l : List UInt8) (h : SlAt w ad n c l) (hn : n ≤ 1000000) (hnil : ad = none → c = 0) :
    Calls Try.prog 17 #[.slice ad n c] w fun e w' => ∃ ad' cap', e = .returned (.slice ad' n cap') ∧ SlAt w' ad' n cap' l ∧ (ad' = none → cap' = 0) ∧ (0 < n → ∃ g, ad' = some ⟨g, 0, none⟩ ∧ RowB w' g cap' l ∧ w.heap.size ≤ g) ∧ Fr [] w w' := by
  obtain ⟨i, hi, hz, hs, hb⟩ := info5'
  cases ad with
  | none =>
    obtain rfl : c = 0 := hnil rfl
    obtain rfl : n = 0 := by have := h.cap; omega
    go_enter Try.func17, Try.ntmps17
    go_wp2_with (refine wpList_append_own_none rfl _ _ 22 rfl w.heap.size 5 i 1 Try.underlying22 hi _ 0 [] rfl (World.ownsRow_nil _ _ _ _) rfl ?_)
    go_ret
    refine ⟨none, 0, rfl, h, fun _ => rfl, ?_⟩
    first
      | exact Fr.refl _ _
      | exact ⟨fun h0 => absurd h0 (by omega), Fr.refl _ _⟩
  | some a0 =>
    have HL : Hid (l.length = n) := h.len
    go_enter Try.func17, Try.ntmps17
    go_wp2_with (refine wp_app rfl _ _ rfl w _ 0 [] rfl ⟨World.ownsRow_nil _ _ _ _, Fr.refl _ _⟩ _ n c l rfl HL.out h.bytes (by omega) (fun _ => ⟨_, rfl⟩) ?_; intro v2 w2 o2; rw [Nat.zero_add, List.nil_append] at o2)
    go_ret
    by_cases h0 : 0 < n
    · obtain ⟨g, cap, rfl, row, hg⟩ := own_row o2 HL.out h0
      refine ⟨_, cap, rfl, ⟨HL.out, row.bytes, by have := row.cap; rw [HL.out] at this; exact this⟩, (fun e => nomatch e), fun _ => ⟨g, rfl, row, hg⟩, o2.2⟩
    · obtain rfl : n = 0 := by omega
      have e0 : l = [] := List.eq_nil_of_length_eq_zero HL.out
      subst e0
      rcases o2.1.2 with ⟨rfl, _⟩ | ⟨g, cap, cur, rfl, _⟩
      · exact ⟨none, 0, rfl, ⟨rfl, BytesAt.nil _ _, Nat.le_refl _⟩, fun _ => rfl, fun h1 => absurd h1 h0, o2.2⟩
      · exact ⟨_, cap, rfl, ⟨rfl, BytesAt.nil _ _, Nat.zero_le _⟩, (fun e => nomatch e), fun h1 => absurd h1 h0, o2.2⟩

end Go.Proofs.Ytlfpoeimgoikkaa
