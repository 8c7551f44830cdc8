/-
  What the texts ahead of it lack: pieces of them.
-/
import Derived.Test.YtopaeomjndblkaaGreatY00Z
import Derived.Test.YtopaeomjndblkaaGreatY01Z
import Derived.Test.YtopaeomjndblkaaGreatY02Z
import Derived.Test.YtopaeomjndblkaaGreatY03Z
import Derived.Test.YtopaeomjndblkaaGreatY04Z
import Derived.Test.YtopaeomjndblkaaGreatY05Z
import Derived.Test.YtopaeomjndblkaaGreatY06Z
import Derived.Test.YtopaeomjndblkaaGreatY07Z
import Derived.Test.YtopaeomjndblkaaGreatY08Z
import Derived.Test.YtopaeomjndblkaaGreatY09Z
import Derived.Test.YtopaeomjndblkaaGreatY10Z
import Derived.Test.YtopaeomjndblkaaGreatY11Z
import Derived.Test.YtopaeomjndblkaaGreatY12Z
import Derived.Test.YtopaeomjndblkaaGreatY13Z
import Derived.Test.YtopaeomjndblkaaGreatY14Z
import Derived.Test.YtopaeomjndblkaaGreatY15Z
import Derived.Test.YtopaeomjndblkaaGreatY16Z
import Derived.Test.YtopaeomjndblkaaGreatY17Z
import Derived.Test.YtopaeomjndblkaaGreatY18Z
import Derived.Test.YtopaeomjndblkaaGreatY19Z
import Derived.Test.YtopaeomjndblkaaGreatY20Z
import Derived.Test.YtopaeomjndblkaaGreatY21Z
import Derived.Test.YtopaeomjndblkaaGreatY22Z
import Derived.Test.YtopaeomjndblkaaGreatY23Z
import Derived.Test.YtopaeomjndblkaaGreatY24Z
import Derived.Test.YtopaeomjndblkaaGreatY25Z
import Derived.Test.YtopaeomjndblkaaGreatY26Z
import Derived.Test.YtopaeomjndblkaaGreatY27Z
import Derived.Test.YtopaeomjndblkaaGreatY28Z
import Derived.Test.YtopaeomjndblkaaGreatY29Z
import Derived.Test.YtopaeomjndblkaaGreatY30Z
import Derived.Test.YtopaeomjndblkaaGreatY31Z
import Derived.Test.YtopaeomjndblkaaGreatY32Z
import Derived.Test.YtopaeomjndblkaaGreatY33Z
import Derived.Test.YtopaeomjndblkaaGreatY34Z
import Derived.Test.YtopaeomjndblkaaGreatY35Z
import Derived.Test.YtopaeomjndblkaaGreatY36Z
import Derived.Test.YtopaeomjndblkaaGreatY37Z
import Derived.Test.YtopaeomjndblkaaGreatY38Z
import Derived.Test.YtopaeomjndblkaaGreatY39Z
import Derived.Test.YtopaeomjndblkaaGreatY40Z
import Derived.Test.YtopaeomjndblkaaGreatY41Z
import Derived.Test.YtopaeomjndblkaaGreatY42Z
import Derived.Deep.Slices
import Derived.ProofKit
import Derived.SizedLaws
import Derived.Deep.AppendLies
import Derived.Laws.MakeOwn
import Derived.Laws.AppendOwnNone
namespace Go.Proofs.YtopaeomjndblkaaGreat
open Go.RowKit Go.Maps

set_option maxHeartbeats 400000 in
theorem mark_any (w : World) (k i : Int) (hk0 : 0 ≤ k) (hk1 : k ≤ 100) (hi0 : 0 ≤ i) (hi1 : i ≤ 1000000) :
    Calls Tryz.prog 266 #[.int .i64 k, .int .i64 i] w fun e w' => e = .returned (.int .i64 (1000003 * (k + 7) + i)) ∧ w' = w := by
  go_enter Tryz.func266, Tryz.ntmps266
  go_wp2
  go_ret
  exact ⟨rfl, rfl⟩

theorem mB_range (k i : Int) : 0 ≤ mB k i ∧ mB k i < 256 := by unfold mB; omega

set_option maxHeartbeats 400000 in
theorem markByte_any (w : World) (k i : Int) (hk0 : 0 ≤ k) (hk1 : k ≤ 100) (hi0 : 0 ≤ i) (hi1 : i ≤ 1000000) :
    Calls Tryz.prog 230 #[.int .i64 k, .int .i64 i] w fun e w' => e = .returned (.int .u8 (mB k i)) ∧ w = w' := by
  go_enter Tryz.func230, Tryz.ntmps230
  go_wp2_with (go_at_call 266; refine (mark_any _ k i hk0 hk1 hi0 hi1).mono ?_; rintro e w ⟨rfl, rfl⟩)
  go_ret
  exact ⟨rfl, rfl⟩

theorem markByte_eq (w : World) (k i : Int) (hk0 : 0 ≤ k) (hk1 : k ≤ 100) (hi0 : 0 ≤ i) (hi1 : i ≤ 1000000) :
    Calls Tryz.prog 230 #[.int .i64 k, .int .i64 i] w fun e w' => e = .returned (.int .u8 (mB k i)) ∧ w' = w :=
  (markByte_any w k i hk0 hk1 hi0 hi1).mono fun _ _ h => ⟨h.1, h.2.symm⟩

section
variable {ops : Array Oper} {rest : List Oper} {o : Oper} {a : Act} {w : World} {Q : Exit → Act → World → Prop}

end

theorem mkL_succ (k : Int) (j : Nat) : mkL k (j + 1) = mkL k j ++ [UInt8.ofNat (mB k (j : Nat)).toNat] := by simp [mkL, List.range_succ]
theorem mkL_at (k : Int) (j m : Nat) (h : j < m) : (mkL k m)[j]?.map (fun b => (b.toNat : Int)) = some (mB k j) := by
  have := mB_range k j
  simp [mkL, List.getElem?_range h]
  omega

set_option maxHeartbeats 1000000 in
set_option maxRecDepth 100000 in
theorem lent_any (w : World) (a0 : Addr) (n c : Nat) (l : List UInt8) (hl : l.length = n) (hn : n ≤ 5000) (hsrc : BytesAt w (some a0) l) :
    Calls Tryz.prog 178 #[.slice (some a0) n c] w fun e w' => ∃ g cap, e = .returned (.slice (some ⟨g, 0, none⟩) n cap) ∧ LentAt w' g cap l ∧ w.heap.size ≤ g ∧ Fr [] w w' := by
  have HL : Hid (l.length = n) := hl
  have hn' : (n : Int) ≤ 5000 := by omega
  have hn0 : (0 : Int) ≤ (n : Int) := by omega
  clear hl
  go_enter Tryz.func178, Tryz.ntmps178
  go_wp2_with (first
    | (refine wp_make0 rfl _ _ rfl (n + 12) rfl (by rfl) (by omega) w (Fr.refl _ _) ?_; intro w1 o1)
    | (refine wp_app rfl _ _ rfl w _ 0 [] rfl o1 _ n _ l rfl HL.out (hsrc.kept o1.2 (by simp)) (by omega) (fun _ => ⟨_, rfl⟩) ?_; intro v2 w2 o2)
    | go_in)
  go_loopw [3, 4] (fun v i wr => ∃ j : Nat, j ≤ 12 ∧ i = .int .i64 j ∧ Own w wr v (n + j) (arr (l ++ mkL 1 j)).toList) (fun _ i _ => 12 - (intOf i).toNat)
  case atStart => exact ⟨0, by omega, rfl, by simpa [mkL] using o2⟩
  case round =>
    obtain ⟨j, hj, rfl, ow⟩ := hrel
    by_cases hlt : j < 12
    · have hlt' : (j : Int) < 12 := by omega
      have hj0 : (0 : Int) ≤ (j : Int) := by omega
      obtain ⟨m0, m1⟩ := mB_range 1 j
      go_wp2_with (first
        | (go_at_call 230; refine (markByte_any _ 1 j (by omega) (by omega) hj0 (by omega)).mono ?_; rintro e w5 ⟨rfl, rfl⟩)
        | (refine wp_app rfl _ _ rfl w _ (n + j) _ rfl (ow.kept ((Fr.refl [] wr).alloc _)) _ 1 _ [UInt8.ofNat (mB 1 j).toNat] rfl rfl (oneByte (mB 1 j) m0 m1 wr) (by omega) (fun h => absurd h (by omega)) ?_; intro v5 w5 o5)
        | go_in)
      refine ⟨⟨j + 1, by omega, by go_num, ?_⟩, by simp [intOf]; omega⟩
      rw [mkL_succ, ← List.append_assoc, ← arr_append]
      exact o5
    · obtain rfl : j = 12 := by omega
      have hpos : 0 < n + 12 := by omega
      obtain ⟨hle, hcase⟩ := ow.1
      rcases hcase with ⟨_, h0⟩ | ⟨g, cap, cur, hv, hb, hg, hcap, hmx, hsz, htk⟩
      · omega
      · subst hv
        have hcap' : (n : Int) ≤ (cap : Int) := by omega
        have hcz : ¬ cap = 0 := by omega
        go_wp2_with fail
        go_ret
        exact ⟨g, cap, rfl, ⟨⟨cur, hg, by rw [HL.out]; simpa using htk, by omega⟩, by rw [HL.out]; omega⟩, hb, ow.2⟩

set_option maxHeartbeats 1000000 in
set_option maxRecDepth 100000 in
theorem lent_nil (w : World) (n : Nat) (l : List UInt8) (hl : l.length = n) (hn : n ≤ 5000) (hn2 : n = 0) :
    Calls Tryz.prog 178 #[.slice none 0 0] w fun e w' => ∃ g cap, e = .returned (.slice (some ⟨g, 0, none⟩) 0 cap) ∧ LentAt w' g cap [] ∧ w.heap.size ≤ g ∧ Fr [] w w' := by
  subst hn2
  obtain rfl : l = [] := List.eq_nil_of_length_eq_zero hl
  obtain ⟨i, hi, hz, hs, hb⟩ := info5'
  have HL : Hid (([] : List UInt8).length = 0) := rfl
  have n0 : (0 : Nat) = 0 := rfl
  clear hl hn
  go_enter Tryz.func178, Tryz.ntmps178
  go_wp2_with (first
    | (refine wp_make0 rfl _ _ rfl 12 rfl (by rfl) (by omega) w (Fr.refl _ _) ?_; intro w1 o1)
    | (refine wpList_append_own_none rfl _ _ 37 rfl w.heap.size 5 i 1 Tryz.underlying37 hi _ 0 [] rfl o1.1 rfl ?_; have o2 := o1)
    | go_in)
  go_loopw [3, 4] (fun v i wr => ∃ j : Nat, j ≤ 12 ∧ i = .int .i64 j ∧ Own w wr v j (arr ([] ++ mkL 1 j)).toList) (fun _ i _ => 12 - (intOf i).toNat)
  case atStart => exact ⟨0, by omega, rfl, by simpa [mkL, arr] using o2⟩
  case round =>
    obtain ⟨j, hj, rfl, ow⟩ := hrel
    by_cases hlt : j < 12
    · have hlt' : (j : Int) < 12 := by omega
      have hj0 : (0 : Int) ≤ (j : Int) := by omega
      obtain ⟨m0, m1⟩ := mB_range 1 j
      go_wp2_with (first
        | (go_at_call 230; refine (markByte_any _ 1 j (by omega) (by omega) hj0 (by omega)).mono ?_; rintro e w5 ⟨rfl, rfl⟩)
        | (refine wp_app rfl _ _ rfl w _ j _ rfl (ow.kept ((Fr.refl [] wr).alloc _)) _ 1 _ [UInt8.ofNat (mB 1 j).toNat] rfl rfl (oneByte (mB 1 j) m0 m1 wr) (by omega) (fun h => absurd h (by omega)) ?_; intro v5 w5 o5)
        | go_in)
      refine ⟨⟨j + 1, by omega, by go_num, ?_⟩, by simp [intOf]; omega⟩
      rw [mkL_succ, ← List.append_assoc, ← arr_append]
      exact o5
    · obtain rfl : j = 12 := by omega
      have hpos : 0 < 12 := by omega
      obtain ⟨hle, hcase⟩ := ow.1
      rcases hcase with ⟨_, h0⟩ | ⟨g, cap, cur, hv, hb, hg, hcap, hmx, hsz, htk⟩
      · omega
      · subst hv
        have hcap' : (0 : Int) ≤ (cap : Int) := by omega
        have hcz : ¬ cap = 0 := by omega
        go_wp2_with fail
        go_ret
        exact ⟨g, cap, rfl, ⟨⟨cur, hg, by rw [HL.out]; simpa using htk, by omega⟩, by rw [HL.out]; omega⟩, hb, ow.2⟩

theorem LentAt.high {w : World} {g cap : Nat} {l : List UInt8} (h : LentAt w g cap l) (j : Nat) (h0 : l.length ≤ j) (h1 : j < l.length + 12) : w.cell? ⟨g, j, none⟩ = some (.int .u8 (mB 1 ((j : Int) - (l.length : Int)))) := by
  rw [h.cell j h1]
  have hm := mkL_at 1 (j - l.length) 12 (by omega)
  have e : ((j - l.length : Nat) : Int) = (j : Int) - (l.length : Int) := by omega
  rw [e] at hm
  cases hx : (mkL 1 12)[j - l.length]? with
  | none => rw [hx] at hm; cases hm
  | some b =>
    rw [hx] at hm
    simp at hm
    rw [← arr_append, List.getElem?_append_right (by simpa [arr] using h0)]
    simp [arr, hx, hm]
set_option maxHeartbeats 2000000 in
set_option maxRecDepth 100000 in
theorem kept_any (w : World) (g cap n c : Nat) (ad : Option Addr) (l : List UInt8) (hl : l.length = n) (hn : n ≤ 5000) (hlent : LentAt w g cap l) (hsrc : BytesAt w ad l) :
    Calls Tryz.prog 180 #[.slice (some ⟨g, 0, none⟩) n cap, .slice ad n c] w fun e w' => e = .returned (.bool true) ∧ Fr [] w w' := by
  have hcap := hlent.cap
  rw [hl] at hcap
  have HL : Hid (l.length = n) := hl
  have hn' : (n : Int) ≤ 5000 := by omega
  have hn0 : (0 : Int) ≤ (n : Int) := by omega
  have hc1 : (n : Int) + 12 ≤ (cap : Int) := by omega
  have hcz : ¬ cap = 0 := by omega
  clear hl
  go_enter Tryz.func180, Tryz.ntmps180
  go_wp2_with fail
  go_loopw [6] (fun i wr => ∃ j : Nat, j ≤ n + 12 ∧ i = .int .i64 j ∧ Fr [] w wr) (fun i _ => n + 12 - (intOf i).toNat)
  case atStart => exact ⟨0, by omega, rfl, Fr.refl _ _⟩
  case round =>
    obtain ⟨j, hj, rfl, fr⟩ := hrel
    by_cases hlt : j < n + 12
    · have hlt' : (j : Int) < (n : Int) + 12 := by omega
      have hj0 : (0 : Int) ≤ (j : Int) := by omega
      by_cases hlow : j < n
      · have hlow' : (j : Int) < (n : Int) := by omega
        have hdl : decide ((j : Int) < (n : Int)) = true := by simpa using hlow
        have hdg : decide (n ≤ j) = false := by simp; omega
        have hdn : decide (j < n) = true := by simpa using hlow
        have gl : j < l.length := by rw [HL.out]; exact hlow
        have q1 := (hlent.kept fr (by simp)).low j gl
        obtain ⟨b2, o2, e2, q2⟩ := (hsrc.kept fr (by simp)) j (.int .u8 l[j].toNat) (by simp [arr, gl])
        subst e2
        generalize (l[j].toNat : Int) = x at q1 q2
        go_wp2_with fail
        go_quiet (fail)
        go_wp2_with fail
        exact ⟨⟨j + 1, by omega, by go_num, fr.drewN _⟩, by simp [intOf]; omega⟩
      · have hdl : decide ((j : Int) < (n : Int)) = false := by simp; omega
        have hge : (n : Int) ≤ (j : Int) := by omega
        have hdg : decide (n ≤ j) = true := by simp; omega
        have hdn : decide (j < n) = false := by simp; omega
        have q1 := (hlent.kept fr (by simp)).high j (by rw [HL.out]; omega) (by rw [HL.out]; omega)
        rw [HL.out] at q1
        go_wp2_with fail
        go_quiet ((go_at_call 230; exact Calls.quiet_of_same (markByte_eq _ 1 _ (by omega) (by omega) (by omega) (by omega))))
        go_wp2_with fail
        exact ⟨⟨j + 1, by omega, by go_num, fr.drewN _⟩, by simp [intOf]; omega⟩
    · obtain rfl : j = n + 12 := by omega
      go_wp2_with fail
      go_ret
      exact ⟨rfl, fr⟩

set_option maxHeartbeats 1000000 in
set_option maxRecDepth 100000 in
theorem same_any (w : World) (a1 a2 : Option Addr) (l1 l2 : List UInt8) (n c1 c2 : Nat) (h1 : BytesAt w a1 l1) (h2 : BytesAt w a2 l2) (n1 : l1.length = n) (n2 : l2.length = n) (hn : n ≤ 1000000) :
    Calls Tryz.prog 29 #[.slice a1 n c1, .slice a2 n c2] w fun e w' => e = .returned (.bool (l1 == l2)) ∧ Fr [] w w' := by
  have N1 : Hid (l1.length = n) := n1
  have N2 : Hid (l2.length = n) := n2
  clear n1 n2
  go_enter Tryz.func29, Tryz.ntmps29
  go_wp2
  go_loopw [5] (fun i wr => ∃ j : Nat, j ≤ n ∧ i = .int .i64 j ∧ l1.take j = l2.take j ∧ Fr [] w wr) (fun i _ => n - (intOf i).toNat)
  case atStart => exact ⟨0, by omega, rfl, by simp, Fr.refl _ _⟩
  case round =>
    obtain ⟨j, hj, rfl, ht, fr⟩ := hrel
    have HT : Hid (l1.take j = l2.take j) := ht
    clear ht
    by_cases hlt : j < n
    · have hlt' : (j : Int) < (n : Int) := by omega
      have hj0 : (0 : Int) ≤ (j : Int) := by omega
      have g1 : j < l1.length := by rw [N1.out]; exact hlt
      have g2 : j < l2.length := by rw [N2.out]; exact hlt
      obtain ⟨b1, o1, e1, q1⟩ := (h1.kept fr (by simp)) j (.int .u8 l1[j].toNat) (by simp [arr, g1])
      obtain ⟨b2, o2, e2, q2⟩ := (h2.kept fr (by simp)) j (.int .u8 l2[j].toNat) (by simp [arr, g2])
      subst e1 e2
      by_cases heq : l1[j] = l2[j]
      · have HQ : Hid (l1[j] = l2[j]) := heq
        have hbe : ((l1[j].toNat : Int) == (l2[j].toNat : Int)) = true := by rw [heq]; simp
        clear heq
        generalize hx1 : (l1[j].toNat : Int) = x1 at q1 hbe
        generalize hx2 : (l2[j].toNat : Int) = x2 at q2 hbe
        clear hx1 hx2
        go_wp2
        go_region_held3 (fun w' => w'.cell? ⟨b1, o1 + j, none⟩ = some (.int .u8 x1) ∧ w'.cell? ⟨b2, o2 + j, none⟩ = some (.int .u8 x2)) (go_keep) (fail)
        go_wp2
        refine ⟨⟨j + 1, by omega, by go_num, ?_, fr.drew⟩, by simp [intOf]; omega⟩
        rw [List.take_succ_eq_append_getElem g1, List.take_succ_eq_append_getElem g2, HT.out, HQ.out]
      · have hbe : ((l1[j].toNat : Int) == (l2[j].toNat : Int)) = false := by
          rw [beq_eq_false_iff_ne]
          intro e
          exact heq (UInt8.toNat_inj.1 (by omega))
        have HN : Hid ((l1 == l2) = false) := by
          show (l1 == l2) = false
          rw [beq_eq_false_iff_ne]
          intro e
          exact heq (by subst e; rfl)
        clear heq
        generalize hx1 : (l1[j].toNat : Int) = x1 at q1 hbe
        generalize hx2 : (l2[j].toNat : Int) = x2 at q2 hbe
        clear hx1 hx2
        go_wp2
        go_region_held3 (fun w' => w'.cell? ⟨b1, o1 + j, none⟩ = some (.int .u8 x1) ∧ w'.cell? ⟨b2, o2 + j, none⟩ = some (.int .u8 x2)) (go_keep) (fail)
        go_wp2
        go_ret
        exact ⟨by rw [HN.out]; rfl, fr.drew⟩
    · obtain rfl : j = n := by omega
      have HN : Hid ((l1 == l2) = true) := by
        show (l1 == l2) = true
        rw [beq_iff_eq]
        have := HT.out
        rw [List.take_of_length_le (by rw [N1.out]; omega), List.take_of_length_le (by rw [N2.out]; omega)] at this
        exact this
      go_wp2
      go_ret
      exact ⟨by rw [HN.out]; rfl, fr⟩

set_option maxHeartbeats 1000000 in
set_option maxRecDepth 100000 in
theorem over_any (w : World) (g cap n : Nat) (l : List UInt8) (hl : l.length = n) (hn : n ≤ 5000) (hlent : LentAt w g cap l) :
    Calls Tryz.prog 181 #[.slice (some ⟨g, 0, none⟩) n cap] w fun e w' => e = .returned (.tuple #[]) ∧ Fr [g] w w' := by
  have hcap := hlent.cap
  rw [hl] at hcap
  have hn' : (n : Int) ≤ 5000 := by omega
  have hn0 : (0 : Int) ≤ (n : Int) := by omega
  have hc1 : (n : Int) + 12 ≤ (cap : Int) := by omega
  have hcz : ¬ cap = 0 := by omega
  obtain ⟨cur0, hg0, _, hs0⟩ := hlent.ex
  clear hl hlent
  go_enter Tryz.func181, Tryz.ntmps181
  go_wp2_with fail
  go_loopw [3] (fun i wr => ∃ j : Nat, j ≤ n + 12 ∧ i = .int .i64 j ∧ (∃ cur : Array Value, wr.heap[g]? = some (.cells cur 5) ∧ cap ≤ cur.size) ∧ Fr [g] w wr) (fun i _ => n + 12 - (intOf i).toNat)
  case atStart => exact ⟨0, by omega, rfl, ⟨cur0, hg0, by omega⟩, Fr.refl _ _⟩
  case round =>
    obtain ⟨j, hj, rfl, ⟨cur, hg, hs⟩, fr⟩ := hrel
    by_cases hlt : j < n + 12
    · have hlt' : (j : Int) < (n : Int) + 12 := by omega
      have hj0 : (0 : Int) ≤ (j : Int) := by omega
      have hc := cell_of_row wr g j cur 5 (0, 0) hg
      rw [Array.getElem?_eq_getElem (show j < cur.size by omega)] at hc
      have hfz := frozen_of_row wr g j cur 5 hg
      go_wp2_with (go_at_call 230; refine (markByte_any _ 2 j (by omega) (by omega) hj0 (by omega)).mono ?_; rintro e w5 ⟨rfl, rfl⟩)
      exact ⟨⟨j + 1, by omega, by go_num, ⟨_, heap_setCell_same wr g j cur 5 _ hg, by simpa using hs⟩, fr.setCell _ _ (by simp)⟩, by simp [intOf]; omega⟩
    · obtain rfl : j = n + 12 := by omega
      go_wp2_with fail
      go_end0
      exact ⟨rfl, fr⟩


end Go.Proofs.YtopaeomjndblkaaGreat

namespace Go.Proofs.YtopaeomjndblkaaGreat.Dv
open Go.RowKit Go.Maps

set_option maxHeartbeats 400000 in
theorem made_nil (w : World) : Calls Tryz.prog 133 #[.pointer none] w fun e w' => e = .returned (.bool false) ∧ w' = w := by
  go_enter Tryz.func133, Tryz.ntmps133
  go_wp2
  go_ret
  exact ⟨rfl, rfl⟩

set_option maxHeartbeats 400000 in
theorem made_no (w : World) (p : Nat) (c0 : w.cell? ⟨p, 0, none⟩ = some (.int .i64 0)) : Calls Tryz.prog 133 #[.pointer (some ⟨p, 0, none⟩)] w fun e w' => e = .returned (.bool false) ∧ w' = w := by
  go_enter Tryz.func133, Tryz.ntmps133
  go_wp2
  go_ret
  exact ⟨rfl, rfl⟩

theorem made_none (w : World) (v : Value) (h : NoDev w v) : Calls Tryz.prog 133 #[v] w fun e w' => e = .returned (.bool false) ∧ w' = w := by
  rcases h with rfl | ⟨p, rfl, hc⟩
  · exact made_nil w
  · exact made_no w p hc

set_option maxHeartbeats 400000 in
theorem new_no (k : Int) (w : World) (h : k < 1 ∨ 65536 < k) : Calls Tryz.prog 36 #[.int .i64 k] w fun e w' => e = .returned (.pointer none) ∧ w' = w := by
  by_cases h1 : k < 1
  · clear h
    go_enter Tryz.func36, Tryz.ntmps36
    go_wp2
    go_ret
    exact ⟨rfl, rfl⟩
  · have h2 : 65536 < k := by omega
    clear h
    go_enter Tryz.func36, Tryz.ntmps36
    go_wp2
    go_ret
    exact ⟨rfl, rfl⟩

set_option maxHeartbeats 400000 in
theorem blocks_none (w : World) (v : Value) (h : NoDev w v) : Calls Tryz.prog 120 #[v] w fun e w' => e = .returned (.int .i64 0) ∧ w' = w := by
  go_enter Tryz.func120, Tryz.ntmps120
  go_wp2_with (go_at_call 133; refine (made_none _ _ h).mono ?_; rintro e w' ⟨rfl, rfl⟩)
  go_ret
  exact ⟨rfl, rfl⟩

end Go.Proofs.YtopaeomjndblkaaGreat.Dv

namespace Go.Proofs.YtopaeomjndblkaaGreat
open Go.RowKit Go.Maps

section
variable {ops : Array Oper} {rest : List Oper} {o : Oper} {a : Act} {w : World} {Q : Exit → Act → World → Prop}
end
theorem bchanges_any {w : World} {p d l pp dp : Nat} (h : BBox w p d l pp dp) {x : Dl} (hx : DlAt w dp x) : Calls Tryz.prog 27 #[.pointer (some ⟨p, 0, none⟩)] w fun e w' => e = .returned (.int .i64 x.chg) ∧ w' = w := by
  have c3 := h.c3
  have d2 := hx.c2
  go_enter Tryz.func27, Tryz.ntmps27
  go_wp2_with (go_at_call 88; refine (bmade_yes h).mono ?_; rintro e wz ⟨rfl, hz⟩; rw [hz]; clear hz)
  go_ret
  exact ⟨rfl, rfl⟩
theorem idle_in {w : World} {p d l pp dp : Nat} (h : BBox w p d l pp dp) {x : Dl} (hx : DlAt w dp x) (h0 : x.st ≠ 0) : Calls Tryz.prog 94 #[.pointer (some ⟨p, 0, none⟩)] w fun e w' => e = .returned (.int .i64 7) ∧ w' = w := by
  have hb : (x.st != 0) = true := by simpa using h0
  go_enter Tryz.func94, Tryz.ntmps94
  go_wp2_with (first | (go_at_call 88; refine (bmade_yes h).mono ?_; rintro e wz ⟨rfl, hz⟩; rw [hz]; clear hz) | (go_at_call 26; refine (bkin_any h hx).mono ?_; rw [hb]; rintro e wz ⟨rfl, hz⟩; rw [hz]; clear hz))
  go_ret
  exact ⟨rfl, rfl⟩
/-- No transaction. -/
theorem within_out {w : World} {p d l pp dp : Nat} (h : BBox w p d l pp dp) {x : Dl} (hx : DlAt w dp x) (h0 : x.st = 0) (g n c : Nat) (hn : n ≤ 100) (hg : ∀ i, i < n → ∃ v : Int, v ≠ 0 ∧ w.cell? ⟨g, i, none⟩ = some (.int .i64 v)) : Calls Tryz.prog 96 #[.pointer (some ⟨p, 0, none⟩), .slice (some ⟨g, 0, none⟩) n c] w fun e w' => e = .returned (.int .i64 7) ∧ w' = w := by
  have c3 := h.c3
  have d0 := hx.c0
  rw [h0] at d0
  clear h0
  have HG := hidI hg
  clear hg
  go_enter Tryz.func96, Tryz.ntmps96
  go_wp2_with (go_at_call 88; refine (bmade_yes h).mono ?_; rintro e wz ⟨rfl, hz⟩; rw [hz]; clear hz)
  go_loopw [12] (fun s12 wr => ∃ i : Nat, s12 = .int .i64 (i : Int) ∧ i ≤ n ∧ wr = w) (fun i _ => n - (intOf i).toNat)
  case atStart => exact ⟨0, rfl, by omega, rfl⟩
  case round =>
    obtain ⟨i, rfl, hi, hwr⟩ := hrel
    subst hwr
    by_cases hlt : i < n
    · have q1 : (i : Int) < (n : Int) := by omega
      obtain ⟨v, hv, hc⟩ := HG.out i hlt
      have q2 : ((0 : Int) == v) = false := by rw [beq_eq_false_iff_ne]; exact fun e => hv e.symm
      go_wp2_with fail
      refine ⟨⟨i + 1, by go_num, by omega, trivial⟩, ?_⟩
      simp [intOf]
      omega
    · have q1 : ¬ (i : Int) < (n : Int) := by omega
      go_wp2_with fail
      go_ret
      exact ⟨rfl, rfl⟩
end Go.Proofs.YtopaeomjndblkaaGreat

namespace Go.Proofs.YtopaeomjndblkaaGreat
open Go.RowKit Go.Maps

set_option maxHeartbeats 400000 in
theorem pmade_nil (w : World) : Calls Tryz.prog 75 #[.pointer none] w fun e w' => e = .returned (.bool false) ∧ w' = w := by
  go_enter Tryz.func75, Tryz.ntmps75
  go_wp2
  go_ret
  exact ⟨rfl, rfl⟩
set_option maxHeartbeats 400000 in
theorem pmade_zero (w : World) (p : Nat) (h : w.cell? ⟨p, 0, none⟩ = some (.pointer none)) : Calls Tryz.prog 75 #[.pointer (some ⟨p, 0, none⟩)] w fun e w' => e = .returned (.bool false) ∧ w' = w := by
  go_enter Tryz.func75, Tryz.ntmps75
  go_wp2
  go_ret
  exact ⟨rfl, rfl⟩
theorem pmade_no (w : World) (v : Value) (h : NoPool w v) : Calls Tryz.prog 75 #[v] w fun e w' => e = .returned (.bool false) ∧ w' = w := by
  rcases h with rfl | ⟨p, rfl, h⟩
  · exact pmade_nil w
  · exact pmade_zero w p h
set_option maxHeartbeats 1000000 in
theorem reach_out {w : World} {pp : Nat} {x : Pf} (h : PBox' w pp x) {k : Int} (hk : k < 0 ∨ (x.pages : Int) ≤ k) :
    Calls Tryz.prog 171 #[.pointer (some ⟨pp, 0, none⟩), .int .i64 k] w fun e w' => e = .returned (.tuple #[.pointer none, .int .i64 6]) ∧ w' = w := by
  have hr : hasR x k = 6 := by
    unfold hasR
    rw [if_pos hk]
  go_enter Tryz.func171, Tryz.ntmps171
  go_wp2_with (go_at_call 167; refine (has_any h _).mono ?_; rw [hr]; rintro e wz ⟨rfl, hz⟩; rw [hz]; clear hz)
  go_ret2
  exact ⟨rfl, rfl⟩
end Go.Proofs.YtopaeomjndblkaaGreat

namespace Go.Proofs.YtopaeomjndblkaaGreat
open Go.RowKit Go.Maps

theorem pages_no (w : World) (v : Value) (h : NoPool w v) : Calls Tryz.prog 17 #[v] w fun e w' => e = .returned (.int .i64 0) ∧ w' = w := by
  go_enter Tryz.func17, Tryz.ntmps17
  go_wp2_with (go_at_call 75; refine (pmade_no _ _ h).mono ?_; rintro e wz ⟨rfl, hz⟩; rw [hz]; clear hz)
  go_ret
  exact ⟨rfl, rfl⟩
end Go.Proofs.YtopaeomjndblkaaGreat

namespace Go.Proofs.YtopaeomjndblkaaGreat.Pg
open Go.RowKit Go.Maps

theorem SlAt.at512 {w : World} {ad : Option Addr} {n c : Nat} {l : List UInt8} (h : SlAt w ad n c l) (hn : n = 512) : ∃ g o, ad = some ⟨g, o, none⟩ ∧ At512 w g o c l := by
  obtain ⟨g, o, e, _⟩ := h.bytes.at 0 (by rw [h.len]; omega)
  subst e
  exact ⟨g, o, rfl, by rw [h.len]; exact hn, h.bytes, by have := h.cap; omega⟩
end Go.Proofs.YtopaeomjndblkaaGreat.Pg

namespace Go.Proofs.YtopaeomjndblkaaGreat.Pg
open Go.RowKit Go.Maps

theorem infoS' : ∃ i, Tryz.prog.info? 37 = some i ∧ i.zero = some (.slice none 0 0) ∧ i.size = 1 ∧ i.bytes = 24 := by
  have h : (Tryz.prog.info? 37).map (fun i => (i.zero, i.size, i.bytes)) = some (some (.slice none 0 0), 1, 24) := by kernel_rfl
  cases hi : Tryz.prog.info? 37 with
  | none => rw [hi] at h; cases h
  | some i =>
    rw [hi] at h
    simp at h
    exact ⟨i, rfl, h.1, h.2.1, h.2.2⟩

section
variable {ops : Array Oper} {rest : List Oper} {o : Oper} {a : Act} {w : World} {Q : Exit → Act → World → Prop}

end
end Go.Proofs.YtopaeomjndblkaaGreat.Pg

namespace Go.Proofs.YtopaeomjndblkaaGreat.Pg
open Go.RowKit Go.Maps

theorem own_row {w0 w : World} {v : Value} {n : Nat} {l : List UInt8} (h : Own w0 w v n (arr l).toList) (hl : l.length = n) (h0 : 0 < n) : ∃ g cap, v = .slice (some ⟨g, 0, none⟩) n cap ∧ RowB w g cap l ∧ w0.heap.size ≤ g := by
  rcases h.1.2 with ⟨_, hn⟩ | ⟨g, cap, cur, rfl, hb, hg, hnc, _, hcs, ht⟩
  · omega
  · refine ⟨g, cap, rfl, ⟨cur.toList.drop n, ?_, ?_⟩, hb⟩
    · rw [hg]
      refine congrArg (fun z => some (Obj.cells z 5)) (Array.ext' ?_)
      have h2 : cur.toList.take n = (arr l).toList := by simpa using ht
      rw [← h2]
      simp
    · have e1 : cur.toList.length = cur.size := rfl
      rw [List.length_drop, hl]
      omega

set_option maxHeartbeats 400000 in
set_option maxRecDepth 100000 in
theorem copyBytes_any (w : World) (ad : Option Addr) (n c : Nat) (l : List UInt8) (h : SlAt w ad n c l) (hn : n ≤ 1000000) (hnil : ad = none → c = 0) :
    Calls Tryz.prog 42 #[.slice ad n c] w fun e w' => ∃ ad' cap', e = .returned (.slice ad' n cap') ∧ SlAt w' ad' n cap' l ∧ (ad' = none → cap' = 0) ∧ (0 < n → ∃ g, ad' = some ⟨g, 0, none⟩ ∧ RowB w' g cap' l ∧ w.heap.size ≤ g) ∧ Fr [] w w' := by
  obtain ⟨i, hi, hz, hs, hb⟩ := info5'
  cases ad with
  | none =>
    obtain rfl : c = 0 := hnil rfl
    obtain rfl : n = 0 := by have := h.cap; omega
    go_enter Tryz.func42, Tryz.ntmps42
    go_wp2_with (refine wpList_append_own_none rfl _ _ 37 rfl w.heap.size 5 i 1 Tryz.underlying37 hi _ 0 [] rfl (World.ownsRow_nil _ _ _ _) rfl ?_)
    go_ret
    refine ⟨none, 0, rfl, h, fun _ => rfl, ?_⟩
    first
      | exact Fr.refl _ _
      | exact ⟨fun h0 => absurd h0 (by omega), Fr.refl _ _⟩
  | some a0 =>
    have HL : Hid (l.length = n) := h.len
    go_enter Tryz.func42, Tryz.ntmps42
    go_wp2_with (refine wp_app rfl _ _ rfl w _ 0 [] rfl ⟨World.ownsRow_nil _ _ _ _, Fr.refl _ _⟩ _ n c l rfl HL.out h.bytes (by omega) (fun _ => ⟨_, rfl⟩) ?_; intro v2 w2 o2; rw [Nat.zero_add, List.nil_append] at o2)
    go_ret
    by_cases h0 : 0 < n
    · obtain ⟨g, cap, rfl, row, hg⟩ := own_row o2 HL.out h0
      refine ⟨_, cap, rfl, ⟨HL.out, row.bytes, by have := row.cap; rw [HL.out] at this; exact this⟩, (fun e => nomatch e), fun _ => ⟨g, rfl, row, hg⟩, o2.2⟩
    · obtain rfl : n = 0 := by omega
      have e0 : l = [] := List.eq_nil_of_length_eq_zero HL.out
      subst e0
      rcases o2.1.2 with ⟨rfl, _⟩ | ⟨g, cap, cur, rfl, _⟩
      · exact ⟨none, 0, rfl, ⟨rfl, BytesAt.nil _ _, Nat.le_refl _⟩, fun _ => rfl, fun h1 => absurd h1 h0, o2.2⟩
      · exact ⟨_, cap, rfl, ⟨rfl, BytesAt.nil _ _, Nat.zero_le _⟩, (fun e => nomatch e), fun h1 => absurd h1 h0, o2.2⟩

end Go.Proofs.YtopaeomjndblkaaGreat.Pg

namespace Go.Proofs.YtopaeomjndblkaaGreat
open Go.RowKit Go.Maps

set_option maxHeartbeats 2000000 in
set_option maxRecDepth 100000 in
theorem cbegin_ok (w : World) (nb most : Nat) (h0 : 24 ≤ nb) (h1 : nb ≤ 65536) (h3 : 8 ≤ most) (h4 : most ≤ 1024) :
    Calls Tryz.prog 23 #[.int .i64 (nb : Int), .int .i64 (most : Int)] w fun e w' => ∃ rg b, e = .returned (.tuple #[.pointer (some ⟨rg, 0, none⟩), .bool true]) ∧ CRig w' rg b ∧ Fresh b nb most 2 m111 ∧ (∀ k ∈ rg :: b.bp :: b.dp :: b.x.pp :: b.x.own, w.heap.size ≤ k) ∧ Fr [] w w' := by
  obtain ⟨cnt, hcnt⟩ : ∃ cnt : Int, (nb : Int) / 2 = cnt := ⟨_, rfl⟩
  obtain ⟨at', hat⟩ : ∃ at' : Int, (nb : Int) - cnt = at' := ⟨_, rfl⟩
  obtain ⟨pages, hpages⟩ : ∃ pages : Nat, (nb : Int) - 2 - cnt = (pages : Int) := ⟨((nb : Int) - 2 - cnt).toNat, by omega⟩
  have z1 : 4 ≤ cnt := by omega
  have z2 : 2 ≤ at' := by omega
  have z3 : at' + cnt ≤ (nb : Int) := by omega
  have z4 : 1 ≤ pages := by omega
  have z5 : 2 + (pages : Int) ≤ at' := by omega
  have HCN := hidI hcnt
  have HAT := hidI hat
  have HPG := hidI hpages
  have HPL : Hid (∀ w', Calls Tryz.prog 87 #[.int .i64 (nb : Int)] w' fun e w'' => e = .returned (.tuple #[.int .i64 2, .int .i64 (pages : Int), .int .i64 at', .int .i64 cnt]) ∧ w'' = w') := hidI (fun w' => place_let w' nb pages at' cnt h0 h1 hcnt hat hpages)
  clear hcnt hat hpages
  go_enter Tryz.func23, Tryz.ntmps23
  go_wp2_with fail
  refine (Dv.new_dev (nb : Int) w (by omega) (by omega)).mono ?_
  rintro e w1 ⟨rfl, D1, f1⟩
  have f1' : Fr [] w w1 := fr_dv f1
  obtain ⟨d, hd⟩ : ∃ d, d = w.heap.size + 2 := ⟨_, rfl⟩
  obtain ⟨bo, hbo⟩ : ∃ bo, bo = w.heap.size + 1 := ⟨_, rfl⟩
  obtain ⟨bs, hbs⟩ : ∃ bs, bs = w.heap.size := ⟨_, rfl⟩
  rw [← hd, ← hbo, ← hbs] at D1
  rw [← hd]
  have HLT : Hid (w.heap.size ≤ d ∧ w.heap.size ≤ bs ∧ w.heap.size ≤ bo ∧ d < w1.heap.size ∧ bs < w1.heap.size ∧ bo < w1.heap.size) := hidI (by
    have a1 : d < w1.heap.size := (Array.getElem?_eq_some_iff.1 D1.cells).1
    omega)
  have D1' := hidI D1
  clear hd hbo hbs D1 f1
  have f2 : Fr [] w1 (w1.alloc (.cells #[.pointer (some ⟨d, 0, none⟩), .pointer none, .pointer none, .pointer none] 62)) := (Fr.refl [] w1).alloc _
  have r2 := heap_alloc_new w1 (.cells #[.pointer (some ⟨d, 0, none⟩), .pointer none, .pointer none, .pointer none] 62)
  obtain ⟨w2, hw2⟩ : ∃ w2, w1.alloc (.cells #[.pointer (some ⟨d, 0, none⟩), .pointer none, .pointer none, .pointer none] 62) = w2 := ⟨_, rfl⟩
  rw [hw2] at f2 r2
  have D2 := hidI (dev_kept D1'.out f2 (by simp) (by simp) (by simp))
  have x0 := cell_of_row _ w1.heap.size 0 _ _ _ r2
  have nrg : w1.heap.size ∉ [d, bs, bo] := by
    intro hm
    have := HLT.out
    simp at hm
    omega
  go_wp2_with fail
  refine (format_any w2 d bs bo (nb : Int) _ _ D2.out (by omega) (by omega)).mono ?_
  rintro e w3 ⟨rfl, ⟨O', hO, D3⟩, f3⟩
  have r3 := f3.same nrg r2
  have y0 := cell_of_row _ w1.heap.size 0 _ _ _ r3
  have HO := hidI hO
  have D3' : Hid (Dv.Dev w3 d bs bo (nb : Int) 0 false (fmS O') Dv.Tab.none) := hidI D3
  clear hO D3 x0
  go_wp2_with (go_at_call 87; refine (HPL.out _).mono ?_; rintro e w9 ⟨rfl, hz⟩; rw [hz]; clear hz)
  refine (open_zero w3 d bs bo (nb : Int) 0 _ _ D3'.out at' cnt 2 (by omega) z3 z1 (by omega) (by omega) (by rw [fm_zero HO.out (by omega) (by omega) (by omega)]; exact zs_stamp)).mono ?_
  rintro e w4 ⟨p, rfl, L4, hp4, f4⟩
  have r4 := f4.same (by simp) r3
  have v0 := cell_of_row _ w1.heap.size 0 _ _ _ r4
  have v1 := cell_of_row _ w1.heap.size 1 _ _ _ r4
  have fz1 := frozen_of_row w4 w1.heap.size 1 _ _ r4
  have D4 := hidI (dev_kept D3'.out f4 (by simp) (by simp) (by simp))
  have L4' := hidI L4
  clear L4 y0
  have r5 := heap_setCell_same w4 w1.heap.size 1 _ _ (.pointer (some ⟨p, 0, none⟩)) r4
  have f5 := fr_set w4 w1.heap.size 1 (.pointer (some ⟨p, 0, none⟩))
  have np : p ≠ w1.heap.size := fun e => by
    have h1 := L4'.out
    unfold LBox at h1
    rw [e, r4] at h1
    simp at h1
  have LO5 : Hid (LoAt (w4.setCell ⟨w1.heap.size, 1, none⟩ (.pointer (some ⟨p, 0, none⟩))) (loF d bs bo (nb : Int) (fmS O') p at' cnt 2)) := hidI (loF_at (dev_kept D4.out f5 (fun e => nrg (by simp at e; simp [e])) (fun e => nrg (by simp at e; simp [e])) (fun e => nrg (by simp at e; simp [e]))) z1 z2 z3 (by omega) (L4'.out.kept f5 (by simpa using np)))
  go_wp2_with fail
  generalize w4.setCell ⟨w1.heap.size, 1, none⟩ (.pointer (some ⟨p, 0, none⟩)) = w5 at r5 f5 LO5 ⊢
  have r5' : w5.heap[w1.heap.size]? = some (.cells #[.pointer (some ⟨d, 0, none⟩), .pointer (some ⟨p, 0, none⟩), .pointer none, .pointer none] 62) := r5
  have u0 := cell_of_row _ w1.heap.size 0 _ _ _ r5'
  have u1 := cell_of_row _ w1.heap.size 1 _ _ _ r5'
  have HNP : Hid (∀ w', Fr [] w5 w' → Calls Tryz.prog 74 #[.pointer (some ⟨d, 0, none⟩), .pointer (some ⟨p, 0, none⟩), .int .i64 2, .int .i64 (pages : Int), .int .i64 (most : Int)] w' fun e w'' => ∃ pp rp mp, e = .returned (.pointer (some ⟨pp, 0, none⟩)) ∧ Hid (PoAt w'' ⟨loF d bs bo (nb : Int) (fmS O') p at' cnt 2, pp, rp, mp, 2, pages, most, none, 0, 0, []⟩ ∧ w5.heap.size ≤ pp ∧ w5.heap.size ≤ rp ∧ w5.heap.size ≤ mp ∧ Fr [] w5 w'')) := hidI (fun w' f => by
    have h9 := new_ok (LO5.out.kept f (by simp)) 2 pages most z4 (by show (2 : Int) + (pages : Int) ≤ (nb : Int); omega) h3 h4 (Or.inl (by show (2 : Int) + (pages : Int) ≤ at'; omega)) (by show (2 : Int) ≤ 2; omega)
    refine h9.mono ?_
    rintro e w'' ⟨pp, rp, mp, he, P, a1, a2, a3, f9⟩
    have hsz := f.size
    exact ⟨pp, rp, mp, he, hidI ⟨P, by omega, by omega, by omega, f.trans f9⟩⟩)
  clear v0 v1 fz1 r5
  go_region_law ((go_simp; go_at_call 74; refine (HNP.out _ (Fr.refl [] w5).drew).mono ?_; rintro e w6 ⟨pp, rp, mp, rfl, H6⟩; have r6 := H6.out.2.2.2.2.same (by simp) r5'; have t2 := cell_of_row _ w1.heap.size 2 _ _ _ r6; have tz := frozen_of_row w6 w1.heap.size 2 _ _ r6))
  all_goals
    have nrp := po_notin H6.out.1 r6 (by decide) (by decide) (by decide)
    have r7 := heap_setCell_same w6 w1.heap.size 2 _ _ (.pointer (some ⟨pp, 0, none⟩)) r6
    have f7 := fr_set w6 w1.heap.size 2 (.pointer (some ⟨pp, 0, none⟩))
    have P7 := hidI (H6.out.1.kept f7 (fun k hk e => by simp at e; rw [e] at hk; exact nrp hk))
    generalize w6.setCell ⟨w1.heap.size, 2, none⟩ (.pointer (some ⟨pp, 0, none⟩)) = w7 at r7 f7 P7 ⊢
    have r7' : w7.heap[w1.heap.size]? = some (.cells #[.pointer (some ⟨d, 0, none⟩), .pointer (some ⟨p, 0, none⟩), .pointer (some ⟨pp, 0, none⟩), .pointer none] 62) := r7
    have y0 := cell_of_row _ w1.heap.size 0 _ _ _ r7'
    have y1 := cell_of_row _ w1.heap.size 1 _ _ _ r7'
    have y2 := cell_of_row _ w1.heap.size 2 _ _ _ r7'
    have HNB : Hid (∀ w', Fr [] w7 w' → Calls Tryz.prog 39 #[.pointer (some ⟨d, 0, none⟩), .pointer (some ⟨p, 0, none⟩), .pointer (some ⟨pp, 0, none⟩)] w' fun e w'' => ∃ bp dp, e = .returned (.pointer (some ⟨bp, 0, none⟩)) ∧ Hid (BkAt w'' ⟨⟨loF d bs bo (nb : Int) (fmS O') p at' cnt 2, pp, rp, mp, 2, pages, most, none, 0, 0, []⟩, bp, dp, dl0⟩ ∧ w7.heap.size ≤ bp ∧ w7.heap.size ≤ dp ∧ Fr [] w7 w'')) := hidI (fun w' f => by
      have e1 := HPG.out
      have e2 := HCN.out
      have h9 := new_book (P7.out.kept f (by simp)) (fm_mas HO.out (by omega)) (by show (24 : Int) ≤ (nb : Int); omega) (by show (pages : Int) = (nb : Int) - 2 - (nb : Int) / 2; omega) (fun f hf => nomatch hf) ⟨List.Pairwise.nil, fun v hv => nomatch hv⟩
      refine h9.mono ?_
      rintro e w'' ⟨bp, dp, he, P, a1, a2, f9⟩
      have hsz := f.size
      exact ⟨bp, dp, he, hidI ⟨P, by omega, by omega, f.trans f9⟩⟩)
    have HR7 := hidI r7'
    clear r7 r7'
    go_wp2_with fail
    go_region_law ((go_simp; go_at_call 39; refine (HNB.out _ (Fr.refl [] w7).drew).mono ?_; rintro e w8 ⟨bp, dp, rfl, H8⟩; have r8 := H8.out.2.2.2.same (by simp) HR7.out; have t3 := cell_of_row _ w1.heap.size 3 _ _ _ r8; have tz3 := frozen_of_row w8 w1.heap.size 3 _ _ r8))
    all_goals
      have n8 := po_notin H8.out.1.po r8 (by decide) (by decide) (by decide)
      have r9 := heap_setCell_same w8 w1.heap.size 3 _ _ (.pointer (some ⟨bp, 0, none⟩)) r8
      have f9 := fr_set w8 w1.heap.size 3 (.pointer (some ⟨bp, 0, none⟩))
      generalize w8.setCell ⟨w1.heap.size, 3, none⟩ (.pointer (some ⟨bp, 0, none⟩)) = w9 at r9 f9 ⊢
      have r9' : w9.heap[w1.heap.size]? = some (.cells #[.pointer (some ⟨d, 0, none⟩), .pointer (some ⟨p, 0, none⟩), .pointer (some ⟨pp, 0, none⟩), .pointer (some ⟨bp, 0, none⟩)] 62) := r9
      have x3 := cell_of_row _ w1.heap.size 3 _ _ _ r9'
      have HR9 := hidI r9'
      clear r9 r9' r8
      go_wp2_with fail
      go_region_law fail
      all_goals
        go_wp2_with fail
        go_ret2
        have FIN : ∀ W, Fr [] w9 W → (CRig W w1.heap.size ⟨⟨loF d bs bo (nb : Int) (fmS O') p at' cnt 2, pp, rp, mp, 2, pages, most, none, 0, 0, []⟩, bp, dp, dl0⟩ ∧ Fresh ⟨⟨loF d bs bo (nb : Int) (fmS O') p at' cnt 2, pp, rp, mp, 2, pages, most, none, 0, 0, []⟩, bp, dp, dl0⟩ nb most 2 m111 ∧ (∀ k ∈ w1.heap.size :: bp :: dp :: pp :: (⟨loF d bs bo (nb : Int) (fmS O') p at' cnt 2, pp, rp, mp, 2, pages, most, none, 0, 0, []⟩ : Po).own, w.heap.size ≤ k) ∧ Fr [] w W) := fun W fW => by
          obtain ⟨B8, hb8, hd8, g8⟩ := H8.out
          obtain ⟨P6, hp6, hr6, hm6, g6⟩ := H6.out
          have l1 := f1'.size
          have l2 := f2.size
          have l3 := f3.size
          have l4 := f4.size
          have l5 := f5.size
          have l6 := g6.size
          have l7 := f7.size
          have hl := HLT.out
          have r2l : w1.heap.size < w2.heap.size := (Array.getElem?_eq_some_iff.1 r2).1
          have B9 := B8.kept f9 (by simp; omega) (by simp; omega) (fun k hk e => by simp at e; rw [e] at hk; exact n8 hk)
          refine ⟨⟨fW.same (by simp) HR9.out, B9.quiet fW⟩, ?_, ?_, ?_⟩
          · have e1 := HCN.out
            have e2 := HAT.out
            have e3 := HPG.out
            refine ⟨rfl, by show (pages : Int) = _; omega, rfl, rfl, rfl, by show at' = _; omega, by show cnt = _; omega, rfl, rfl, rfl, rfl, fm_mas HO.out (by omega), fun q hq => Or.inr ⟨by simp [ids], ?_⟩⟩
            have hq' : q < pages := hq
            show Dv.latest (fmS O') Dv.Tab.none ((2 : Int) + (q : Int)) = zs 512
            exact fm_zero HO.out (by omega) (by omega) (by omega)
          · intro k hk
            simp [Po.own, ownR, loF, Lo.own, Value.ownBlock] at hk
            omega
          · have a1 : Fr [] w w2 := f1'.trans f2
            have a2 : Fr [] w w3 := a1.then f3 (fun i hi hm => by simp at hm; omega)
            have a3 : Fr [] w w5 := (a2.trans f4).then f5 (fun i hi hm => by simp at hm; omega)
            have a4 : Fr [] w w7 := (a3.trans g6).then f7 (fun i hi hm => by simp at hm; omega)
            exact ((a4.trans g8).then f9 (fun i hi hm => by simp at hm; omega)).trans fW
        first
          | exact ⟨w1.heap.size, _, rfl, FIN _ (Fr.refl [] w9)⟩
          | exact ⟨w1.heap.size, _, rfl, FIN _ (Fr.refl [] w9).drew⟩
end Go.Proofs.YtopaeomjndblkaaGreat

namespace Go.Proofs.YtopaeomjndblkaaGreat
open Go.RowKit Go.Maps
open Pg (SpE diffS byteAt)

theorem Env.pntd {b b' : Bk} {nb : Nat} {m : Mst} (h : Env b nb m) (t : Pntd b b' m) : Env b' nb ⟨m.seq + 1, m.turn, (b.x.y.E : Int) + 1⟩ :=
  ⟨h.n0, h.n1, by rw [t.al.2.1]; exact h.pages, by rw [t.al.1]; exact h.start, by rw [t.nb]; exact h.nb, by rw [t.first]; exact h.first, by rw [t.count]; exact h.count, by rw [t.lw]; exact h.lw, t.mas⟩
/-- A Put that finds room. -/
theorem put_room {w : World} {b : Bk} (h : BkAt w b) {nb : Nat} {m : Mst} (en : Env b nb m) {H : List Ch} {V : Pages} (tx : InTx b H V) {page : Nat} (hp : page < b.x.pages) {g c : Nat} {data : List UInt8} (hd : data.length = 512) (hc : 512 ≤ c) (hb : BytesAt w (some ⟨g, 0, none⟩) data) (hgo : g ∉ b.dp :: b.x.own) (hE : b.x.y.E ≤ 390000) {i j : Nat} (same : ∀ k, k < 512 → (k < i ∨ j ≤ k) → byteAt (V page) k = byteAt data k) (hr : keptOf H + 35 + 97 * ((j - i : Nat) : Int) ≤ b.room) :
    Calls Tryz.prog 31 #[.pointer (some ⟨b.bp, 0, none⟩), .int .i64 (page : Int), .slice (some ⟨g, 0, none⟩) 512 c] w fun e w' => e = .returned (.int .i64 0) ∧ ∃ S b' H', sumN S ≤ 97 * ((j - i : Nat) : Int) ∧ PutOk w w' b H V page data S b' H' := by
  refine (put_to h en tx hp hd hc hb hgo hE).mono ?_
  rintro e w' ⟨r, he, S, hS, pt⟩
  have hb := sum_within same hS
  rcases pt with ⟨_, hlt, _⟩ | ⟨rfl, _, b', H', ok⟩
  · omega
  · exact ⟨he, S, b', H', hb, ok⟩
end Go.Proofs.YtopaeomjndblkaaGreat

namespace Go.Proofs.YtopaeomjndblkaaGreat
open Go.RowKit Go.Maps
open Pg (SpE diffS byteAt)

section
variable {w0 w : World} {bp : Nat} {b : Bk} {K : List (Nat × Obj)} (h : Ab w0 w bp b K) {nb : Nat} {m : Mst} (en : Env b nb m)
include h
include en
theorem ab_put1 {H : List Ch} {V : Pages} (tx : InTx b H V) {page : Nat} (hp : page < b.x.pages) {g c : Nat} {data : List UInt8} (hd : data.length = 512) (hc : 512 ≤ c) (hb : BytesAt w (some ⟨g, 0, none⟩) data) (hgo : g ∉ b.dp :: b.x.own) (hE : b.x.y.E ≤ 390000) {i j : Nat} (same : ∀ k, k < 512 → (k < i ∨ j ≤ k) → byteAt (V page) k = byteAt data k) (hr : keptOf H + 35 + 97 * ((j - i : Nat) : Int) ≤ b.room) :
    Calls Tryz.prog 31 #[.pointer (some ⟨bp, 0, none⟩), .int .i64 (page : Int), .slice (some ⟨g, 0, none⟩) 512 c] w fun e w' => e = .returned (.int .i64 0) ∧ ∃ S b' H', Hid (Ab w0 w' bp b' K ∧ sumN S ≤ 97 * ((j - i : Nat) : Int) ∧ PutOk w w' b H V page data S b' H') := by
  have h1 := put_room h.bk en tx hp hd hc hb hgo hE same hr
  rw [h.ebp] at h1
  refine h1.mono ?_
  rintro e w' ⟨he, S, b', H', hb', ok⟩
  exact ⟨he, S, b', H', hidI ⟨h.go ok.st, hb', ok⟩⟩
end
theorem PutOk.rm {w w' : World} {b : Bk} {H : List Ch} {V : Pages} {page : Nat} {data : List UInt8} {S : List SpE} {b' : Bk} {H' : List Ch} (h : PutOk w w' b H V page data S b' H') : b'.room = b.room - (logN S : Int) := by
  unfold Bk.room
  rw [h.tr.count, h.tr.A, h.E]
  omega
theorem Tr.rm {b b' : Bk} (h : Tr b b') (hE : b'.x.y.E = b.x.y.E) : b'.room = b.room := by
  unfold Bk.room
  rw [h.count, h.A, hE]
set_option maxRecDepth 100000 in
theorem op_make512 {o : Oper} {a : Act} {w : World} {K : Act → World → Prop} {Q : Exit → Act → World → Prop} (x y : Operand) (ho : o.op = .makeSlice 37 x y) (hx : a.eval x = .int .i64 512) (hy : a.eval y = .int .i64 512)
    (h : ∀ w' g, w.heap.size ≤ g → Blk w' g (zs 512) → Fr [] w w' → K (a.put o.dst (.slice (some ⟨g, 0, none⟩) 512 512)) w') : Oper.wp Tryz.prog o a w K Q := by
  obtain ⟨i, hi, hz, hs, hb⟩ := info5'
  have hrun := run_makeSlice (P := Tryz.prog) w 37 5 i (.int .u8 0) Tryz.underlying37 hi hz .i64 .i64 (512 : Int) (512 : Int) (by omega) (by omega) (by rw [hs]; decide) (by rw [hb]; decide) (by omega)
  have e1 : (512 : Int).toNat * 1 = 512 := rfl
  rw [hs, e1, arr_zeros] at hrun
  unfold Oper.wp execOp
  simp [ho, hx, hy, hrun, Result.andThen]
  exact h _ _ (Nat.le_refl _) (heap_alloc_new w _) ((Fr.refl _ _).alloc _)
end Go.Proofs.YtopaeomjndblkaaGreat

namespace Go.Proofs.YtopaeomjndblkaaGreat
open Go.RowKit Go.Maps
open Pg (SpE diffS byteAt)

theorem p57_length : p57.length = 512 := by simp [p57, zs_length]
theorem p57_same (k : Nat) (h : k < 5 ∨ 6 ≤ k) : byteAt (zs 512) k = byteAt p57 k := by
  unfold byteAt p57
  rw [List.getD_eq_getElem?_getD, List.getD_eq_getElem?_getD, List.getElem?_set_ne (by omega)]
theorem p57_at : p57[5]? = some 7 := by
  unfold p57
  rw [List.getElem?_set_self (by rw [zs_length]; omega)]
theorem zs_at5 : (zs 512)[5]? = some 0 := by
  unfold zs
  rw [List.getElem?_replicate, if_pos (by omega)]
theorem Blk.at5 {w : World} {g : Nat} {l : List UInt8} {x : UInt8} (h : Blk w g l) {j : Nat} (hj : l[j]? = some x) : w.cell? ⟨g, j, none⟩ = some (.int .u8 x.toNat) := by
  obtain ⟨hl, e⟩ := List.getElem?_eq_some_iff.1 hj
  have h1 : w.heap[g]? = some (.cells (arr l) 5) := h
  rw [cell_of_row w g j _ _ _ h1, arr_at, hj]
  rfl
theorem InTx.eb {b : Bk} {H : List Ch} {V : Pages} (tx : InTx b H V) {nb : Nat} {m : Mst} (en : Env b nb m) (hn : nb ≤ 400) {a : Nat} (hA : b.x.y.A ≤ a) : b.x.y.E ≤ a + 82000 := by
  have h1 := tx.Ele
  have h2 := en.count
  have h3 := keptOf_nonneg H
  omega
set_option maxHeartbeats 4000000 in
set_option maxRecDepth 100000 in
theorem cawake_any (w : World) : Calls Tryz.prog 22 #[] w fun e w' => e = .returned (.bool true) ∧ Fr [] w w' := by
  go_enter Tryz.func22, Tryz.ntmps22
  go_wp2_with fail
  refine (cbegin_ok w 24 8 (by omega) (by omega) (by omega) (by omega)).mono ?_
  rintro e w1 ⟨rg, b0, rfl, R1, fr0, new1, f1⟩
  obtain ⟨bp, hbp⟩ : ∃ bp, b0.bp = bp := ⟨_, rfl⟩
  have rbox := R1.box
  unfold CBox at rbox
  rw [hbp] at rbox
  have aw := R1.bk.away rbox (by decide) (by decide) (by decide) (by decide)
  have A1 := hidI (⟨R1.bk, f1, fun k hk => new1 k (by rcases List.mem_cons.1 hk with e | e <;> simp [e]), hbp, fun p hp => by simp at hp; subst hp; exact ⟨rbox, aw.2.1⟩⟩ : Ab w w1 bp b0 [(rg, .cells #[.pointer (some ⟨b0.x.y.d, 0, none⟩), .pointer (some ⟨b0.x.y.p, 0, none⟩), .pointer (some ⟨b0.x.pp, 0, none⟩), .pointer (some ⟨bp, 0, none⟩)] 62)])
  obtain ⟨K, hK⟩ : ∃ K : List (Nat × Obj), K = [(rg, .cells #[.pointer (some ⟨b0.x.y.d, 0, none⟩), .pointer (some ⟨b0.x.y.p, 0, none⟩), .pointer (some ⟨b0.x.pp, 0, none⟩), .pointer (some ⟨bp, 0, none⟩)] 62)] := ⟨_, rfl⟩
  rw [← hK] at A1
  have KC : Hid (∀ w' b', Ab w w' bp b' K → w'.cell? ⟨rg, 3, none⟩ = some (.pointer (some ⟨bp, 0, none⟩))) := hidI (fun w' b' h => cell_of_row w' rg 3 _ _ _ (h.kp _ (by rw [hK]; exact List.mem_cons_self)).1)
  have KN : Hid (∀ (g w' : Nat) , True) := hidI (fun _ _ => trivial)
  have HKr : Hid (∀ p ∈ K, p.1 = rg) := hidI (fun p hp => by rw [hK] at hp; simp at hp; rw [hp])
  have hrg : rg < w1.heap.size := R1.lt
  have FE := hidI (fr0.env (by omega) (by omega))
  have FI : Hid (Idle b0 V0) := hidI (fr0.idle (by omega) (by omega))
  have hE0 := fr0.E
  have hA0 := fr0.A
  clear R1 fr0 new1 hK rbox aw hbp KN
  have k1 := KC.out _ _ A1.out
  go_wp2_with fail
  refine (ab_beg A1.out FE.out FI.out (by decide)).mono ?_
  rintro e w2 ⟨rfl, b1, m1, H2⟩
  have k2 := KC.out _ _ H2.out.1
  go_wp2_with fail
  refine (ab_page H2.out.1 H2.out.2.tx.sh (page := 0) H2.out.1.bk.po.p1).mono ?_
  rintro e w3 ⟨g, b2, rfl, H3⟩
  have k3 := KC.out _ _ H3.out.1
  have hb3 : Blk w3 g (zs 512) := H3.out.2.blk
  have hg3 : w2.heap.size ≤ g := H3.out.2.new
  have hw2 : w1.heap.size ≤ w2.heap.size := H2.out.2.st.fr.size
  have c5 : w3.cell? ⟨g, 5, none⟩ = some (.int .u8 0) := hb3.at5 zs_at5
  have z5 := hb3.frozen 5
  have b4 : Blk (w3.setCell ⟨g, 5, none⟩ (.int .u8 7)) g p57 := hb3.set 5 7
  have f4 := fr_set w3 g 5 (.int .u8 7)
  have A4 := hidI (H3.out.1.blk hb3 f4 H3.out.2.out (Nat.le_trans (Nat.le_trans f1.size hw2) hg3) (fun p hp => by rw [HKr.out p hp]; omega))
  have EN2 := hidI (H2.out.2.env.tr H3.out.2.tr)
  have TX2 := hidI (H3.out.2.tx _ _ H2.out.2.tx)
  have hA1 := H2.out.2.ab (a := 0) (by omega) (by omega)
  have hA2 : b2.x.y.A ≤ 0 := by rw [H3.out.2.tr.A]; exact hA1
  have hs1 : m1.seq ≤ 2 := H2.out.2.s1
  have hr2 : (2448 : Int) ≤ b2.room := by
    have h1 := H2.out.2.room
    have h2 := H2.out.2.env.count
    have h3 := H3.out.2.tr.rm H3.out.2.E
    omega
  have hgo : g ∉ b2.dp :: b2.x.own := H3.out.2.out
  go_wp2_with fail
  generalize w3.setCell ⟨g, 5, none⟩ (.int .u8 7) = w4 at b4 f4 A4 ⊢
  have k4 := KC.out _ _ A4.out
  have HP1 := hidI (ab_put1 (A4.out.quiet ((Fr.refl [] w4).drew)) EN2.out TX2.out (page := 0) A4.out.bk.po.p1 (g := g) (c := 512) p57_length (Nat.le_refl _) (b4.kept ((Fr.refl [] w4).drew) (by simp)).bytes hgo (by have := TX2.out.eb EN2.out (by omega) hA2; omega) (i := 5) (j := 6) (fun k _ h => p57_same k h) (by show (0 : Int) + 35 + 97 * 1 ≤ b2.room; omega))
  clear k1 k2 k3 c5 z5 hb3 b4 f4
  go_region_held3 (fun w' => w'.cell? ⟨rg, 3, none⟩ = some (.pointer (some ⟨bp, 0, none⟩))) (first | exact hk | exact k4) ((first
    | (go_at_call 31; (with_reducible show Calls Tryz.prog 31 #[_, _, Value.slice (some ⟨g, 0, none⟩) 512 512] _ _); refine HP1.out.mono ?_; rintro e w5 ⟨rfl, S1, b3, H1, H5⟩; have hk := KC.out _ _ H5.out.1)
    | (go_at_call 32; refine (ab_com H5.out.1 (H5.out.2.2.env EN2.out) H5.out.2.2.tx (by have := H5.out.2.2.tx.eb (H5.out.2.2.env EN2.out) (by omega) (a := 0) (by rw [H5.out.2.2.tr.A]; exact hA2); omega)).mono ?_; rintro e w6 ⟨rfl, b4, H6⟩; have hk := KC.out _ _ H6.out.1)
    | (go_at_call 30; refine (ab_beg H6.out.1 H6.out.2.env H6.out.2.idle (by omega)).mono ?_; rintro e w7 ⟨rfl, b5, m5, H7⟩; have hk := KC.out _ _ H7.out.1)
    | (refine op_make512 _ _ rfl rfl rfl ?_; intro w8 g8 hg8 hb8 f8; have A8 := hidI (H7.out.1.quiet f8); have hk := KC.out _ _ A8.out)
    | (go_at_call 31; refine (ab_put1 A8.out H7.out.2.env H7.out.2.tx (page := 0) A8.out.bk.po.p1 (g := g8) (c := 512) (zs_length 512) (Nat.le_refl _) hb8.bytes (fun hm => by have := A8.out.bk.lt g8 (by rcases List.mem_cons.1 hm with e | e <;> simp [e]); have := H7.out.1.bk.lt g8 (by rcases List.mem_cons.1 hm with e | e <;> simp [e]); omega) (by have h1 := H5.out.2.2.tx.eb (H5.out.2.2.env EN2.out) (by omega) (a := 0) (by rw [H5.out.2.2.tr.A]; exact hA2); have h2 := H6.out.2.E; have h3 := H7.out.2.E; omega) (i := 5) (j := 6) (fun k _ h => (p57_same k h).symm) (by show (0 : Int) + 35 + 97 * 1 ≤ b5.room; have h1 := H7.out.2.room; have h2 := H7.out.2.env.count; omega)).mono ?_; rintro e w9 ⟨rfl, S2, b6, H2', H9⟩; have hk := KC.out _ _ H9.out.1)))
  have EN9 := hidI (H9.out.2.2.env H7.out.2.env)
  go_wp2_with fail
  refine (ab_page H9.out.1 H9.out.2.2.tx.sh (page := 0) H9.out.1.bk.po.p1).mono ?_
  rintro e w10 ⟨g10, b7, rfl, H10⟩
  have k10 := KC.out _ _ H10.out.1
  have hb10 : Blk w10 g10 (zs 512) := H10.out.2.blk
  have c10 : w10.cell? ⟨g10, 5, none⟩ = some (.int .u8 0) := hb10.at5 zs_at5
  have EN10 := hidI (EN9.out.tr H10.out.2.tr)
  have TX10 := hidI (H10.out.2.tx _ _ H9.out.2.2.tx)
  have hA10 : b7.x.y.A ≤ 100000 := by
    have h1 := H5.out.2.2.tx.eb (H5.out.2.2.env EN2.out) (by omega) (a := 0) (by rw [H5.out.2.2.tr.A]; exact hA2)
    have h2 := H6.out.2.E
    have h3 := H7.out.2.ab (a := 100000) (by rw [H6.out.2.tr.A, H5.out.2.2.tr.A]; omega) (by omega)
    rw [H10.out.2.tr.A, H9.out.2.2.tr.A]
    exact h3
  clear hb10
  go_wp2_with fail
  refine (ab_abo H10.out.1 EN10.out TX10.out (by omega) (by omega)).mono ?_
  rintro e w11 ⟨rfl, b8, H11⟩
  have k11 := KC.out _ _ H11.out.1
  have SH11 : Hid (Shows b8.x (setPg V0 0 p57)) := hidI (by
    have h := H11.out.2.idle.sh
    rw [H9.out.2.2.un] at h
    exact h)
  clear c10 k10
  go_wp2_with fail
  refine (ab_page H11.out.1 SH11.out (page := 0) H11.out.1.bk.po.p1).mono ?_
  rintro e w12 ⟨g12, b9, rfl, H12⟩
  have k12 := KC.out _ _ H12.out.1
  have hb12 : Blk w12 g12 p57 := H12.out.2.blk
  have c12 : w12.cell? ⟨g12, 5, none⟩ = some (.int .u8 7) := hb12.at5 p57_at
  have t12 : b9.t = dl0 := by rw [H12.out.2.t]; exact H11.out.2.idle.t
  have HIN : Hid (Calls Tryz.prog 26 #[.pointer (some ⟨bp, 0, none⟩)] w12 fun e w' => e = .returned (.bool false) ∧ w' = w12) := hidI (by
    have h := bkin_any H12.out.1.bk.box H12.out.1.bk.dl
    rw [t12, H12.out.1.ebp] at h
    exact h)
  have HPG : Hid (Calls Tryz.prog 24 #[.pointer (some ⟨bp, 0, none⟩)] w12 fun e w' => e = .returned (.int .i64 10) ∧ w' = w12) := hidI (by
    have h := bpages_any H12.out.1.bk
    have h2 := (H11.out.2.env.tr H12.out.2.tr).pages
    rw [H12.out.1.ebp, h2] at h
    exact h)
  clear k11 hb12 t12
  go_wp2_with (first
    | (go_at_call 26; refine HIN.out.mono ?_; rintro e wz ⟨rfl, hz⟩; rw [hz]; clear hz)
    | (go_at_call 24; refine HPG.out.mono ?_; rintro e wz ⟨rfl, hz⟩; rw [hz]; clear hz))
  go_ret
  exact ⟨rfl, H12.out.1.fr⟩
end Go.Proofs.YtopaeomjndblkaaGreat

namespace Go.Proofs.YtopaeomjndblkaaGreat
open Go.RowKit Go.Maps
open Pg (SpE diffS)

structure DdV where
  kind : Int
  page : Int
  off : Int
  many : Int
  ad : Option Addr
  c : Nat
  l : List UInt8
  odd : Bool
structure DdOk (w : World) (d : DdV) : Prop where
  kind : (Lit.int .i64 d.kind).wf = true
  page : (Lit.int .i64 d.page).wf = true
  off : (Lit.int .i64 d.off).wf = true
  many : (Lit.int .i64 d.many).wf = true
  b : BytesAt w d.ad d.l
  n : d.ad = none → d.l.length = 0 ∧ d.c = 0
  s : d.l.length ≤ maxLen
  k : d.l.length ≤ d.c
/-- Its six cells. -/
def ddV (d : DdV) : List Value := [.int .i64 d.kind, .int .i64 d.page, .int .i64 d.off, .int .i64 d.many, .slice d.ad d.l.length d.c, .bool d.odd]
theorem DdOk.kept {w w' : World} {d : DdV} (h : DdOk w d) (f : Fr [] w w') : DdOk w' d := { h with b := h.b.kept f (by simp) }
theorem copy_new (w : World) (g c : Nat) (l : List UInt8) (hl : l.length = 512) (hb : BytesAt w (some ⟨g, 0, none⟩) l) (hc : 512 ≤ c) :
    Calls Tryz.prog 42 #[.slice (some ⟨g, 0, none⟩) 512 c] w fun e w' => ∃ g' c', e = .returned (.slice (some ⟨g', 0, none⟩) 512 c') ∧ RowB w' g' c' l ∧ w.heap.size ≤ g' ∧ Fr [] w w' := by
  refine (Pg.copyBytes_any w (some ⟨g, 0, none⟩) 512 c l ⟨hl, hb, hc⟩ (by omega) (fun e => nomatch e)).mono ?_
  rintro e w' ⟨ad', cap', he, _, _, h, f⟩
  obtain ⟨g', rfl, hr, hg⟩ := h (by omega)
  exact ⟨g', cap', he, hr, hg, fr_pg f⟩
theorem pick_in (w : World) (x n : Int) (hx : (Lit.int .i64 x).wf = true) (h1 : 1 ≤ n) (h2 : n ≤ 1000000) : ∃ k : Nat, x % n = (k : Int) ∧ (k : Int) < n ∧ Calls Tryz.prog 40 #[.int .i64 x, .int .i64 n] w fun e w' => e = .returned (.int .i64 (k : Int)) ∧ w' = w := by
  have h := Pg.pick_any w x n hx h1 h2
  have a1 : 0 ≤ x % n := Int.emod_nonneg _ (by omega)
  have a2 : x % n < n := Int.emod_lt_of_pos _ (by omega)
  refine ⟨(x % n).toNat, by omega, by omega, ?_⟩
  rw [show (((x % n).toNat : Nat) : Int) = x % n by omega]
  exact h
set_option maxHeartbeats 4000000 in
set_option maxRecDepth 100000 in
theorem written_any (w : World) (g c : Nat) (l : List UInt8) (hl : l.length = 512) (hb : BytesAt w (some ⟨g, 0, none⟩) l) (hc : 512 ≤ c) (d : DdV) (ok : DdOk w d) :
    Calls Tryz.prog 41 #[.slice (some ⟨g, 0, none⟩) 512 c, .agg #[.int .i64 d.kind, .int .i64 d.page, .int .i64 d.off, .int .i64 d.many, .slice d.ad d.l.length d.c, .bool d.odd]] w fun e w' => ∃ g' c', e = .returned (.slice (some ⟨g', 0, none⟩) 512 c') ∧ Hid (∃ l', RowB w' g' c' l' ∧ l'.length = 512 ∧ w.heap.size ≤ g' ∧ Fr [] w w') := by
  have f1 : Fr [] w (w.alloc (.cells #[.int .i64 d.kind, .int .i64 d.page, .int .i64 d.off, .int .i64 d.many, .slice d.ad d.l.length d.c, .bool d.odd] 64)) := (Fr.refl [] w).alloc _
  have h1 := heap_alloc_new w (.cells #[.int .i64 d.kind, .int .i64 d.page, .int .i64 d.off, .int .i64 d.many, .slice d.ad d.l.length d.c, .bool d.odd] 64)
  obtain ⟨w1, hw1⟩ : ∃ w1, w.alloc (.cells #[.int .i64 d.kind, .int .i64 d.page, .int .i64 d.off, .int .i64 d.many, .slice d.ad d.l.length d.c, .bool d.odd] 64) = w1 := ⟨_, rfl⟩
  rw [hw1] at f1 h1
  have HOK := hidI (ok.kept f1)
  have hs : d.l.length ≤ maxLen := ok.s
  obtain ⟨D, HD⟩ : ∃ D : Nat, Hid (d.l.length = D) := ⟨_, rfl⟩
  rw [HD.out] at hs h1 hw1 ⊢
  have hD : D ≤ 9223372036854775807 := by unfold maxLen at hs; omega
  have HCP := hidI (copy_new w1 g c l hl (hb.kept f1 (by simp)) hc)
  have HL := hidI hl
  clear hl hb hc ok hs
  go_enter Tryz.func41, Tryz.ntmps41
  go_wp2_with fail
  refine HCP.out.mono ?_
  rintro e w2 ⟨g', c', rfl, r2, hg2, f2⟩
  have h2 := f2.same (by simp) h1
  have x2 := cell_of_row _ w.heap.size 2 _ _ _ h2
  obtain ⟨k0, _, hk0, HP⟩ := pick_in w2 d.off 512 HOK.out.off (by omega) (by omega)
  have HP' := hidI HP
  clear HP
  go_wp2_with (go_at_call 40; refine HP'.out.mono ?_; rintro e wz ⟨rfl, hz⟩; rw [hz]; clear hz)
  have R2 : Hid (∃ l', RowB w2 g' c' l' ∧ l'.length = 512 ∧ Fr [g'] w2 w2) := hidI ⟨l, r2, HL.out, Fr.refl _ _⟩
  have ng : g' ≠ w.heap.size := by
    have := (Array.getElem?_eq_some_iff.1 h1).1
    omega
  have hgw : w.heap.size ≤ g' := Nat.le_trans f1.size hg2
  clear r2 x2
  go_loopw [6, 7, 8] (fun s6 s7 s8 wr => ∃ a n : Nat, s6 = .int .i64 (a : Int) ∧ s7 = .int .i64 (n : Int) ∧ a ≤ 512 + n ∧ n ≤ 30 ∧ Hid (∃ l', RowB wr g' c' l' ∧ l'.length = 512 ∧ Fr [g'] w2 wr)) (fun _ s7 _ _ => 31 - (intOf s7).toNat)
  case atStart => exact ⟨k0, 0, rfl, rfl, by omega, by omega, R2⟩
  case round =>
    obtain ⟨a, n, rfl, rfl, ha, hn, HR⟩ := hrel
    obtain ⟨l1, hr1, hl1, hf1⟩ := HR.out
    have h3 := hf1.same (by simpa using ng.symm) h2
    have y3 := cell_of_row _ w.heap.size 3 _ _ _ h3
    have y4 := cell_of_row _ w.heap.size 4 _ _ _ h3
    obtain ⟨k1, _, hk1, HP1⟩ := pick_in wr d.many 30 HOK.out.many (by omega) (by omega)
    have HP1' := hidI HP1
    have e1 : IntKind.i64.wrap (1 + (k1 : Int)) = 1 + (k1 : Int) := wrapI _ (by omega) (by omega)
    clear HP1 hr1 hl1
    have FIN : Hid (Fr [] w wr) := hidI ((f1.trans f2).then hf1 (fun i hi hm => by simp at hm; omega))
    by_cases hlt : (n : Int) < 1 + (k1 : Int)
    · by_cases hD0 : 0 < D
      · have q0 : (0 : Int) < (D : Int) := by omega
        go_wp2_with (go_at_call 40; refine HP1'.out.mono ?_; rintro e wz ⟨rfl, hz⟩; rw [hz]; clear hz)
        clear y3 y4 h3 hf1
        go_loopw [6, 8] (fun s6 s8 wi => ∃ a' i : Nat, s6 = .int .i64 (a' : Int) ∧ s8 = .int .i64 (i : Int) ∧ a ≤ a' ∧ a' ≤ max a 512 ∧ i ≤ D ∧ i ≤ 512 ∧ i ≤ a' ∧ Hid (∃ l', RowB wi g' c' l' ∧ l'.length = 512 ∧ Fr [g'] w2 wi)) (fun s6 _ _ => 513 - (intOf s6).toNat)
        case atStart => exact ⟨a, 0, rfl, rfl, Nat.le_refl _, by omega, by omega, by omega, by omega, HR⟩
        case round =>
          obtain ⟨a', i, rfl, rfl, ha1, ha2, hi1, hi3, hi4, HI⟩ := hrel
          obtain ⟨l2, hr2, hl2, hf2⟩ := HI.out
          have h5 := hf2.same (by simpa using ng.symm) h2
          have y4 := cell_of_row _ w.heap.size 4 _ _ _ h5
          by_cases hi : i < D
          · by_cases ha3 : a' < 512
            · have qi : (i : Int) < (D : Int) := by omega
              have qa : (a' : Int) < 512 := by omega
              have hl3 : i < d.l.length := by rw [HD.out]; exact hi
              obtain ⟨bb, off, hbb, hc5⟩ := HOK.out.b.at i hl3
              obtain ⟨x, hx⟩ : ∃ x : UInt8, byteAt d.l i = x := ⟨_, rfl⟩
              rw [hx] at hc5
              have lb : bb < w1.heap.size := block_lt_of_cell hc5
              have hc6 : wr.cell? ⟨bb, off + i, none⟩ = some (.int .u8 x.toNat) := by
                have e1 := (World.cell?_of_block (f2.block bb lb (by simp))).trans hc5
                have l2' := f2.size
                exact (World.cell?_of_block (hf2.block bb (by omega) (by simp; omega))).trans e1
              have y5 : wr.cell? ⟨w.heap.size, 4, none⟩ = some (.slice (some ⟨bb, off, none⟩) D d.c) := by
                rw [y4, ← hbb]
                rfl
              have z1 : wr.frozen? ⟨g', a', none⟩ = false := hr2.frozen a'
              have z2 := hr2.cell a' (by omega)
              have e2 : IntKind.i64.wrap ((a' : Int) + 1) = (a' : Int) + 1 := wrapI _ (by omega) (by omega)
              have HNX : Hid (∃ l', RowB (wr.setCell ⟨g', a', none⟩ (.int .u8 x.toNat)) g' c' l' ∧ l'.length = 512 ∧ Fr [g'] w2 (wr.setCell ⟨g', a', none⟩ (.int .u8 x.toNat))) := hidI ⟨_, hr2.set a' x (by omega), by rw [List.length_set]; exact hl2, hf2.trans (fr_set wr g' a' _)⟩
              clear y4 hx hbb hr2 hf2 h5 hc5
              go_wp2_with fail
              exact ⟨⟨a' + 1, i + 1, rfl, rfl, by omega, by omega, by omega, by omega, by omega, HNX⟩, by simp [intOf]; omega⟩
            · have qa : ¬ (a' : Int) < 512 := by omega
              have qi : (i : Int) < (D : Int) := by omega
              have e2 : IntKind.i64.wrap ((a' : Int) + 1) = (a' : Int) + 1 := wrapI _ (by omega) (by omega)
              have e3 : IntKind.i64.wrap ((n : Int) + 1) = (n : Int) + 1 := wrapI _ (by omega) (by omega)
              clear hr2 hf2 h5
              go_wp2_with fail
              exact ⟨⟨a' + 1, n + 1, rfl, rfl, by omega, by omega, HI⟩, by simp [intOf]; omega⟩
          · have qi : ¬ (i : Int) < (D : Int) := by omega
            have e2 : IntKind.i64.wrap ((a' : Int) + 1) = (a' : Int) + 1 := wrapI _ (by omega) (by omega)
            have e3 : IntKind.i64.wrap ((n : Int) + 1) = (n : Int) + 1 := wrapI _ (by omega) (by omega)
            clear hr2 hf2 h5
            go_wp2_with fail
            exact ⟨⟨a' + 1, n + 1, rfl, rfl, by omega, by omega, HI⟩, by simp [intOf]; omega⟩
      · have q0 : ¬ (0 : Int) < (D : Int) := by omega
        have q9 : ¬ 0 < D := hD0
        obtain ⟨l1, hr1, hl1, hf1⟩ := HR.out
        go_wp2_with (go_at_call 40; refine HP1'.out.mono ?_; rintro e wz ⟨rfl, hz⟩; rw [hz]; clear hz)
        go_ret
        exact ⟨g', c', rfl, hidI ⟨l1, hr1, hl1, hgw, FIN.out⟩⟩
    · obtain ⟨l1, hr1, hl1, hf1⟩ := HR.out
      go_wp2_with (go_at_call 40; refine HP1'.out.mono ?_; rintro e wz ⟨rfl, hz⟩; rw [hz]; clear hz)
      go_ret
      exact ⟨g', c', rfl, hidI ⟨l1, hr1, hl1, hgw, FIN.out⟩⟩
end Go.Proofs.YtopaeomjndblkaaGreat

namespace Go.Proofs.YtopaeomjndblkaaGreat
open Go.RowKit Go.Maps

section
variable {w0 w : World} {bp : Nat} {b : Bk} {K : List (Nat × Obj)} (h : Ab w0 w bp b K)
include h
theorem ab_pages : Calls Tryz.prog 24 #[.pointer (some ⟨bp, 0, none⟩)] w fun e w' => e = .returned (.int .i64 (b.x.pages : Int)) ∧ w' = w := by
  have h1 := bpages_any h.bk
  rw [h.ebp] at h1
  exact h1
theorem ab_in : Calls Tryz.prog 26 #[.pointer (some ⟨bp, 0, none⟩)] w fun e w' => e = .returned (.bool (b.t.st != 0)) ∧ w' = w := by
  have h1 := bkin_any h.bk.box h.bk.dl
  rw [h.ebp] at h1
  exact h1
end
end Go.Proofs.YtopaeomjndblkaaGreat

namespace Go.Proofs.YtopaeomjndblkaaGreat
open Go.RowKit Go.Maps
open Pg (SpE diffS byteAt)

section
variable {w0 w w' : World} {bp : Nat} {K : List (Nat × Obj)} {b b1 b' : Bk}
end
section
variable {w0 w : World} {bp : Nat} {b : Bk} {K : List (Nat × Obj)} (h : Ab w0 w bp b K)
include h
end
/-- How much of the log a transaction has taken, and will take. -/
def phN (b : Bk) (H : List Ch) : Int := (b.x.y.E : Int) + keptOf H
section
variable {w0 w w' w2 : World} {bp : Nat} {K : List (Nat × Obj)} {nb : Nat} {m : Mst} {U : Pages} {b b' b2 : Bk} {H H' H2 : List Ch} {V V' V2 : Pages} {c d : Int}
end
end Go.Proofs.YtopaeomjndblkaaGreat

namespace Go.Proofs.YtopaeomjndblkaaGreat
open Go.RowKit Go.Maps
open Pg (SpE diffS byteAt)

section
variable {w0 w w' : World} {bp : Nat} {K : List (Nat × Obj)} {nb : Nat} {m : Mst} {U : Pages} {b b' : Bk} {H : List Ch} {V : Pages}
theorem env_pages {m' : Mst} (h : Env b nb m) (h' : Env b' nb m') : b'.x.pages = b.x.pages := by
  have h1 := h.pages
  have h2 := h'.pages
  omega
end
end Go.Proofs.YtopaeomjndblkaaGreat

namespace Go.Proofs.YtopaeomjndblkaaGreat
open Go.RowKit Go.Deep Go.ChangeShapes Go.WideShapes Go.ChangeAt

theorem Tryz.cells5 : Tryz.prog.cellsOf 5 = 1 := by kernel_rfl

theorem u8_bounds {x : Int} (h : (Lit.int .u8 x).wf = true) : 0 ≤ x ∧ x < 256 := by
  simp [Lit.wf, show IntKind.u8.min = 0 from rfl, show IntKind.u8.max = 255 from rfl] at h
  omega

variable {H : Type} {enc : TypeId × Value → H} {w : World} {base : Nat} {spare : Nat → Bool} {held : Bool}

end Go.Proofs.YtopaeomjndblkaaGreat

namespace Go.Proofs.YtopaeomjndblkaaGreat
open Go.RowKit Go.Deep Go.ChangeShapes Go.WideShapes Go.ChangeAt

variable {H : Type} {enc : TypeId × Value → H} {w : World} {base : Nat} {spare : Nat → Bool} {held : Bool}

set_option maxRecDepth 100000 in
theorem bytes_open2 {fuel : Nat} {cs : List Value} {x : DataW H × List MemPlace} (h : DataW.trod enc Tryz.prog w base spare held fuel 37 cs = some x) :
    ∃ ad len cap L, cs = [.slice ad len cap] ∧ L.length = len ∧ len ≤ cap ∧ cap ≤ maxLen ∧ BytesAt w ad L ∧ (ad = none → cap = 0) ∧ (len = 0 ∨ ∃ elems sp, x.1 = .slice elems sp ∧ elems.length = len) := by
  rcases open_slice Tryz.underlying37 h with ⟨hcs, _⟩ | ⟨a, len, cap, m, n, D, Pl, rfl, _, hl, hm, hmm, hxe, hx⟩
  · exact ⟨none, 0, 0, [], hcs, rfl, Nat.le_refl _, by unfold maxLen; omega, BytesAt.nil _ _, fun _ => rfl, Or.inl rfl⟩
  · have hlm : len ≤ m := by rw [hmm]; split <;> omega
    rw [Tryz.cells5] at hx
    have hel : ∀ i, i < m → ∃ v : Int, w.cell? (a.add i) = some (.int .u8 v) ∧ (Lit.int .u8 v).wf = true := by
      intro i hi
      obtain ⟨cs', h1, h2⟩ := hx i hi
      obtain ⟨_, hlen, hc⟩ := World.cells?_some h1
      match cs', hlen with
      | [c0], _ =>
        obtain ⟨v0, e0, _, w0⟩ := DataW.trod_int Tryz.underlying5 h2
        simp at e0
        subst e0
        have q0 := hc 0 (by omega)
        refine ⟨v0, ?_, w0⟩
        simpa [Addr.add] using q0
    obtain ⟨f, hf⟩ := choose_lt (α := Int) hel
    refine ⟨some a, len, cap, (List.range len).map fun i => UInt8.ofNat (f i).toNat, rfl, by simp, hl, hm, ?_, (fun h => nomatch h), Or.inr ⟨_, _, by rw [hxe], by simp⟩⟩
    intro i g hg
    have hi : i < len := by
      have := (List.getElem?_eq_some_iff.1 hg).1
      simpa [arr] using this
    have h0 := (hf 0 (by omega)).1
    obtain ⟨b, off, spot⟩ := a
    have hspot : spot = none := by simpa [Addr.add] using World.cell?_spot h0
    subst hspot
    obtain ⟨c0, w0⟩ := hf i (by omega)
    obtain ⟨w1, w2⟩ := u8_bounds w0
    refine ⟨b, off, rfl, ?_⟩
    rw [Addr.add_mid] at c0
    rw [c0, ← hg]
    have e : ((UInt8.ofNat (f i).toNat).toNat : Int) = f i := by rw [UInt8.toNat_ofNat']; omega
    simp only [arr, List.map_map, List.getElem?_map, List.getElem?_range hi, Option.map_some, Function.comp, e]

end Go.Proofs.YtopaeomjndblkaaGreat

