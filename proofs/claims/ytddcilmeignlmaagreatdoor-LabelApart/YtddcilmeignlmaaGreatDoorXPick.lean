/-
  The laws' own helpers: SameBytes.
-/
import Derived.Test.YtddcilmeignlmaaGreatDoorKids
import Derived.Deep.QuietTactic
import Derived.BigQuiet
namespace Go.Proofs.YtddcilmeignlmaaGreatDoor
open Go.RowKit Go.Maps

theorem i64_bounds {x : Int} (h : (Lit.int .i64 x).wf = true) : -9223372036854775808 ≤ x ∧ x ≤ 9223372036854775807 := by
  simp [Lit.wf, show IntKind.i64.min = -9223372036854775808 from rfl, show IntKind.i64.max = 9223372036854775807 from rfl] at h
  exact h

theorem tmod_neg {x n : Int} (h1 : 1 ≤ n) (h : x.tmod n < 0) : x.tmod n + n = x % n := by
  have e := Int.tmod_eq_emod (a := x) (b := n)
  have h2 := Int.emod_nonneg x (show n ≠ 0 by omega)
  split at e <;> omega
theorem tmod_pos {x n : Int} (h1 : 1 ≤ n) (h : 0 ≤ x.tmod n) : x.tmod n = x % n := by
  have e := Int.tmod_eq_emod (a := x) (b := n)
  have h2 := Int.emod_lt_of_pos x (show 0 < n by omega)
  split at e <;> omega
theorem wrap64_small {v : Int} (h0 : -9223372036854775808 ≤ v) (h1 : v ≤ 9223372036854775807) : wrap64 v = v := by
  unfold wrap64
  omega

theorem ret_int {k : IntKind} {a b : Int} (h : a = b) : Ending.returned (.int k a) = .returned (.int k b) := by rw [h]

set_option maxHeartbeats 400000 in
theorem pick_any (w : World) (x n : Int) (hx : (Lit.int .i64 x).wf = true) (h1 : 1 ≤ n) (h2 : n ≤ 1000000) :
    Calls Tryz.prog 26 #[.int .i64 x, .int .i64 n] w fun e w' => e = .returned (.int .i64 (x % n)) ∧ w' = w := by
  obtain ⟨b1, b2⟩ := i64_bounds hx
  have hn : ¬ n < 1 := by omega
  have g1 := Int.emod_nonneg x (show n ≠ 0 by omega)
  have g2 := Int.emod_lt_of_pos x (show 0 < n by omega)
  by_cases hneg : x.tmod n < 0
  · have e1 : Hid (wrap64 (x.tmod n + n) = x % n) := by rw [tmod_neg h1 hneg]; exact wrap64_small (by omega) (by omega)
    clear g1 g2
    go_enter Tryz.func26, Tryz.ntmps26
    go_wp2
    go_ret
    exact ⟨ret_int e1.out, rfl⟩
  · have e1 : Hid (x.tmod n = x % n) := tmod_pos h1 (by omega)
    clear g1 g2
    go_enter Tryz.func26, Tryz.ntmps26
    go_wp2
    go_ret
    exact ⟨ret_int e1.out, rfl⟩

set_option maxHeartbeats 400000 in
theorem copyBytes_some (w : World) (b n c : Nat) (l : List UInt8) (hl : l.length = n) (h0 : 0 < n) (hn : n ≤ 1000000) (hb : BytesAt w (some ⟨b, 0, none⟩) l) :
    Calls Tryz.prog 24 #[.slice (some ⟨b, 0, none⟩) n c] w fun e w' => ∃ v, e = .returned v ∧ Out w w' v l ∧ Fr [] w w' := by
  have hcell : ∀ j u, (arr l).toList[j]? = some u → w.cell? ⟨b, j, none⟩ = some u := fun j u hu => by
    obtain ⟨b', off, e, h⟩ := hb j u hu
    cases e
    simpa using h
  have hone : ∀ u ∈ (arr l).toList, u.oneCell' = true := fun u hu => by
    simp [arr] at hu
    obtain ⟨x, _, rfl⟩ := hu
    rfl
  have hlen : (arr l).toList.length = n := by simp [arr, hl]
  go_enter Tryz.func24, Tryz.ntmps24
  go_wp2_with (refine wp_app rfl _ _ rfl (.slice none 0 0) 0 [] rfl (World.ownsRow_nil _ _ _ _) b n c (arr l).toList hlen rfl hcell hone h0 (by omega) ?_; intro g cap w7 o7 f7 at7 lt7 keep7)
  go_ret
  rw [Nat.zero_add, List.nil_append] at o7
  refine ⟨_, rfl, ⟨some ⟨g, 0, none⟩, cap, by rw [hl]; rfl, o7.1.trans (by rw [hl]), ?_⟩, f7⟩
  subst hl
  have hg : w.heap.size ≤ g := by
    rcases at7 with e | e
    · cases e
    · omega
  rcases o7.2 with ⟨e, _⟩ | ⟨g', c', cur, e, _, r⟩
  · cases e
  · cases e
    exact Or.inr ⟨g, cap, cur, rfl, hg, r⟩

end Go.Proofs.YtddcilmeignlmaaGreatDoor

namespace Go.Proofs.YtddcilmeignlmaaGreatDoor
open Go.RowKit Go.Maps

set_option maxHeartbeats 1000000 in
set_option maxRecDepth 100000 in
theorem same_len (w : World) (a1 a2 : Option Addr) (n1 n2 c1 c2 : Nat) (h : n1 ≠ n2) :
    Calls Tryz.prog 12 #[.slice a1 n1 c1, .slice a2 n2 c2] w fun e w' => e = .returned (.bool false) ∧ w' = w := by
  have hb : ((n1 : Int) == (n2 : Int)) = false := by simp; omega
  go_enter Tryz.func12, Tryz.ntmps12
  go_wp2
  go_ret
  exact ⟨rfl, rfl⟩

set_option maxHeartbeats 1000000 in
set_option maxRecDepth 100000 in
theorem same_any (w : World) (a1 a2 : Option Addr) (l1 l2 : List UInt8) (n c1 c2 : Nat) (h1 : BytesAt w a1 l1) (h2 : BytesAt w a2 l2) (n1 : l1.length = n) (n2 : l2.length = n) (hn : n ≤ 1000000) :
    Calls Tryz.prog 12 #[.slice a1 n c1, .slice a2 n c2] w fun e w' => e = .returned (.bool (l1 == l2)) ∧ Fr [] w w' := by
  have N1 : Hid (l1.length = n) := n1
  have N2 : Hid (l2.length = n) := n2
  clear n1 n2
  go_enter Tryz.func12, Tryz.ntmps12
  go_wp2
  go_loopw [5] (fun i wr => ∃ j : Nat, j ≤ n ∧ i = .int .i64 j ∧ l1.take j = l2.take j ∧ Fr [] w wr) (fun i _ => n - (intOf i).toNat)
  case atStart => exact ⟨0, by omega, rfl, by simp, Fr.refl _ _⟩
  case round =>
    obtain ⟨j, hj, rfl, ht, fr⟩ := hrel
    have HT : Hid (l1.take j = l2.take j) := ht
    clear ht
    by_cases hlt : j < n
    · have hlt' : (j : Int) < (n : Int) := by omega
      have hj0 : (0 : Int) ≤ (j : Int) := by omega
      have g1 : j < l1.length := by rw [N1.out]; exact hlt
      have g2 : j < l2.length := by rw [N2.out]; exact hlt
      obtain ⟨b1, o1, e1, q1⟩ := (h1.kept fr (by simp)) j (.int .u8 l1[j].toNat) (by simp [arr, g1])
      obtain ⟨b2, o2, e2, q2⟩ := (h2.kept fr (by simp)) j (.int .u8 l2[j].toNat) (by simp [arr, g2])
      subst e1 e2
      by_cases heq : l1[j] = l2[j]
      · have HQ : Hid (l1[j] = l2[j]) := heq
        have hbe : ((l1[j].toNat : Int) == (l2[j].toNat : Int)) = true := by rw [heq]; simp
        clear heq
        generalize hx1 : (l1[j].toNat : Int) = x1 at q1 hbe
        generalize hx2 : (l2[j].toNat : Int) = x2 at q2 hbe
        clear hx1 hx2
        go_wp2
        go_region_held3 (fun w' => w'.cell? ⟨b1, o1 + j, none⟩ = some (.int .u8 x1) ∧ w'.cell? ⟨b2, o2 + j, none⟩ = some (.int .u8 x2)) (go_keep) (fail)
        go_wp2
        refine ⟨⟨j + 1, by omega, by go_num, ?_, fr.drew⟩, by simp [intOf]; omega⟩
        rw [List.take_succ_eq_append_getElem g1, List.take_succ_eq_append_getElem g2, HT.out, HQ.out]
      · have hbe : ((l1[j].toNat : Int) == (l2[j].toNat : Int)) = false := by
          rw [beq_eq_false_iff_ne]
          intro e
          exact heq (UInt8.toNat_inj.1 (by omega))
        have HN : Hid ((l1 == l2) = false) := by
          show (l1 == l2) = false
          rw [beq_eq_false_iff_ne]
          intro e
          exact heq (by subst e; rfl)
        clear heq
        generalize hx1 : (l1[j].toNat : Int) = x1 at q1 hbe
        generalize hx2 : (l2[j].toNat : Int) = x2 at q2 hbe
        clear hx1 hx2
        go_wp2
        go_region_held3 (fun w' => w'.cell? ⟨b1, o1 + j, none⟩ = some (.int .u8 x1) ∧ w'.cell? ⟨b2, o2 + j, none⟩ = some (.int .u8 x2)) (go_keep) (fail)
        go_wp2
        go_ret
        exact ⟨by rw [HN.out]; rfl, fr.drew⟩
    · obtain rfl : j = n := by omega
      have HN : Hid ((l1 == l2) = true) := by
        show (l1 == l2) = true
        rw [beq_iff_eq]
        have := HT.out
        rw [List.take_of_length_le (by rw [N1.out]; omega), List.take_of_length_le (by rw [N2.out]; omega)] at this
        exact this
      go_wp2
      go_ret
      exact ⟨by rw [HN.out]; rfl, fr⟩

end Go.Proofs.YtddcilmeignlmaaGreatDoor

