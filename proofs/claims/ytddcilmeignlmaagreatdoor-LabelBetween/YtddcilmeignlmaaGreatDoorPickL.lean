/-
  The laws' own helpers: Pick, CopyBytes.
-/
import Derived.Test.YtddcilmeignlmaaGreatDoorKids
import Derived.Deep.QuietTactic
import Derived.BigQuiet
namespace Go.Proofs.YtddcilmeignlmaaGreatDoor
open Go.RowKit Go.Maps

theorem i64_bounds {x : Int} (h : (Lit.int .i64 x).wf = true) : -9223372036854775808 ≤ x ∧ x ≤ 9223372036854775807 := by
  simp [Lit.wf, show IntKind.i64.min = -9223372036854775808 from rfl, show IntKind.i64.max = 9223372036854775807 from rfl] at h
  exact h

theorem tmod_neg {x n : Int} (h1 : 1 ≤ n) (h : x.tmod n < 0) : x.tmod n + n = x % n := by
  have e := Int.tmod_eq_emod (a := x) (b := n)
  have h2 := Int.emod_nonneg x (show n ≠ 0 by omega)
  split at e <;> omega
theorem tmod_pos {x n : Int} (h1 : 1 ≤ n) (h : 0 ≤ x.tmod n) : x.tmod n = x % n := by
  have e := Int.tmod_eq_emod (a := x) (b := n)
  have h2 := Int.emod_lt_of_pos x (show 0 < n by omega)
  split at e <;> omega
theorem wrap64_small {v : Int} (h0 : -9223372036854775808 ≤ v) (h1 : v ≤ 9223372036854775807) : wrap64 v = v := by
  unfold wrap64
  omega

theorem ret_int {k : IntKind} {a b : Int} (h : a = b) : Ending.returned (.int k a) = .returned (.int k b) := by rw [h]

set_option maxHeartbeats 400000 in
theorem pick_any (w : World) (x n : Int) (hx : (Lit.int .i64 x).wf = true) (h1 : 1 ≤ n) (h2 : n ≤ 1000000) :
    Calls Tryz.prog 26 #[.int .i64 x, .int .i64 n] w fun e w' => e = .returned (.int .i64 (x % n)) ∧ w' = w := by
  obtain ⟨b1, b2⟩ := i64_bounds hx
  have hn : ¬ n < 1 := by omega
  have g1 := Int.emod_nonneg x (show n ≠ 0 by omega)
  have g2 := Int.emod_lt_of_pos x (show 0 < n by omega)
  by_cases hneg : x.tmod n < 0
  · have e1 : Hid (wrap64 (x.tmod n + n) = x % n) := by rw [tmod_neg h1 hneg]; exact wrap64_small (by omega) (by omega)
    clear g1 g2
    go_enter Tryz.func26, Tryz.ntmps26
    go_wp2
    go_ret
    exact ⟨ret_int e1.out, rfl⟩
  · have e1 : Hid (x.tmod n = x % n) := tmod_pos h1 (by omega)
    clear g1 g2
    go_enter Tryz.func26, Tryz.ntmps26
    go_wp2
    go_ret
    exact ⟨ret_int e1.out, rfl⟩

set_option maxHeartbeats 400000 in
theorem copyBytes_some (w : World) (b n c : Nat) (l : List UInt8) (hl : l.length = n) (h0 : 0 < n) (hn : n ≤ 1000000) (hb : BytesAt w (some ⟨b, 0, none⟩) l) :
    Calls Tryz.prog 24 #[.slice (some ⟨b, 0, none⟩) n c] w fun e w' => ∃ v, e = .returned v ∧ Out w w' v l ∧ Fr [] w w' := by
  have hcell : ∀ j u, (arr l).toList[j]? = some u → w.cell? ⟨b, j, none⟩ = some u := fun j u hu => by
    obtain ⟨b', off, e, h⟩ := hb j u hu
    cases e
    simpa using h
  have hone : ∀ u ∈ (arr l).toList, u.oneCell' = true := fun u hu => by
    simp [arr] at hu
    obtain ⟨x, _, rfl⟩ := hu
    rfl
  have hlen : (arr l).toList.length = n := by simp [arr, hl]
  go_enter Tryz.func24, Tryz.ntmps24
  go_wp2_with (refine wp_app rfl _ _ rfl (.slice none 0 0) 0 [] rfl (World.ownsRow_nil _ _ _ _) b n c (arr l).toList hlen rfl hcell hone h0 (by omega) ?_; intro g cap w7 o7 f7 at7 lt7 keep7)
  go_ret
  rw [Nat.zero_add, List.nil_append] at o7
  refine ⟨_, rfl, ⟨some ⟨g, 0, none⟩, cap, by rw [hl]; rfl, o7.1.trans (by rw [hl]), ?_⟩, f7⟩
  subst hl
  have hg : w.heap.size ≤ g := by
    rcases at7 with e | e
    · cases e
    · omega
  rcases o7.2 with ⟨e, _⟩ | ⟨g', c', cur, e, _, r⟩
  · cases e
  · cases e
    exact Or.inr ⟨g, cap, cur, rfl, hg, r⟩

end Go.Proofs.YtddcilmeignlmaaGreatDoor
