/-
  strings.Builder: WriteRune of 0 and 1, String; write.
-/
import Derived.Test.YtddcilmeignlmaaGreatDoorBld
import Derived.Lib.UnsafeStr
import Derived.Shelf.RegionOpenPlain
namespace Go.Proofs.YtddcilmeignlmaaGreatDoor
open Go.RowKit Go.Maps Go.Lib

set_option maxHeartbeats 2000000 in
set_option maxRecDepth 100000 in
theorem appendRune_any (w : World) (ad : Option Addr) (n cap : Nat) (xs : List Value) (x : Int) (hx : x = 48 ∨ x = 49) (h : w.ownsRow 0 5 1 (.slice ad n cap) n xs) (hn : n + 1 ≤ 16777216) :
    Calls Tryz.prog 126 #[.slice ad n cap, .int .i32 x] w fun e w' => ∃ g cap', e = .returned (.slice (some ⟨g, 0, none⟩) (n + 1) cap') ∧ w'.ownsRow 0 5 1 (.slice (some ⟨g, 0, none⟩) (n + 1) cap') (n + 1) (xs ++ [.int .u8 x]) ∧ Fr (Value.slice ad n cap).ownBlock.toList w w' ∧ ((Value.slice ad n cap).ownBlock = some g ∨ w.heap.size ≤ g) := by
  have h2 : (w.alloc (.cells #[.int .u8 x] 5)).ownsRow 0 5 1 (.slice ad n cap) n xs := own_kept h ((Fr.refl [] w).alloc _) (by simp)
  have cX : (w.alloc (.cells #[.int .u8 x] 5)).cell? ⟨w.heap.size, 0, none⟩ = some (.int .u8 x) := by rw [cell_of_row _ _ _ _ _ _ (heap_alloc_new w _)]; rfl
  have f0 : Fr [] w (w.alloc (.cells #[.int .u8 x] 5)) := (Fr.refl _ _).alloc _
  clear h
  rcases hx with rfl | rfl
  all_goals
    go_enter Tryz.func126, Tryz.ntmps126
    go_wp2_with (refine wp_app rfl _ _ rfl (.slice ad n cap) n xs rfl h2 w.heap.size 1 1 [_] rfl rfl (by intro j q hq; cases j with | zero => (simp at hq; subst hq; exact cX) | succ j => simp at hq) (by intro q hq; simp at hq; subst hq; rfl) (by omega) (by omega) ?_; intro g cap' w7 o7 f7 at7 lt7 keep7)
    go_ret
    refine ⟨g, cap', rfl, o7, (f0.mono (by simp)).then f7 (fun i hi hm => hm), ?_⟩
    rcases at7 with e | e
    · exact Or.inl e
    · refine Or.inr ?_
      have := f0.size
      omega

set_option maxHeartbeats 2000000 in
set_option maxRecDepth 100000 in
theorem writeRune_any (w0 w : World) (b : Nat) (p : Value) (ad : Option Addr) (n cap : Nat) (xs : List Value) (x : Int) (hx : x = 48 ∨ x = 49) (h : BAt w0 w b p ad n cap xs) (hp : p = .pointer none ∨ p = .pointer (some ⟨b, 0, none⟩)) (hn : n + 1 ≤ 16777216) :
    Calls Tryz.prog 92 #[.pointer (some ⟨b, 0, none⟩), .int .i32 x] w fun e w' => ∃ ad' cap', e = .returned (.tuple #[.int .i64 1, .nilIface]) ∧ BAt w0 w' b (.pointer (some ⟨b, 0, none⟩)) ad' (n + 1) cap' (xs ++ [.int .u8 x]) ∧ Went w w' b (.slice ad n cap) (.slice ad' (n + 1) cap') := by
  have hc := copyCheck_any w0 w b p ad n cap xs h hp
  clear h hp
  go_enter Tryz.func92, Tryz.ntmps92
  go_wp2_with fail
  refine hc.mono ?_
  rintro e w1 ⟨rfl, B1, k1⟩
  have c0 := B1.c0
  have c1 := B1.c1
  have hlt := B1.lt
  have ha := appendRune_any w1 ad n cap xs x hx B1.mine.own hn
  clear hc
  go_wp2_with fail
  refine ha.mono ?_
  rintro e w7 ⟨g, cap', rfl, o7, f7, at7⟩
  obtain ⟨h7, B7⟩ := B1.put' f7 o7 at7
  have d0 : w7.cell? ⟨b, 0, none⟩ = some (.pointer (some ⟨b, 0, none⟩)) := (by rw [cell_of_row w7 b 0 _ _ _ h7]; rfl)
  have d1 : w7.cell? ⟨b, 1, none⟩ = some (.slice ad n cap) := (by rw [cell_of_row w7 b 1 _ _ _ h7]; rfl)
  have d2 : w7.frozen? ⟨b, 1, none⟩ = false := frozen_of_row w7 b 1 _ _ h7
  go_wp2_with fail
  rw [show ((n : Int) + 1 - (n : Int)) = 1 from by omega]
  go_ret2
  exact ⟨_, _, rfl, B7, went k1 f7 at7⟩

theorem fr_freeze (w : World) (g n : Nat) : Fr [g] w (w.freeze ⟨g, 0, none⟩ n) := by
  unfold World.freeze
  split
  · exact Fr.refl _ _
  · refine ⟨rfl, rfl, rfl, by simp, fun k hk hn => ?_⟩
    simp only [Array.getElem?_modify]
    rw [if_neg (by simp at hn; omega)]

set_option maxHeartbeats 1000000 in
set_option maxRecDepth 100000 in
theorem string_any (w0 w : World) (b : Nat) (p : Value) (ad : Option Addr) (n cap : Nat) (l : List UInt8) (hl : l.length = n) (h0 : n ≠ 0) (h : BAt w0 w b p ad n cap (arr l).toList) :
    Calls Tryz.prog 93 #[.pointer (some ⟨b, 0, none⟩)] w fun e w' => e = .returned (.string (mkS l)) ∧ Fr [] w0 w' := by
  have hown := h.mine.own
  have hnew := h.mine.new
  have hfr := h.mine.fr
  obtain ⟨g, cap, cur, e, hbg, hg, hnc, hcm, hcs, htake⟩ : ∃ g cap' cur, Value.slice ad n cap = .slice (some ⟨g, 0, none⟩) n cap' ∧ 0 ≤ g ∧ w.heap[g]? = some (.cells cur 5 (0, 0)) ∧ n ≤ cap' ∧ cap' ≤ maxLen ∧ cur.size = cap' * 1 ∧ cur.toList.take (n * 1) = (arr l).toList := by
    rcases hown.2 with ⟨_, hz⟩ | ⟨g, cap, cur, hv, r⟩
    · exact absurd hz h0
    · exact ⟨g, cap, cur, hv, r⟩
  cases e
  have hng := hnew g rfl
  have c1 : w.drew.cell? ⟨b, 1, none⟩ = some (.slice (some ⟨g, 0, none⟩) n cap) := h.c1
  have hSD : (Builtin.unsafeSliceData_ #[22] 220 #[.slice (some ⟨g, 0, none⟩) n cap]).run Tryz.prog w.drew = .ok (.pointer (some ⟨g, 0, none⟩)) w.drew :=
    Lib.run_unsafeSliceData_row _ _ _ _ _ _ (by omega)
  have hUS : (Builtin.unsafeString_ #[220, 3] 9 #[.pointer (some ⟨g, 0, none⟩), .int .i64 (n : Int)]).run Tryz.prog w.drew = .ok (.string (mkS l)) (w.drew.freeze ⟨g, 0, none⟩ n) := by
    subst hl
    refine Lib.run_unsafeString_row w.drew 220 3 9 5 Tryz.underlying220 (by kernel_rfl) g cur.size (by have hg' : w.drew.heap[g]? = some (.cells cur 5 (0, 0)) := hg; simp [World.shape?, hg']) l (by rintro rfl; exact h0 rfl) (by omega) (by unfold maxLen at hcm; omega) ?_
    intro j x hx
    exact hown.cells (g := g) rfl j (.int .u8 x.toNat) (by simp [arr, hx])
  have hend : Fr [] w0 (w.drew.freeze ⟨g, 0, none⟩ n) := hfr.drew.then (fr_freeze _ g n) (fun i hi hm => by simp at hm; omega)
  have mixed : Tryz.prog.follows .mixedOrders = true := by kernel_rfl
  clear hown hnew hfr h hl htake hg
  go_enter Tryz.func93, Tryz.ntmps93
  go_wp2
  go_region_o
  all_goals (go_wp2; go_ret; exact ⟨rfl, hend⟩)

end Go.Proofs.YtddcilmeignlmaaGreatDoor
