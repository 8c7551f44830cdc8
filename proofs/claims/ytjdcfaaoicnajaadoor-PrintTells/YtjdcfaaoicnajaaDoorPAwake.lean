/-
  awake: is it printed?
-/
import Derived.Test.YtjdcfaaoicnajaaDoorPLen
namespace Go.Proofs.YtjdcfaaoicnajaaDoor
open Go.RowKit Go.Maps Go.Lib

def smallP : List Nd := [⟨1, ⟨#[]⟩, ⟨#[]⟩, -1⟩, ⟨2, ⟨#[97]⟩, ⟨#[]⟩, 0⟩, ⟨3, ⟨#[120]⟩, ⟨#[34, 60, 62, 9]⟩, 1⟩, ⟨4, ⟨#[]⟩, ⟨#[97, 62, 98, 38]⟩, 1⟩, ⟨2, ⟨#[98]⟩, ⟨#[]⟩, 1⟩]
set_option maxHeartbeats 4000000 in
set_option maxRecDepth 100000 in
theorem smallP_any (w : World) :
    Calls Tryd.prog 18 #[] w fun e w' => (∃ g, e = .returned (.slice (some ⟨g, 0, none⟩) 5 5) ∧ NodesIn w' g 0 smallP) ∧ Fr [] w w' := by
  go_enter Tryd.func18, Tryd.ntmps18
  go_wp2
  go_ret
  exact ⟨⟨w.heap.size, rfl, nodes_of_cells (heap_alloc_new w _) rfl⟩, (Fr.refl _ _).alloc _⟩
theorem smallP_sane : Sane smallP := by
  intro i hi
  have hi : i < 5 := hi
  match i, hi with
  | 0, _ => exact ⟨by decide, by decide, by decide, by decide⟩
  | 1, _ => exact ⟨by decide, by decide, by decide, by decide⟩
  | 2, _ => exact ⟨by decide, by decide, by decide, by decide⟩
  | 3, _ => exact ⟨by decide, by decide, by decide, by decide⟩
  | 4, _ => exact ⟨by decide, by decide, by decide, by decide⟩
set_option maxRecDepth 100000 in
theorem smallP_good : goodB smallP 5 = true := by decide
theorem smallP_deep : deepest smallP 5 ≤ 60 := by
  have U := (goodB_iff smallP 5).1 smallP_good
  have d0 : dep smallP 0 = 0 := by rw [dep_eq (U 0 (by omega)).1]; rfl
  have d1 : dep smallP 1 = 1 := by
    rw [dep_eq (U 1 (by omega)).1, show par smallP 1 = ((0 : Nat) : Int) from rfl, depI_nat, d0]
    rfl
  have d4 : dep smallP 4 = 2 := by
    rw [dep_eq (U 4 (by omega)).1, show par smallP 4 = ((1 : Nat) : Int) from rfl, depI_nat, d1]
    rfl
  refine (deepest_le 60 5).2 fun i hi hk => ?_
  match i, hi with
  | 0, _ => cases hk
  | 1, _ => omega
  | 2, _ => cases hk
  | 3, _ => cases hk
  | 4, _ => omega
theorem smallP_ok : judged smallP (oneB smallP) = 0 := by
  unfold judged
  rw [if_neg (by decide), show smallP.length = 5 from rfl, smallP_good, show oneB smallP = true from by decide, if_neg (by decide), if_neg (by have := smallP_deep; omega)]
set_option maxRecDepth 100000 in
theorem smallP_out : outN smallP 5 0 = [60, 97, 32, 120, 61, 34, 38, 113, 117, 111, 116, 59, 38, 108, 116, 59, 62, 38, 35, 57, 59, 34, 62, 97, 38, 103, 116, 59, 98, 38, 97, 109, 112, 59, 60, 98, 47, 62, 60, 47, 97, 62] := by decide +kernel
set_option maxRecDepth 100000 in
theorem smallP_out2 : outN smallP 5 2 = [120, 61, 34, 38, 113, 117, 111, 116, 59, 38, 108, 116, 59, 62, 38, 35, 57, 59, 34] := by decide +kernel
theorem smallP_print : mkS (printL smallP) = ⟨#[60, 97, 32, 120, 61, 34, 38, 113, 117, 111, 116, 59, 38, 108, 116, 59, 62, 38, 35, 57, 59, 34, 62, 97, 38, 103, 116, 59, 98, 38, 97, 109, 112, 59, 60, 98, 47, 62, 60, 47, 97, 62]⟩ ∧ printE smallP = 0 := by
  unfold printL printE
  rw [if_pos smallP_ok, if_pos smallP_ok, show smallP.length = 5 from rfl, smallP_out]
  exact ⟨rfl, rfl⟩
theorem smallP_nodeOk : nodeOk smallP = true := by unfold nodeOk; rw [smallP_ok]; rfl
theorem smallP_node : mkS (nodeL smallP 2) = ⟨#[120, 61, 34, 38, 113, 117, 111, 116, 59, 38, 108, 116, 59, 62, 38, 35, 57, 59, 34]⟩ ∧ nodeE smallP 2 = 0 := by
  unfold nodeL nodeE
  rw [if_pos smallP_nodeOk, if_pos smallP_nodeOk, if_pos (by decide), if_pos (by decide), show smallP.length = 5 from rfl, show (2 : Int).toNat = 2 from rfl, smallP_out2]
  exact ⟨rfl, rfl⟩
theorem smallP_node5 : mkS (nodeL smallP 5) = ⟨#[]⟩ ∧ nodeE smallP 5 = 2 := by
  unfold nodeL nodeE
  rw [if_pos smallP_nodeOk, if_pos smallP_nodeOk, if_neg (by decide), if_neg (by decide)]
  exact ⟨rfl, rfl⟩
set_option maxHeartbeats 4000000 in
set_option maxRecDepth 100000 in
theorem pawake_any (w : World) (L : LaidW w) : Calls Tryd.prog 7 #[] w fun e w' => e = .returned (.bool true) ∧ Fr [] w w' := by
  have cP := Hid.mk (fun w' (f : Fr [] w w') g (h : NodesIn w' g 0 smallP) => Print_any w' (L.kept f) (some ⟨g, 0, none⟩) 5 5 smallP rfl h.at smallP_sane)
  have c2 := Hid.mk (fun w' (f : Fr [] w w') g (h : NodesIn w' g 0 smallP) => Node_any w' (L.kept f) (some ⟨g, 0, none⟩) 5 5 smallP rfl h.at smallP_sane 2)
  have c5 := Hid.mk (fun w' (f : Fr [] w w') g (h : NodesIn w' g 0 smallP) => Node_any w' (L.kept f) (some ⟨g, 0, none⟩) 5 5 smallP rfl h.at smallP_sane 5)
  rw [smallP_print.1, smallP_print.2] at cP
  rw [smallP_node.1, smallP_node.2] at c2
  rw [smallP_node5.1, smallP_node5.2] at c5
  have cE := Hid.mk (fun w' => Escape_any w' ⟨#[97, 60, 98]⟩ (by decide))
  rw [show mkS (escT ⟨#[97, 60, 98]⟩) = ⟨#[97, 38, 108, 116, 59, 98]⟩ from by decide +kernel] at cE
  have cQ := Hid.mk (fun w' => Quote_any w' ⟨#[]⟩ (by decide))
  rw [show mkS (quoV ⟨#[]⟩) = ⟨#[34, 34]⟩ from by decide +kernel] at cQ
  clear L
  go_enter Tryd.func7, Tryd.ntmps7
  go_wp2_with fail
  refine (smallP_any w).mono ?_
  rintro e w1 ⟨⟨g1, rfl, h1⟩, f1⟩
  have H1 := Hid.mk h1
  clear h1
  go_wp2_with fail
  refine (cP.out _ f1 g1 H1.out).mono ?_
  rintro e w2 ⟨rfl, f2⟩
  have F2 := Hid.mk (f1.trans f2)
  clear f1 f2 H1
  go_wp2_with fail
  refine (smallP_any w2).mono ?_
  rintro e w3 ⟨⟨g3, rfl, h3⟩, f3⟩
  have H3 := Hid.mk h3
  have F3 := Hid.mk (F2.out.trans f3)
  clear h3 f3
  go_wp2_with fail
  refine (c2.out _ F3.out g3 H3.out).mono ?_
  rintro e w4 ⟨rfl, f4⟩
  have F4 := Hid.mk (F3.out.trans f4)
  clear f4 H3
  go_wp2_with fail
  refine (smallP_any w4).mono ?_
  rintro e w5 ⟨⟨g5, rfl, h5⟩, f5⟩
  have H5 := Hid.mk h5
  have F5 := Hid.mk (F4.out.trans f5)
  clear h5 f5
  go_wp2_with fail
  refine (c5.out _ F5.out g5 H5.out).mono ?_
  rintro e w6 ⟨rfl, f6⟩
  have F6 := Hid.mk (F5.out.trans f6)
  clear f6 H5
  go_wp2_with fail
  refine (cE.out _).mono ?_
  rintro e w7 ⟨rfl, f7⟩
  have F7 := Hid.mk (F6.out.trans f7)
  clear f7
  go_wp2_with fail
  refine (cQ.out _).mono ?_
  rintro e w8 ⟨rfl, f8⟩
  go_wp2_with fail
  go_ret
  exact ⟨rfl, F7.out.trans f8⟩
end Go.Proofs.YtjdcfaaoicnajaaDoor
