/-
  PrintNumbers: the walk.
-/
import Derived.Test.YtjdcfaaoicnajaaDoorPNumM
namespace Go.Proofs.YtjdcfaaoicnajaaDoor
open Go.RowKit Go.Maps Go.Lib

theorem alloc_size1 (w : World) (b : Obj) : (w.alloc b).heap.size = w.heap.size + 1 := by simp
theorem pcs_new2 (w : World) (b : Obj) (ps : List ByteArray) (cs : Array Value) (h : cs = (ps.map Value.string).toArray) : Pcs ((w.alloc b).alloc (.cells cs 9)) (w.heap.size + 1) ps := by
  have := pcs_new (w.alloc b) ps cs h
  rwa [alloc_size1] at this
set_option maxHeartbeats 16000000 in
set_option maxRecDepth 100000 in
theorem pnum_law (w : World) (L : LaidW w) : Calls Tryd.prog 5 #[] w fun e w' => e = .returned (.bool true) ∧ Fr [] w w' := by
  have cA := Hid.mk (fun w' (f : Fr [] w w') => pawake_any w' (L.kept f))
  have cT := Hid.mk (fun w' (f : Fr [] w w') => texts_law w' (L.kept f))
  have cP := Hid.mk (fun w' (f : Fr [] w w') g (h : NodesIn w' g 0 bigP) => Print_any w' (L.kept f) (some ⟨g, 0, none⟩) 10 10 bigP rfl h.at bigP_sane)
  have cD := Hid.mk (fun w' (f : Fr [] w w') g (h : NodesIn w' g 0 bigP) => Print_any w' (L.kept f) (some ⟨g, 12, none⟩) 7 7 (bigP.drop 3) rfl h.drop3.at (bigP_sane.drop 3))
  have cO := Hid.mk (fun w' (f : Fr [] w w') => Print_any w' (L.kept f) none 0 0 [] rfl (fun i hi => absurd hi (Nat.not_lt_zero _)) (fun i hi => absurd hi (Nat.not_lt_zero _)))
  have nO := Hid.mk (fun w' (f : Fr [] w w') => Node_any w' (L.kept f) none 0 0 [] rfl (fun i hi => absurd hi (Nat.not_lt_zero _)) (fun i hi => absurd hi (Nat.not_lt_zero _)) 0)
  have n1 := Hid.mk (fun w' (f : Fr [] w w') g (h : NodesIn w' g 0 oneP) => Node_any w' (L.kept f) (some ⟨g, 0, none⟩) 1 1 oneP rfl h.at oneP_sane 0)
  have n2 := Hid.mk (fun w' (f : Fr [] w w') g (h : NodesIn w' g 0 bigP) => Node_any w' (L.kept f) (some ⟨g, 0, none⟩) 10 2 (bigP.take 2) rfl h.take2.at (bigP_sane.take 2) 0)
  have nm := Hid.mk (fun w' (f : Fr [] w w') g (h : NodesIn w' g 0 bigP) => Node_any w' (L.kept f) (some ⟨g, 0, none⟩) 10 10 bigP rfl h.at bigP_sane (-1))
  have nn := Hid.mk (fun w' (f : Fr [] w w') g (h : NodesIn w' g 0 bigP) (i : Nat) => Node_any w' (L.kept f) (some ⟨g, 0, none⟩) 10 10 bigP rfl h.at bigP_sane (i : Int))
  rw [bigP_print.1, bigP_print.2] at cP
  rw [bigP_drop.1, bigP_drop.2] at cD
  rw [nilP_print.1, nilP_print.2] at cO
  rw [nilP_node.1, nilP_node.2] at nO
  rw [oneP_node.1, oneP_node.2] at n1
  rw [bigP_take.1, bigP_take.2] at n2
  rw [bigP_minus.1, bigP_minus.2] at nm
  clear L
  go_enter Tryd.func5, Tryd.ntmps5
  go_wp2_with go_in
  go_loopw [1] (fun s1 wr => ∃ (i : Nat), s1 = .int .i64 (i : Int) ∧ i ≤ 256 ∧ Hid (Fr [] w wr)) (fun s1 _ => 256 - (RowKit.intOf s1).toNat)
  case atStart => exact ⟨0, rfl, by omega, Fr.refl _ _⟩
  case round =>
    obtain ⟨i, rfl, hi, hF⟩ := hrel
    have hi0 : (0 : Int) ≤ (i : Int) := by omega
    by_cases hlt : i < 256
    · have hlt' : (i : Int) < 256 := by omega
      have w1 : IntKind.u8.wrap (i : Int) = (i : Int) := by simp [IntKind.wrap, IntKind.bits, IntKind.signed]; omega
      have BB := Hid.mk (byte_bytes wr i hlt)
      go_wp2_with (first
        | (refine wp_conv rfl _ rfl [UInt8.ofNat i] (some ⟨wr.heap.size, 0, none⟩) 1 1 rfl rfl BB.out (fun h => by cases h) ?_)
        | (go_at_call 4; refine (cT.out _ (hF.out.alloc _) _ ?_).mono ?_; rotate_left; rintro e w5 ⟨rfl, f5⟩)
        | go_in)
      · exact ⟨⟨i + 1, by go_num, by omega, (hF.out.alloc _).trans f5⟩, by simp [RowKit.intOf]; omega⟩
      · simp [ByteArray.size_append, mkS]; exact (by decide : (3 : Nat) < 140737488355328)
    · have hlt' : ¬ (i : Int) < 256 := by omega
      clear cT
      obtain ⟨w1, hw1⟩ : ∃ w1, w1 = wr := ⟨_, rfl⟩
      subst hw1
      go_wp2_with go_in
      go_loopw [4] (fun s4 wq => ∃ (j : Nat), s4 = .int .i64 (j : Int) ∧ j ≤ 10 ∧ Hid (Fr [] w wq ∧ NodesIn wq w1.heap.size 0 bigP ∧ Pcs wq (w1.heap.size + 1) bigS)) (fun s4 _ => 10 - (RowKit.intOf s4).toNat)
      case atStart => exact ⟨0, rfl, by omega, (hF.out.alloc _).alloc _, (nodes_of_cells (heap_alloc_new w1 _) rfl).kept ((Fr.refl [] _).alloc _) (by simp), pcs_new2 w1 _ bigS _ rfl⟩
      case round =>
        obtain ⟨j, rfl, hj, hX⟩ := hrel
        have hj0 : (0 : Int) ≤ (j : Int) := by omega
        clear hF
        by_cases hjt : j < 10
        · have hjt' : (j : Int) < 10 := by omega
          obtain ⟨x, hx, e1, e2⟩ := bigP_node j hjt
          have cN := Hid.mk (nn.out _ hX.out.1 _ hX.out.2.1 j)
          rw [e1, e2] at cN
          have FW := Hid.mk (fun w5 (f5 : Fr [] wr w5) => (hX.out.2.2.kept' f5).cell hx)
          clear hx e1 e2
          go_wp2_with (first
            | (go_at_call 10; refine cN.out.mono ?_; rintro e w5 ⟨rfl, f5⟩; have c5 := FW.out _ f5)
            | go_in)
          exact ⟨⟨j + 1, by go_num, by omega, hX.out.1.trans f5, hX.out.2.1.kept f5 (by simp), hX.out.2.2.kept' f5⟩, by simp [RowKit.intOf]; omega⟩
        · have hjt' : ¬ (j : Int) < 10 := by omega
          clear nn
          go_wp2_with fail
          refine (cP.out _ hX.out.1 _ hX.out.2.1).mono ?_
          rintro e w2 ⟨rfl, f2⟩
          replace hX := Hid.mk (⟨hX.out.1.trans f2, hX.out.2.1.kept f2 (by simp), hX.out.2.2.kept' f2⟩ : Fr [] w w2 ∧ NodesIn w2 w1.heap.size 0 bigP ∧ Pcs w2 (w1.heap.size + 1) bigS)
          clear f2 cP
          go_wp2_with fail
          refine (cD.out _ hX.out.1 _ hX.out.2.1).mono ?_
          rintro e w3 ⟨rfl, f2⟩
          replace hX := Hid.mk (⟨hX.out.1.trans f2, hX.out.2.1.kept f2 (by simp), hX.out.2.2.kept' f2⟩ : Fr [] w w3 ∧ NodesIn w3 w1.heap.size 0 bigP ∧ Pcs w3 (w1.heap.size + 1) bigS)
          clear f2 cD
          go_wp2_with fail
          refine (cO.out _ hX.out.1).mono ?_
          rintro e w4 ⟨rfl, f2⟩
          replace hX := Hid.mk (⟨hX.out.1.trans f2, hX.out.2.1.kept f2 (by simp), hX.out.2.2.kept' f2⟩ : Fr [] w w4 ∧ NodesIn w4 w1.heap.size 0 bigP ∧ Pcs w4 (w1.heap.size + 1) bigS)
          clear f2 cO
          go_wp2_with fail
          refine (nO.out _ hX.out.1).mono ?_
          rintro e w5 ⟨rfl, f2⟩
          replace hX := Hid.mk (⟨hX.out.1.trans f2, hX.out.2.1.kept f2 (by simp), hX.out.2.2.kept' f2⟩ : Fr [] w w5 ∧ NodesIn w5 w1.heap.size 0 bigP ∧ Pcs w5 (w1.heap.size + 1) bigS)
          clear f2 nO
          go_wp2_with fail
          have fa : Fr [] w5 (w5.alloc (.cells #[.int .u8 4, .string ⟨#[]⟩, .string ⟨#[60]⟩, .int .i64 (-1)] 37)) := (Fr.refl _ _).alloc _
          refine (n1.out _ (hX.out.1.trans fa) _ (nodes_of_cells (heap_alloc_new w5 _) rfl)).mono ?_
          rintro e w6 ⟨rfl, f2⟩
          replace f2 := fa.trans f2
          replace hX := Hid.mk (⟨hX.out.1.trans f2, hX.out.2.1.kept f2 (by simp), hX.out.2.2.kept' f2⟩ : Fr [] w w6 ∧ NodesIn w6 w1.heap.size 0 bigP ∧ Pcs w6 (w1.heap.size + 1) bigS)
          clear f2 n1 fa
          go_wp2_with fail
          refine (n2.out _ hX.out.1 _ hX.out.2.1).mono ?_
          rintro e w7 ⟨rfl, f2⟩
          replace hX := Hid.mk (⟨hX.out.1.trans f2, hX.out.2.1.kept f2 (by simp), hX.out.2.2.kept' f2⟩ : Fr [] w w7 ∧ NodesIn w7 w1.heap.size 0 bigP ∧ Pcs w7 (w1.heap.size + 1) bigS)
          clear f2 n2
          go_wp2_with fail
          refine (nm.out _ hX.out.1 _ hX.out.2.1).mono ?_
          rintro e w8 ⟨rfl, f2⟩
          replace hX := Hid.mk (⟨hX.out.1.trans f2, hX.out.2.1.kept f2 (by simp), hX.out.2.2.kept' f2⟩ : Fr [] w w8 ∧ NodesIn w8 w1.heap.size 0 bigP ∧ Pcs w8 (w1.heap.size + 1) bigS)
          clear f2 nm
          have c0 := hX.out.2.2.cell (i := 0) rfl
          go_wp2_with fail
          refine (cA.out _ hX.out.1).mono ?_
          rintro e w9 ⟨rfl, f2⟩
          go_wp2_with fail
          go_ret
          exact ⟨rfl, hX.out.1.trans f2⟩
end Go.Proofs.YtjdcfaaoicnajaaDoor
