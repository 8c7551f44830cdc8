/-
  Logs that aren't there answer nothing.
-/
import Derived.Test.YticmjdblcomecaaQAwake
import Derived.Deep.CutRange
namespace Go.Proofs.Yticmjdblcomecaa
open Go.RowKit Go.Maps

/-- No log, or one that nobody made. -/
def NoLog (w : World) (v : Value) : Prop := v = .pointer none ∨ ∃ p, v = .pointer (some ⟨p, 0, none⟩) ∧ w.cell? ⟨p, 0, none⟩ = some (.pointer none)
theorem NoLog.kept {w w' : World} {v : Value} (h : NoLog w v) (k : Fr [] w w') : NoLog w' v := by
  rcases h with h | ⟨p, h, hc⟩
  · exact Or.inl h
  · exact Or.inr ⟨p, h, by rw [← hc]; exact World.cell?_of_block (k.block p (block_lt_of_cell hc) (by simp))⟩
theorem lmade_no (w : World) (v : Value) (h : NoLog w v) : Calls Try.prog 51 #[v] w fun e w' => e = .returned (.bool false) ∧ w' = w := by
  rcases h with rfl | ⟨p, rfl, hc⟩
  · exact lmade_nil w
  · exact lmade_zero w p hc

set_option maxHeartbeats 400000 in
theorem force_no (w : World) (v : Value) (h : NoLog w v) : Calls Try.prog 19 #[v] w fun e w' => e = .returned (.int .i64 1) ∧ w' = w := by
  have HN := hidI h
  clear h
  go_enter Try.func19, Try.ntmps19
  go_wp2_with (go_at_call 51; refine (lmade_no _ _ HN.out).mono ?_; rintro e w ⟨rfl, rfl⟩)
  go_ret
  exact ⟨rfl, rfl⟩

set_option maxHeartbeats 400000 in
theorem trim_no (w : World) (v : Value) (k : Int) (h : NoLog w v) : Calls Try.prog 20 #[v, .int .i64 k] w fun e w' => e = .returned (.int .i64 1) ∧ w' = w := by
  have HN := hidI h
  clear h
  go_enter Try.func20, Try.ntmps20
  go_wp2_with (go_at_call 51; refine (lmade_no _ _ HN.out).mono ?_; rintro e w ⟨rfl, rfl⟩)
  go_ret
  exact ⟨rfl, rfl⟩

set_option maxHeartbeats 400000 in
theorem from_no (w : World) (v : Value) (k : Int) (h : NoLog w v) : Calls Try.prog 21 #[v, .int .i64 k] w fun e w' => e = .returned (.slice none 0 0) ∧ w' = w := by
  have HN := hidI h
  clear h
  go_enter Try.func21, Try.ntmps21
  go_wp2_with (go_at_call 51; refine (lmade_no _ _ HN.out).mono ?_; rintro e w ⟨rfl, rfl⟩)
  go_ret
  exact ⟨rfl, rfl⟩

set_option maxHeartbeats 400000 in
theorem oldest_no (w : World) (v : Value) (h : NoLog w v) : Calls Try.prog 22 #[v] w fun e w' => e = .returned (.int .i64 0) ∧ w' = w := by
  have HN := hidI h
  clear h
  go_enter Try.func22, Try.ntmps22
  go_wp2_with (go_at_call 51; refine (lmade_no _ _ HN.out).mono ?_; rintro e w ⟨rfl, rfl⟩)
  go_ret
  exact ⟨rfl, rfl⟩

set_option maxHeartbeats 400000 in
theorem end_no (w : World) (v : Value) (h : NoLog w v) : Calls Try.prog 23 #[v] w fun e w' => e = .returned (.int .i64 0) ∧ w' = w := by
  have HN := hidI h
  clear h
  go_enter Try.func23, Try.ntmps23
  go_wp2_with (go_at_call 51; refine (lmade_no _ _ HN.out).mono ?_; rintro e w ⟨rfl, rfl⟩)
  go_ret
  exact ⟨rfl, rfl⟩

set_option maxHeartbeats 400000 in
theorem safe_no (w : World) (v : Value) (h : NoLog w v) : Calls Try.prog 24 #[v] w fun e w' => e = .returned (.int .i64 0) ∧ w' = w := by
  have HN := hidI h
  clear h
  go_enter Try.func24, Try.ntmps24
  go_wp2_with (go_at_call 51; refine (lmade_no _ _ HN.out).mono ?_; rintro e w ⟨rfl, rfl⟩)
  go_ret
  exact ⟨rfl, rfl⟩

set_option maxHeartbeats 400000 in
theorem room_no (w : World) (v : Value) (h : NoLog w v) : Calls Try.prog 25 #[v] w fun e w' => e = .returned (.int .i64 0) ∧ w' = w := by
  have HN := hidI h
  clear h
  go_enter Try.func25, Try.ntmps25
  go_wp2_with (go_at_call 51; refine (lmade_no _ _ HN.out).mono ?_; rintro e w ⟨rfl, rfl⟩)
  go_ret
  exact ⟨rfl, rfl⟩

set_option maxHeartbeats 400000 in
set_option maxRecDepth 100000 in
theorem append_no (w : World) (v : Value) (r : Rec) (s : Spots) (h : NoLog w v) : Calls Try.prog 17 #[v, .agg (recV r s)] w fun e w' => e = .returned (.tuple #[.int .i64 0, .int .i64 1]) ∧ Fr [] w w' := by
  have HN := hidI h
  clear h
  unfold recV
  go_enter Try.func17, Try.ntmps17
  go_wp2_with (go_at_call 51; refine (lmade_no _ _ (HN.out.kept ((Fr.refl [] w).alloc _))).mono ?_; rintro e w' ⟨rfl, hw⟩; subst hw)
  go_ret2
  exact ⟨rfl, (Fr.refl [] w).alloc _⟩
set_option maxHeartbeats 400000 in
set_option maxRecDepth 100000 in
theorem read_no (w : World) (v : Value) (k : Int) (h : NoLog w v) : Calls Try.prog 18 #[v, .int .i64 k] w fun e w' => e = .returned (.tuple #[.agg (recV (zeroR 0 0) zeroS), .int .i64 1]) ∧ Fr [] w w' := by
  have HN := hidI h
  clear h
  go_enter Try.func18, Try.ntmps18
  go_wp2_with (go_at_call 51; refine (lmade_no _ _ (HN.out.kept ((Fr.refl [] w).alloc _))).mono ?_; rintro e w' ⟨rfl, hw⟩; subst hw)
  refine bodyPost_ret (resR2 rfl _ _ w.heap.size (zeroR 0 0) zeroS rfl (heap_alloc_new w _)) rfl ⟨rfl, (Fr.refl [] w).alloc _⟩

set_option maxHeartbeats 400000 in
set_option maxRecDepth 100000 in
theorem sameSpan_zero (w : World) : Calls Try.prog 50 #[.agg (spanV (zeroR 0 0) zeroS), .agg (spanV (zeroR 0 0) zeroS)] w fun e w' => e = .returned (.bool true) ∧ Fr [] w w' := by
  have p1 : PBox ((w.alloc (.cells (spanV (zeroR 0 0) zeroS) 25)).alloc (.cells (spanV (zeroR 0 0) zeroS) 25)) w.heap.size (zeroR 0 0) zeroS := heap_alloc2_old w _ _
  have p2 : PBox ((w.alloc (.cells (spanV (zeroR 0 0) zeroS) 25)).alloc (.cells (spanV (zeroR 0 0) zeroS) 25)) (w.heap.size + 1) (zeroR 0 0) zeroS := heap_alloc2_new w _ _
  have f2 : Fr [] w ((w.alloc (.cells (spanV (zeroR 0 0) zeroS) 25)).alloc (.cells (spanV (zeroR 0 0) zeroS) 25)) := kept_two _ _
  have e0 : spanV (zeroR 0 0) zeroS = #[.int .i64 0, .int .i64 0, .slice none 0 0, .slice none 0 0] := rfl
  rw [e0] at p1 p2 f2
  rw [e0]
  clear e0
  go_enter Try.func50, Try.ntmps50
  go_wp2_with fail
  generalize ((w.alloc (.cells #[.int .i64 0, .int .i64 0, .slice none 0 0, .slice none 0 0] 25)).alloc (.cells #[.int .i64 0, .int .i64 0, .slice none 0 0, .slice none 0 0] 25)) = w2 at p1 p2 f2 ⊢
  refine (same_any w2 none none [] [] 0 0 0 (BytesAt.nil _ _) (BytesAt.nil _ _) rfl rfl (by omega)).mono ?_
  rintro e w3 ⟨rfl, f3⟩
  have y1 : w3.cell? ⟨w.heap.size, 3, none⟩ = some (.slice none 0 0) := (p1.kept f3 (by simp)).c3
  have y2 : w3.cell? ⟨w.heap.size + 1, 3, none⟩ = some (.slice none 0 0) := (p2.kept f3 (by simp)).c3
  rw [show (([] : List UInt8) == []) = true from rfl]
  go_wp2_with fail
  refine (same_any w3 none none [] [] 0 0 0 (BytesAt.nil _ _) (BytesAt.nil _ _) rfl rfl (by omega)).mono ?_
  rintro e w4 ⟨rfl, f4⟩
  rw [show (([] : List UInt8) == []) = true from rfl]
  go_wp2_with fail
  go_ret
  exact ⟨rfl, (f2.trans f3).trans f4⟩
set_option maxHeartbeats 400000 in
set_option maxRecDepth 100000 in
theorem sameRec_zero (w : World) : Calls Try.prog 15 #[.agg (recV (zeroR 0 0) zeroS), .agg (recV (zeroR 0 0) zeroS)] w fun e w' => e = .returned (.bool true) ∧ Fr [] w w' := by
  have HS := hidI sameSpan_zero
  unfold spanV zeroR zeroS at HS
  unfold recV zeroR zeroS
  go_enter Try.func15, Try.ntmps15
  go_wp2_with (go_at_call 50; refine (HS.out _).mono ?_; rintro e w5 ⟨rfl, f5⟩)
  go_ret
  exact ⟨rfl, (kept_two _ _).trans f5⟩

/-- The two logs that aren't there, in a row. -/
def NoRow (w : World) (g b : Nat) : Prop := w.heap[g]? = some (.cells #[.pointer none, .pointer (some ⟨b, 0, none⟩)] 39) ∧ w.cell? ⟨b, 0, none⟩ = some (.pointer none)
theorem NoRow.kept {w w' : World} {g b : Nat} (h : NoRow w g b) (f : Fr [] w w') : NoRow w' g b :=
  ⟨f.same (by simp) h.1, by rw [← h.2]; exact World.cell?_of_block (f.block b (block_lt_of_cell h.2) (by simp))⟩
theorem NoRow.at {w : World} {g b : Nat} (h : NoRow w g b) (j : Nat) (hj : j < 2) : ∃ v, w.cell? ⟨g, j, none⟩ = some v ∧ NoLog w v ∧ ∀ w', Fr [] w w' → w'.cell? ⟨g, j, none⟩ = some v ∧ NoLog w' v := by
  have key : ∃ v, w.cell? ⟨g, j, none⟩ = some v ∧ NoLog w v := by
    rcases (by omega : j = 0 ∨ j = 1) with rfl | rfl
    · exact ⟨.pointer none, cell_of_row w g 0 _ _ _ h.1, Or.inl rfl⟩
    · exact ⟨.pointer (some ⟨b, 0, none⟩), cell_of_row w g 1 _ _ _ h.1, Or.inr ⟨b, rfl, h.2⟩⟩
  obtain ⟨v, h1, h2⟩ := key
  exact ⟨v, h1, h2, fun w' f => ⟨by rw [← h1]; exact World.cell?_of_block (f.block g (block_lt_of_cell h1) (by simp)), h2.kept f⟩⟩

set_option maxHeartbeats 4000000 in
set_option maxRecDepth 100000 in
theorem none_law (w : World) (r : Rec) (s : Spots) (k : Int) : Calls Try.prog 4 #[.agg (recV r s), .int .i64 k] w fun e w' => e = .returned (.bool true) ∧ Fr [] w w' := by
  have RB : RBox (w.alloc (.cells (recV r s) 27)) w.heap.size r s := heap_alloc_new w _
  have f1 : Fr [] w (w.alloc (.cells (recV r s) 27)) := (Fr.refl [] w).alloc _
  unfold RBox recV at RB
  unfold recV at f1
  unfold recV
  go_enter Try.func4, Try.ntmps4
  go_wp2_with fail
  generalize w.alloc (.cells #[.int .i64 r.lsn, .int .i64 r.turn, .int .u8 (r.kind : Int), .int .i64 r.tx, .int .i64 r.prev, .int .i64 r.next, .int .i64 r.block, .int .i64 r.off, .slice s.a1 r.old.length s.c1, .slice s.a2 r.new.length s.c2] 27) = w1 at RB f1 ⊢
  have RB' : RBox w1 w.heap.size r s := RB
  clear RB
  obtain ⟨B, HB⟩ : ∃ B, Hid (w.heap.size = B) := ⟨_, rfl⟩
  rw [HB.out] at RB' ⊢
  refine (awake_any w1).mono ?_
  rintro e w2 ⟨rfl, f2⟩
  have R2 := RB'.kept f2 (by simp)
  go_wp2_with fail
  have nr : NoRow ((w2.alloc (.cells #[.pointer none, .int .i64 0, .int .i64 0, .int .i64 0, .int .i64 0, .int .i64 0, .int .i64 0, .slice none 0 0, .int .i64 0, .slice none 0 0] 45)).alloc (.cells #[.pointer none, .pointer (some ⟨w2.heap.size, 0, none⟩)] 39)) (w2.heap.size + 1) w2.heap.size := ⟨heap_alloc2_new w2 _ _, cell_of_row _ w2.heap.size 0 _ _ _ (heap_alloc2_old w2 _ _)⟩
  have f3 : Fr [] w2 ((w2.alloc (.cells #[.pointer none, .int .i64 0, .int .i64 0, .int .i64 0, .int .i64 0, .int .i64 0, .int .i64 0, .slice none 0 0, .int .i64 0, .slice none 0 0] 45)).alloc (.cells #[.pointer none, .pointer (some ⟨w2.heap.size, 0, none⟩)] 39)) := kept_two _ _
  have R3 := R2.kept f3 (by simp)
  have F3 := (f1.trans f2).trans f3
  generalize ((w2.alloc (.cells #[.pointer none, .int .i64 0, .int .i64 0, .int .i64 0, .int .i64 0, .int .i64 0, .int .i64 0, .slice none 0 0, .int .i64 0, .slice none 0 0] 45)).alloc (.cells #[.pointer none, .pointer (some ⟨w2.heap.size, 0, none⟩)] 39)) = w3 at nr f3 R3 F3 ⊢
  generalize w2.heap.size = b0 at nr ⊢
  generalize hG : b0 + 1 = G at nr ⊢
  clear hG
  go_loopw [6] (fun s6 wr => ∃ j : Nat, j ≤ 2 ∧ s6 = .int .i64 j ∧ Fr [] w3 wr) (fun s6 _ => 2 - (intOf s6).toNat)
  case atStart => exact ⟨0, by omega, rfl, Fr.refl _ _⟩
  case round =>
    obtain ⟨j, hj, rfl, fr⟩ := hrel
    by_cases hlt : j < 2
    · have hlt' : (j : Int) < 2 := by omega
      have hj0 : (0 : Int) ≤ j := by omega
      obtain ⟨v, k0, hno, hall⟩ := (nr.kept fr).at j hlt
      have HALL := hidI hall
      have HNO := hidI hno
      clear hall hno
      have Rr := R3.kept fr (by simp)
      have x0 := Rr.c0
      have x1 := Rr.c1
      have x2 := Rr.c2
      have x3 := Rr.c3
      have x4 := Rr.c4
      have x5 := Rr.c5
      have x6 := Rr.c6
      have x7 := Rr.c7
      have x8 := Rr.c8
      have x9 := Rr.c9
      have HA : Hid (∀ w', Fr [] wr w' → Calls Try.prog 17 #[v, .agg (recV r s)] w' fun e w'' => e = .returned (.tuple #[.int .i64 0, .int .i64 1]) ∧ Fr [] w' w'') := hidI (fun w' f => append_no w' v r s (HNO.out.kept f))
      unfold recV at HA
      go_wp2_with fail
      go_cut [7, 8] from 26 to 34 (fun s7 s8 wx => s7 = .int .i64 0 ∧ s8 = .int .i64 1 ∧ Fr [] wr wx)
      case first => as_aux_lemma =>
        go_region_with (go_at_call 17; refine (HA.out _ (Fr.refl [] wr).drew).mono ?_; rintro e w7 ⟨rfl, f7⟩)
        all_goals go_wp2
        all_goals go_meet
        all_goals exact ⟨rfl, rfl, (Fr.refl [] wr).drew.trans f7⟩
      obtain ⟨rfl, rfl, f7⟩ := hcut
      clear x0 x1 x2 x3 x4 x5 x6 x7 x8 x9 Rr k0 HA
      obtain ⟨k7, hn7⟩ := HALL.out wc f7
      have HN7 := hidI hn7
      clear hn7
      go_wp2_with fail
      refine (read_no wc v k HN7.out).mono ?_
      rintro e w8 ⟨rfl, f8⟩
      have RB8 : RBox (w8.alloc (.cells (recV (zeroR 0 0) zeroS) 27)) w8.heap.size (zeroR 0 0) zeroS := heap_alloc_new w8 _
      have f9 : Fr [] wr (w8.alloc (.cells (recV (zeroR 0 0) zeroS) 27)) := (f7.trans f8).alloc _
      have eZ : recV (zeroR 0 0) zeroS = #[.int .i64 0, .int .i64 0, .int .u8 0, .int .i64 0, .int .i64 0, .int .i64 0, .int .i64 0, .int .i64 0, .slice none 0 0, .slice none 0 0] := rfl
      have hSR := hidI (fun w => sameRec_zero w)
      rw [eZ] at f9 hSR
      unfold RBox at RB8
      rw [eZ] at RB8
      rw [eZ]
      obtain ⟨k9, hn9⟩ := HALL.out _ f9
      have HN9 := hidI hn9
      clear hn9 k7
      go_wp2_with fail
      generalize w8.alloc (.cells #[.int .i64 0, .int .i64 0, .int .u8 0, .int .i64 0, .int .i64 0, .int .i64 0, .int .i64 0, .int .i64 0, .slice none 0 0, .slice none 0 0] 27) = w9 at RB8 f9 k9 HN9 ⊢
      generalize w8.heap.size = Z at RB8 ⊢
      have RZ : RBox w9 Z (zeroR 0 0) zeroS := RB8
      clear RB8 k9
      go_cut [114] from 44 to 114 (fun s114 wx => s114 = .bool false ∧ Fr [] w9 wx)
      case first => as_aux_lemma =>
        obtain ⟨W0, HW0⟩ : ∃ W0, Hid (W0 = w9) := ⟨_, rfl⟩
        have gg : Fr [] W0 w9.drew := (by rw [HW0.out]; exact (Fr.refl _ _).drew)
        rw [← HW0.out] at RZ
        have SK : Hid (∀ w', Fr [] W0 w' → w'.cell? ⟨G, j, none⟩ = some v ∧ w'.cell? ⟨Z, 0, none⟩ = some (.int .i64 0) ∧ w'.cell? ⟨Z, 1, none⟩ = some (.int .i64 0) ∧ w'.cell? ⟨Z, 2, none⟩ = some (.int .u8 0) ∧ w'.cell? ⟨Z, 3, none⟩ = some (.int .i64 0) ∧ w'.cell? ⟨Z, 4, none⟩ = some (.int .i64 0) ∧ w'.cell? ⟨Z, 5, none⟩ = some (.int .i64 0) ∧ w'.cell? ⟨Z, 6, none⟩ = some (.int .i64 0) ∧ w'.cell? ⟨Z, 7, none⟩ = some (.int .i64 0) ∧ w'.cell? ⟨Z, 8, none⟩ = some (.slice none 0 0) ∧ w'.cell? ⟨Z, 9, none⟩ = some (.slice none 0 0)) := hidI (fun w' f => ⟨(HALL.out w' (by rw [HW0.out] at f; exact f9.trans f)).1, (RZ.kept f (by simp)).c0, (RZ.kept f (by simp)).c1, (RZ.kept f (by simp)).c2, (RZ.kept f (by simp)).c3, (RZ.kept f (by simp)).c4, (RZ.kept f (by simp)).c5, (RZ.kept f (by simp)).c6, (RZ.kept f (by simp)).c7, (RZ.kept f (by simp)).c8, (RZ.kept f (by simp)).c9⟩)
        have SN : Hid (∀ w', Fr [] W0 w' → NoLog w' v) := hidI (fun w' f => (HALL.out w' (by rw [HW0.out] at f; exact f9.trans f)).2)
        have k0 := SK.out _ gg
        clear RZ
        conv =>
          arg 2
          arg 2
          arg 1
          simp only [List.append_eq, List.cons_append, List.nil_append]
        go_region_held3 (fun w' => w'.cell? ⟨G, j, none⟩ = some v ∧ w'.cell? ⟨Z, 0, none⟩ = some (.int .i64 0) ∧ w'.cell? ⟨Z, 1, none⟩ = some (.int .i64 0) ∧ w'.cell? ⟨Z, 2, none⟩ = some (.int .u8 0) ∧ w'.cell? ⟨Z, 3, none⟩ = some (.int .i64 0) ∧ w'.cell? ⟨Z, 4, none⟩ = some (.int .i64 0) ∧ w'.cell? ⟨Z, 5, none⟩ = some (.int .i64 0) ∧ w'.cell? ⟨Z, 6, none⟩ = some (.int .i64 0) ∧ w'.cell? ⟨Z, 7, none⟩ = some (.int .i64 0) ∧ w'.cell? ⟨Z, 8, none⟩ = some (.slice none 0 0) ∧ w'.cell? ⟨Z, 9, none⟩ = some (.slice none 0 0)) (first | exact SK.out _ gg)
          ((first
            | (go_at_call 15; refine (hSR.out _).mono ?_; rintro e w11 ⟨rfl, f11⟩; replace gg := gg.trans f11)
            | (go_at_call 19; refine (force_no _ v (SN.out _ gg)).mono ?_; rintro e w12 ⟨rfl, hw12⟩; subst hw12)
            | (go_at_call 20; refine (trim_no _ v k (SN.out _ gg)).mono ?_; rintro e w12 ⟨rfl, hw12⟩; subst hw12)
            | (go_at_call 21; refine (from_no _ v k (SN.out _ gg)).mono ?_; rintro e w12 ⟨rfl, hw12⟩; subst hw12)
            | (go_at_call 22; refine (oldest_no _ v (SN.out _ gg)).mono ?_; rintro e w12 ⟨rfl, hw12⟩; subst hw12)
            | (go_at_call 23; refine (end_no _ v (SN.out _ gg)).mono ?_; rintro e w12 ⟨rfl, hw12⟩; subst hw12)
            | (go_at_call 24; refine (safe_no _ v (SN.out _ gg)).mono ?_; rintro e w12 ⟨rfl, hw12⟩; subst hw12)
            | (go_at_call 25; refine (room_no _ v (SN.out _ gg)).mono ?_; rintro e w12 ⟨rfl, hw12⟩; subst hw12)))
        all_goals go_wp2
        all_goals go_meet
        all_goals (have HW := HW0.out; subst HW)
        all_goals exact ⟨rfl, gg⟩
      obtain ⟨rfl, f10⟩ := hcut
      go_wp2_with fail
      exact ⟨⟨j + 1, by omega, by go_num, fr.trans (f9.trans f10)⟩, by simp [intOf]; omega⟩
    · obtain rfl : j = 2 := by omega
      go_wp2_with fail
      refine (open_nil wr 0 4 1 1).mono ?_
      rintro e wr ⟨rfl, rfl⟩
      go_wp2_with fail
      refine (Dv.new_dev 4 wr (by omega) (by omega)).mono ?_
      rintro e w5 ⟨rfl, D5, f5⟩
      have F5 := fr_dv f5
      go_wp2_with fail
      refine (open_turn w5 _ _ _ 4 0 _ _ D5 (by omega)).mono ?_
      rintro e w5 ⟨rfl, rfl⟩
      go_wp2_with fail
      refine (Dv.new_dev 4 w5 (by omega) (by omega)).mono ?_
      rintro e w6 ⟨rfl, D6, f6⟩
      have F6 := fr_dv f6
      go_wp2_with fail
      refine (open_long w6 _ _ _ 0 _ _ D6).mono ?_
      rintro e w6 ⟨rfl, rfl⟩
      go_wp2_with fail
      go_ret
      exact ⟨rfl, ((F3.trans fr).trans F5).trans F6⟩

end Go.Proofs.Yticmjdblcomecaa
