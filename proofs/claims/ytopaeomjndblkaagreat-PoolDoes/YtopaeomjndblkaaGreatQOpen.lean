/-
  A log opened: the program's Open.
-/
import Derived.Test.YtopaeomjndblkaaGreatQFind2
namespace Go.Proofs.YtopaeomjndblkaaGreat
open Go.RowKit Go.Maps

theorem nodev_nil (w : World) : Dv.NoDev w (.pointer none) := Or.inl rfl

set_option maxHeartbeats 400000 in
set_option maxRecDepth 100000 in
theorem open_nil (w : World) (a b c d : Int) : Calls Tryz.prog 73 #[.pointer none, .int .i64 a, .int .i64 b, .int .i64 c, .int .i64 d] w fun e w' => e = .returned (.tuple #[.pointer none, .int .i64 1]) ∧ w' = w := by
  go_enter Tryz.func73, Tryz.ntmps73
  go_wp2_with (go_at_call 120; refine (Dv.blocks_none _ _ (nodev_nil _)).mono ?_; rintro e w' ⟨rfl, rfl⟩)
  go_ret2
  exact ⟨rfl, rfl⟩

set_option maxHeartbeats 400000 in
set_option maxRecDepth 100000 in
theorem open_turn (w : World) (d bs bo : Nat) (nb a : Int) (S O : Dv.Tab) (hd : Dv.Dev w d bs bo nb a false S O) (h4 : 4 ≤ nb) : Calls Tryz.prog 73 #[.pointer (some ⟨d, 0, none⟩), .int .i64 0, .int .i64 4, .int .i64 1, .int .i64 0] w fun e w' => e = .returned (.tuple #[.pointer none, .int .i64 2]) ∧ w' = w := by
  have n2 := hd.n2
  have q0 : (nb == 0) = false := by rw [beq_eq_false_iff_ne]; omega
  have q1 := wrapI (nb - 4) (by omega) (by omega)
  have q2 : ¬ nb - 4 < 0 := by omega
  go_enter Tryz.func73, Tryz.ntmps73
  go_wp2_with (go_at_call 120; refine (Dv.blocks_dev hd).mono ?_; rintro e w ⟨rfl, rfl⟩)
  go_ret2
  exact ⟨rfl, rfl⟩

set_option maxHeartbeats 400000 in
set_option maxRecDepth 100000 in
theorem open_long (w : World) (d bs bo : Nat) (a : Int) (S O : Dv.Tab) (hd : Dv.Dev w d bs bo 4 a false S O) : Calls Tryz.prog 73 #[.pointer (some ⟨d, 0, none⟩), .int .i64 0, .int .i64 5, .int .i64 1, .int .i64 1] w fun e w' => e = .returned (.tuple #[.pointer none, .int .i64 2]) ∧ w' = w := by
  go_enter Tryz.func73, Tryz.ntmps73
  go_wp2_with (go_at_call 120; refine (Dv.blocks_dev hd).mono ?_; rintro e w ⟨rfl, rfl⟩)
  go_ret2
  exact ⟨rfl, rfl⟩

set_option maxHeartbeats 400000 in
set_option maxRecDepth 100000 in
theorem open_zero (w : World) (d bs bo : Nat) (nb a : Int) (S O : Dv.Tab) (hd : Dv.Dev w d bs bo nb a false S O) (first count T : Int) (f0 : 0 ≤ first) (f1 : first + count ≤ nb) (c0 : 4 ≤ count) (t0 : 1 ≤ T) (t1 : T ≤ 2147483647) (hP : stampP ((Dv.latest S O first).take 64) ≠ 1) :
    Calls Tryz.prog 73 #[.pointer (some ⟨d, 0, none⟩), .int .i64 first, .int .i64 count, .int .i64 1, .int .i64 T] w fun e w' => ∃ p, e = .returned (.tuple #[.pointer (some ⟨p, 0, none⟩), .int .i64 0]) ∧ LBox w' p ⟨.pointer (some ⟨d, 0, none⟩), first, count, T, 1, 1, 1, .slice none 0 0, 1, .slice none 0 0⟩ ∧ w.heap.size ≤ p ∧ Fr [] w w' := by
  have n2 := hd.n2
  have q0 : (nb == 0) = false := by rw [beq_eq_false_iff_ne]; omega
  have q1 := wrapI (nb - count) (by omega) (by omega)
  have q2 : ¬ nb - count < first := by omega
  have q3 : ¬ first < 0 := by omega
  have q4 : ¬ count < 4 := by omega
  have q5 : ¬ T < 1 := by omega
  have q6 : ¬ 2147483647 < T := by omega
  have HP := hidI hP
  have HD := hidI hd
  have lb : LBox (w.alloc (.cells (logV ⟨.pointer (some ⟨d, 0, none⟩), first, count, T, 1, 0, 0, .slice none 0 0, 1, .slice none 0 0⟩) 223)) w.heap.size ⟨.pointer (some ⟨d, 0, none⟩), first, count, T, 1, 0, 0, .slice none 0 0, 1, .slice none 0 0⟩ := heap_alloc_new w _
  have f1' : Fr [] w (w.alloc (.cells (logV ⟨.pointer (some ⟨d, 0, none⟩), first, count, T, 1, 0, 0, .slice none 0 0, 1, .slice none 0 0⟩) 223)) := (Fr.refl [] w).alloc _
  unfold logV at lb f1'
  clear hP hd
  go_enter Tryz.func73, Tryz.ntmps73
  go_wp2_with (go_at_call 120; refine (Dv.blocks_dev HD.out).mono ?_; rintro e w ⟨rfl, rfl⟩)
  generalize w.alloc (.cells #[.pointer (some ⟨d, 0, none⟩), .int .i64 first, .int .i64 count, .int .i64 T, .int .i64 1, .int .i64 0, .int .i64 0, .slice none 0 0, .int .i64 1, .slice none 0 0] 223) = w1 at lb f1' ⊢
  have HD1 := hidI (dev_kept HD.out f1' (by simp) (by simp) (by simp))
  refine (stand_no w1 d bs bo nb a S O HD1.out first count T f0 (by omega) (by omega) c0 (by omega) HP.out).mono ?_
  rintro e w2 ⟨rfl, f2⟩
  have lb2 := lb.kept f2 (by simp)
  go_wp2_with fail
  refine (find_zero w2 _ _ lb2 (by show (1 : Int) ≤ 1; omega) (by show (1 : Int) ≤ 4611686018427387904; omega)).mono ?_
  rintro e w3 ⟨rfl, lb3, f3⟩
  have k7 : World.cell? _ ⟨w.heap.size, 7, none⟩ = some (.slice none 0 0) := lb3.c7
  go_wp2_with fail
  go_ret2
  exact ⟨_, rfl, lb3, Nat.le_refl _, (f1'.trans f2).then f3 (fun i hi hm => by simp at hm; omega)⟩

set_option maxHeartbeats 400000 in
set_option maxRecDepth 100000 in
theorem open_one (w : World) (d bs bo : Nat) (nb a : Int) (S O : Dv.Tab) (hd : Dv.Dev w d bs bo nb a false S O) (first count T : Int) (f0 : 0 ≤ first) (f1 : first + count ≤ nb) (c0 : 4 ≤ count) (t0 : 1 ≤ T) (t1 : T ≤ 2147483647) (n : Nat) (r : Rec) (hP : stampP ((Dv.latest S O first).take 64) = 1) (hT1 : 1 ≤ stampT ((Dv.latest S O first).take 64)) (hT2 : stampT ((Dv.latest S O first).take 64) < T) (hU : stampU ((Dv.latest S O first).take 64) = n) (hn0 : 1 ≤ n) (hn : n < 51) (hdr : decR (((Dv.latest S O first).drop 13).take n) = some (r, n)) (hr1 : r.lsn = 1) (hr2 : 1 ≤ r.turn) (hr3 : r.turn < T) :
    Calls Tryz.prog 73 #[.pointer (some ⟨d, 0, none⟩), .int .i64 first, .int .i64 count, .int .i64 1, .int .i64 T] w fun e w' => ∃ p gb gl cl, e = .returned (.tuple #[.pointer (some ⟨p, 0, none⟩), .int .i64 0]) ∧ LBox w' p ⟨.pointer (some ⟨d, 0, none⟩), first, count, T, 1, 1 + (n : Int), 1 + (n : Int), .slice (some ⟨gb, 0, none⟩) n n, 1, .slice (some ⟨gl, 0, none⟩) 1 cl⟩ ∧ BsAt w' (some ⟨gb, 0, none⟩) n n (((Dv.latest S O first).drop 13).take n) ∧ LsAt w' (some ⟨gl, 0, none⟩) 1 cl [1] ∧ w.heap.size ≤ p ∧ Fr [] w w' := by
  have n2 := hd.n2
  have q0 : (nb == 0) = false := by rw [beq_eq_false_iff_ne]; omega
  have q1 := wrapI (nb - count) (by omega) (by omega)
  have q2 : ¬ nb - count < first := by omega
  have q3 : ¬ first < 0 := by omega
  have q4 : ¬ count < 4 := by omega
  have q5 : ¬ T < 1 := by omega
  have q6 : ¬ 2147483647 < T := by omega
  have HP := hidI (And.intro hP (And.intro hT1 (And.intro hT2 hU)))
  have hL := latest_len hd first
  have HLN : Hid ((((Dv.latest S O first).drop 13).take n).length = n) := hidI (by rw [List.length_take, List.length_drop, hL]; omega)
  clear hL hT1 hT2 hU
  have HD := hidI hd
  have lb : LBox (w.alloc (.cells (logV ⟨.pointer (some ⟨d, 0, none⟩), first, count, T, 1, 0, 0, .slice none 0 0, 1, .slice none 0 0⟩) 223)) w.heap.size ⟨.pointer (some ⟨d, 0, none⟩), first, count, T, 1, 0, 0, .slice none 0 0, 1, .slice none 0 0⟩ := heap_alloc_new w _
  have f1' : Fr [] w (w.alloc (.cells (logV ⟨.pointer (some ⟨d, 0, none⟩), first, count, T, 1, 0, 0, .slice none 0 0, 1, .slice none 0 0⟩) 223)) := (Fr.refl [] w).alloc _
  unfold logV at lb f1'
  clear hP hd
  go_enter Tryz.func73, Tryz.ntmps73
  go_wp2_with (go_at_call 120; refine (Dv.blocks_dev HD.out).mono ?_; rintro e w ⟨rfl, rfl⟩)
  generalize w.alloc (.cells #[.pointer (some ⟨d, 0, none⟩), .int .i64 first, .int .i64 count, .int .i64 T, .int .i64 1, .int .i64 0, .int .i64 0, .slice none 0 0, .int .i64 1, .slice none 0 0] 223) = w1 at lb f1' ⊢
  have HD1 := hidI (dev_kept HD.out f1' (by simp) (by simp) (by simp))
  obtain ⟨hP1, hP2, hP3, hP4⟩ := HP.out
  refine (stand_yes w1 d bs bo nb a S O HD1.out first count T f0 (by omega) (by omega) c0 (by omega) n hP1 hP2 hP3 hP4 hn0 hn).mono ?_
  rintro e w2 ⟨v, rfl, o2⟩
  clear hP1 hP2 hP3 hP4
  generalize hLN : ((Dv.latest S O first).drop 13).take n = LN at o2 HLN hdr
  have HLq := hidI hLN
  clear hLN
  obtain ⟨g, c, rfl, b2, hg2, hcc⟩ := own_at o2 (by omega) HLN.out
  have f2 := o2.2
  have lb2 := lb.kept f2 (by simp)
  have hlt := lb.lt
  go_wp2_with fail
  refine (find_one w2 _ _ lb2 (by show (1 : Int) ≤ 1; omega) (by show (1 : Int) ≤ 2305843009213693952; omega) rfl c0 (by dsimp only; omega) g n c LN HLN.out hn0 (by omega) hcc b2 (by omega) r hdr hr1 hr2 hr3 (by dsimp only; omega)).mono ?_
  rintro e w3 ⟨rfl, gb, gl, cl, lb3, bs3, ls3, f3⟩
  have k7 : World.cell? _ ⟨w.heap.size, 7, none⟩ = some (.slice (some ⟨gb, 0, none⟩) n n) := lb3.c7
  have hnn : ¬ (n : Int) < (n : Int) := by omega
  go_wp2_with fail
  go_ret2
  exact ⟨_, gb, gl, cl, rfl, lb3, by rw [HLq.out]; exact bs3, ls3, Nat.le_refl _, (f1'.trans f2).then f3 (fun i hi hm => by simp at hm; omega)⟩

end Go.Proofs.YtopaeomjndblkaaGreat
