/-
  BitsLong, walked.
-/
import Derived.Test.YtdkleigkkndecaaAwake
namespace Go.Proofs.Ytdkleigkkndecaa
open Go.RowKit Go.Lib

theorem i64_bounds {x : Int} (h : (Lit.int .i64 x).wf = true) : -9223372036854775808 ≤ x ∧ x ≤ 9223372036854775807 := by
  simp [Lit.wf, show IntKind.i64.min = -9223372036854775808 from rfl, show IntKind.i64.max = 9223372036854775807 from rfl] at h
  exact h
theorem tmod_neg {x n : Int} (h1 : 1 ≤ n) (h : x.tmod n < 0) : x.tmod n + n = x % n := by
  have e := Int.tmod_eq_emod (a := x) (b := n)
  have h2 := Int.emod_nonneg x (show n ≠ 0 by omega)
  split at e <;> omega
theorem tmod_pos {x n : Int} (h1 : 1 ≤ n) (h : 0 ≤ x.tmod n) : x.tmod n = x % n := by
  have e := Int.tmod_eq_emod (a := x) (b := n)
  have h2 := Int.emod_lt_of_pos x (show 0 < n by omega)
  split at e <;> omega
theorem wrap64_small {v : Int} (h0 : -9223372036854775808 ≤ v) (h1 : v ≤ 9223372036854775807) : wrap64 v = v := by
  unfold wrap64
  omega
theorem ret_int {k : IntKind} {a b : Int} (h : a = b) : Ending.returned (.int k a) = .returned (.int k b) := by rw [h]

set_option maxHeartbeats 400000 in
theorem pick_any (w : World) (x n : Int) (hx : (Lit.int .i64 x).wf = true) (h1 : 1 ≤ n) (h2 : n ≤ 1000000) :
    Calls Try.prog 31 #[.int .i64 x, .int .i64 n] w fun e w' => e = .returned (.int .i64 (x % n)) ∧ w = w' := by
  obtain ⟨b1, b2⟩ := i64_bounds hx
  have hn : ¬ n < 1 := by omega
  have g1 := Int.emod_nonneg x (show n ≠ 0 by omega)
  have g2 := Int.emod_lt_of_pos x (show 0 < n by omega)
  by_cases hneg : x.tmod n < 0
  · have e1 : Hid (wrap64 (x.tmod n + n) = x % n) := by rw [tmod_neg h1 hneg]; exact wrap64_small (by omega) (by omega)
    clear g1 g2
    go_enter Try.func31, Try.ntmps31
    go_wp2
    go_ret
    exact ⟨ret_int e1.out, rfl⟩
  · have e1 : Hid (x.tmod n = x % n) := tmod_pos h1 (by omega)
    clear g1 g2
    go_enter Try.func31, Try.ntmps31
    go_wp2
    go_ret
    exact ⟨ret_int e1.out, rfl⟩

theorem ones_step (N j : Nat) (h : j < N) : (List.replicate j (49 : UInt8) ++ List.replicate (N - j) 0).set j 49 = List.replicate (j + 1) 49 ++ List.replicate (N - (j + 1)) 0 := by
  have e1 : List.replicate (N - j) (0 : UInt8) = 0 :: List.replicate (N - (j + 1)) 0 := by rw [← List.replicate_succ]; congr 1; omega
  rw [e1, List.set_append_right _ _ (by simp), List.length_replicate, Nat.sub_self, List.set_cons_zero, List.replicate_succ', List.append_assoc]
  rfl
theorem ones_all (N : Nat) : AllB (bl (mkS (List.replicate N 49))) (mkS (List.replicate N 49)).size := by
  intro i hi
  rw [mkS_size, List.length_replicate] at hi
  rw [bl_mkS, byteAt_lt (by rw [List.length_replicate]; exact hi)]
  simp

set_option maxHeartbeats 4000000 in
set_option maxRecDepth 100000 in
theorem long_law (w : World) (more : Int) (hm : (Lit.int .i64 more).wf = true) :
    Calls Try.prog 6 #[.int .i64 more] w fun e w' => e = .returned (.bool true) ∧ Fr [] w w' := by
  have k0 := Int.emod_nonneg more (show (3 : Int) ≠ 0 by omega)
  have k1 := Int.emod_lt_of_pos more (show (0 : Int) < 3 by omega)
  obtain ⟨N, hN⟩ : ∃ N : Nat, (1048575 : Int) + more % 3 = (N : Int) := ⟨(1048575 + more % 3).toNat, by omega⟩
  have hN1 : 1048575 ≤ N := by omega
  have hN2 : N ≤ 1048577 := by omega
  have hi1 : (1048575 : Int) ≤ (N : Int) := by omega
  have hi2 : (N : Int) ≤ 1048577 := by omega
  go_enter Try.func6, Try.ntmps6
  go_wp2_with (first
    | (go_at_call 9; refine (awake_any _).mono ?_; rintro e w0 ⟨rfl, f0⟩)
    | (go_at_call 31; refine (pick_any _ more 3 hm (by omega) (by omega)).mono ?_; rintro e w5 ⟨rfl, rfl⟩)
    | (refine wp_make rfl _ _ rfl N rfl rfl (by omega) ?_; intro w1 g s1 b1 f1; have g1 := f0.trans f1; have sg : w.heap.size ≤ g := (by have := f0.size; omega))
    | go_in)
  go_loopw [5] (fun i wr => ∃ j : Nat, j ≤ N ∧ i = .int .i64 j ∧ Blk wr g (List.replicate j 49 ++ List.replicate (N - j) 0) ∧ Fr [g] w1 wr) (fun i _ => N - (intOf i).toNat)
  case atStart => exact ⟨0, by omega, rfl, by simpa using b1, Fr.refl _ _⟩
  case round =>
    obtain ⟨j, hj, rfl, bj, fr⟩ := hrel
    have hj0 : (0 : Int) ≤ (j : Int) := by omega
    by_cases hlt : j < N
    · have hlt' : (j : Int) < (N : Int) := by omega
      have q1 := bj.cell j (by simp; omega)
      have z1 := bj.frozen j
      have b2 := bj.set j 49
      rw [ones_step N j hlt] at b2
      go_wp2
      exact ⟨⟨j + 1, by omega, by go_num, b2, fr.setCell _ _ (by simp)⟩, by simp [intOf]; omega⟩
    · obtain rfl : j = N := by omega
      rw [Nat.sub_self, List.replicate_zero, List.append_nil] at bj
      have gg : Fr [] w wr := g1.then fr (fun i hi hm => by simp at hm; omega)
      have hall := ones_all j
      have hsz : (mkS (List.replicate j 49)).size = j := by rw [mkS_size, List.length_replicate]
      have hlen : Hid ((List.replicate j (49 : UInt8)).length = j) := by show _ = _; simp
      have hby := bj.bytes
      generalize hS : mkS (List.replicate j 49) = S at hall hsz
      have HS : Hid (mkS (List.replicate j 49) = S) := hS
      clear hS bj b1 g1 fr hN k0 k1
      have d0 : decide ((j : Int) < (j : Int)) = false := by simp
      by_cases hbig : j ≤ 1048576
      · have e1 : (j : Int) ≤ 1048576 := by omega
        go_wp2_with (refine wp_conv rfl _ rfl (List.replicate j 49) _ j j rfl hlen.out hby (fun _ => Or.inr ⟨_, _, rfl⟩) ?_; rw [HS.out])
        refine (of_in _ S (by omega)).mono ?_
        rintro e w2 ⟨hd, f2⟩
        rcases hd with ⟨⟨u, he, hu⟩, _⟩ | ⟨_, hno⟩
        · rw [hsz] at he hu
          subst he
          generalize said (bl S) = r at hu
          have g2 := gg.trans f2
          have b2 := Box.new w2 u j
          have g2a := g2.alloc (.cells #[.string u, .int .i64 (j : Int)] 24)
          go_wp2_with fail
          refine (of_lit _ [49] [true] (by decide) (by decide)).mono ?_
          rintro e w3 ⟨⟨v, rfl, hv⟩, f3⟩
          have g3 := g2a.trans f3
          have b3 : Box (w3.alloc (.cells #[.string v, .int .i64 1] 24)) w3.heap.size v 1 := Box.new w3 v 1
          have g3a := g3.alloc (.cells #[.string v, .int .i64 1] 24)
          have b2a := (b2.kept f3 (by simp)).kept ((Fr.refl [] w3).alloc (.cells #[.string v, .int .i64 1] 24)) (by simp)
          have q0 := b2a.c0
          have q1 := b2a.c1
          go_wp2_with fail
          by_cases h20 : j = 1048576
          · refine (and_over _ u v j 1 (by omega) (by omega) (by omega)).mono ?_
            rintro e w4 ⟨rfl, f4⟩
            have g4 := g3a.trans f4
            have g4a := g4.alloc (.cells #[.string (mkS []), .int .i64 0] 24)
            have p2 := (b2a.kept f4 (by simp)).kept ((Fr.refl [] w4).alloc (.cells #[.string (mkS []), .int .i64 0] 24)) (by simp)
            have p4 : Box (w4.alloc (.cells #[.string (mkS []), .int .i64 0] 24)) w4.heap.size (mkS []) 0 := Box.new w4 (mkS []) 0
            have r0 := p2.c0
            have r1 := p2.c1
            have e2 : ((j : Int) == 1048576) = true := by simp; omega
            have e3 : decide ((j : Int) < 1048576) = false := by simp; omega
            have e3' : decide (j < 1048576) = false := by simp; omega
            clear h20 q0 q1
            go_wp2_with fail
            refine (len_any _ u j).mono ?_
            rintro e w5 ⟨rfl, f5⟩
            have t0 := (p4.kept f5 (by simp)).c0
            have t1 : World.cell? _ _ = some (.int .i64 0) := (p4.kept f5 (by simp)).c1
            go_wp2_with fail
            refine (len_any _ (mkS []) 0).mono ?_
            rintro e w6 ⟨rfl, f6⟩
            go_wp2_with fail
            go_ret
            exact ⟨by simp, (g4a.trans f5).trans f6⟩
          · refine (and_any _ u v j 1 (j + 1) r [true] hu hv rfl (by omega)).mono ?_
            rintro e w4 ⟨y, rfl, hy, f4⟩
            have g4 := g3a.trans f4
            have g4a := g4.alloc (.cells #[.string y, .int .i64 ((j : Int) + 1)] 24)
            have p2 := (b2a.kept f4 (by simp)).kept ((Fr.refl [] w4).alloc (.cells #[.string y, .int .i64 ((j : Int) + 1)] 24)) (by simp)
            have p4 : Box (w4.alloc (.cells #[.string y, .int .i64 ((j : Int) + 1)] 24)) w4.heap.size y (j + 1) := Box.new w4 y (j + 1)
            have r0 := p2.c0
            have r1 := p2.c1
            have e3 : decide ((j : Int) < 1048576) = true := by simp; omega
            have e3' : decide (j < 1048576) = true := by simp; omega
            clear h20 q0 q1
            go_wp2_with fail
            refine (len_any _ u j).mono ?_
            rintro e w5 ⟨rfl, f5⟩
            have t0 := (p4.kept f5 (by simp)).c0
            have t1 : World.cell? _ _ = some (.int .i64 ((j : Int) + 1)) := (p4.kept f5 (by simp)).c1
            go_wp2_with fail
            refine (len_any _ y (j + 1)).mono ?_
            rintro e w6 ⟨rfl, f6⟩
            go_wp2_with fail
            go_ret
            exact ⟨by simp, (g4a.trans f5).trans f6⟩
        · exact absurd hall hno
      · have e1 : (1048576 : Int) < (j : Int) := by omega
        go_wp2_with (refine wp_conv rfl _ rfl (List.replicate j 49) _ j j rfl hlen.out hby (fun _ => Or.inr ⟨_, _, rfl⟩) ?_; rw [HS.out])
        refine (of_over _ S (by omega) (by omega)).mono ?_
        rintro e w2 ⟨rfl, f2⟩
        have g2 := gg.trans f2
        have b2 : Box (w2.alloc (.cells #[.string (mkS []), .int .i64 0] 24)) w2.heap.size (mkS []) 0 := Box.new w2 (mkS []) 0
        have g2a := g2.alloc (.cells #[.string (mkS []), .int .i64 0] 24)
        go_wp2_with fail
        refine (of_lit _ [49] [true] (by decide) (by decide)).mono ?_
        rintro e w3 ⟨⟨v, rfl, hv⟩, f3⟩
        have g3 := g2a.trans f3
        have g3a := g3.alloc (.cells #[.string v, .int .i64 1] 24)
        have b2a := (b2.kept f3 (by simp)).kept ((Fr.refl [] w3).alloc (.cells #[.string v, .int .i64 1] 24)) (by simp)
        have q0 := b2a.c0
        have q1 : World.cell? _ _ = some (.int .i64 0) := b2a.c1
        go_wp2_with fail
        refine (len_any _ (mkS []) 0).mono ?_
        rintro e w4 ⟨rfl, f4⟩
        go_wp2_with fail
        go_ret
        exact ⟨by simp, g3a.trans f4⟩

end Go.Proofs.Ytdkleigkkndecaa
