/-
  BitsSay, walked.
-/
import Derived.Test.YtdkleigkkndecaaRefSay
namespace Go.Proofs.Ytdkleigkkndecaa
open Go.RowKit Go.Lib

theorem txt_append (r q : List Bool) : txt (r ++ q) = txt r ++ txt q := by simp [txt]

theorem run_mid (s : ByteArray) (p q : Nat) (h1 : p ≤ q) (h2 : q ≤ s.size) (w : World) : (Instr.slice 9 (.string s) (some (.int .i64 (p : Int))) (some (.int .i64 (q : Int))) none).run Try.prog w = .ok (.string (mkS (((bl s).drop p).take (q - p)))) w := by
  rw [run_slice_string (P := Try.prog) w 9 s .i64 .i64 (p : Int) (q : Int) Try.underlying9 (by omega) (by omega) (by omega)]
  have e : s.extract p q = mkS (((bl s).drop p).take (q - p)) := by
    have := ByteArray.extract_mk (bl s) p q
    have e2 : ByteArray.mk (bl s).toArray = s := rfl
    rw [e2] at this
    rw [this]
    rfl
  simp [e]
theorem txt_cut (r : List Bool) (p n : Nat) : txt ((r.drop p).take n) = ((txt r).drop p).take n := by simp [txt]

set_option maxHeartbeats 4000000 in
set_option maxRecDepth 100000 in
theorem say_big (w : World) (a b : ByteArray) (i j : Int) (ha : a.size < 140737488355328) (hb : b.size < 140737488355328) (h : 5000 < a.size + b.size) :
    Calls Try.prog 3 #[.string a, .string b, .int .i64 i, .int .i64 j] w fun e w' => e = .returned (.bool true) ∧ Fr [] w w' := by
  have h1 : (5000 : Int) < (a.size : Int) + (b.size : Int) := by omega
  have h2 : (a.size : Int) < 140737488355328 := by omega
  have h3 : (b.size : Int) < 140737488355328 := by omega
  clear h ha hb
  go_enter Try.func3, Try.ntmps3
  go_wp2_with (go_at_call 9; refine (awake_any _).mono ?_; rintro e w0 ⟨rfl, f0⟩)
  go_ret
  exact ⟨rfl, f0⟩

set_option maxHeartbeats 8000000 in
set_option maxRecDepth 100000 in
theorem say_small (w : World) (a b : ByteArray) (i j : Int) (h : a.size + b.size ≤ 5000) :
    Calls Try.prog 3 #[.string a, .string b, .int .i64 i, .int .i64 j] w fun e w' => e = .returned (.bool true) ∧ Fr [] w w' := by
  have h1 : (a.size : Int) + (b.size : Int) ≤ 5000 := by omega
  have h2 : (a.size : Int) ≤ 5000 := by omega
  have h3 : (b.size : Int) ≤ 5000 := by omega
  have k1 : a.size ≤ 1048576 := by omega
  have k2 : b.size ≤ 1048576 := by omega
  have hab : Hid (a.size + b.size ≤ 5000) := h
  clear h
  go_enter Try.func3, Try.ntmps3
  go_wp2_with (go_at_call 9; refine (awake_any _).mono ?_; rintro e w0 ⟨rfl, f0⟩)
  refine (of_in _ a k1).mono ?_
  rintro e w1 ⟨hd, f1⟩
  have g1 := f0.trans f1
  rcases hd with ⟨⟨u, rfl, hu⟩, hall⟩ | ⟨rfl, hno⟩
  · have b1 := Box.new w1 u a.size
    have g1a := g1.alloc (.cells #[.string u, .int .i64 (a.size : Int)] 24)
    go_wp2_with fail
    refine (rright_any _ a k1).mono ?_
    rintro e w2 ⟨hd, f2⟩
    rcases hd with ⟨rfl, _⟩ | ⟨_, hno⟩
    · have g2 := g1a.trans f2
      have b2 := b1.kept f2 (by simp)
      go_wp2_with fail
      refine (of_in _ b k2).mono ?_
      rintro e w3 ⟨hd, f3⟩
      have g3 := g2.trans f3
      have b3 := b2.kept f3 (by simp)
      rcases hd with ⟨⟨v, rfl, hv⟩, hall2⟩ | ⟨rfl, hno2⟩
      · have bX := b3.kept ((Fr.refl [] w3).alloc (.cells #[.string v, .int .i64 (b.size : Int)] 24)) (by simp)
        have bY := Box.new w3 v b.size
        have g4 := g3.alloc (.cells #[.string v, .int .i64 (b.size : Int)] 24)
        have HX : Hid (txt (said (bl a)) = bl a) := txt_said hall
        have HY : Hid (txt (said (bl b)) = bl b) := txt_said hall2
        have HA : Hid (AllB (bl a) a.size) := hall
        clear hall hall2 b1 b2 b3 g1 g1a g2 g3 f0 f1 f2 f3
        have p0 := bX.c0
        have p1 := bX.c1
        go_wp2_with fail
        refine (len_any _ u a.size).mono ?_
        rintro e w5 ⟨rfl, f5⟩
        have b5 := bX.kept f5 (by simp)
        have c5 := bY.kept f5 (by simp)
        have g5 := g4.trans f5
        have p2 := b5.c0
        have p3 := b5.c1
        go_wp2_with fail
        refine (text_any _ u a.size _ hu).mono ?_
        rw [HX.out, mkS_bl]
        rintro e w6 ⟨rfl, f6⟩
        have b6 := b5.kept f6 (by simp)
        have c6 := c5.kept f6 (by simp)
        have g6 := g5.trans f6
        have p4 := b6.c0
        have p5 := b6.c1
        clear p0 p1 p2 p3 bX bY b5 c5
        go_wp2_with fail
        refine (at_any _ u a.size _ hu i).mono ?_
        rintro e w7 ⟨rfl, f7⟩
        have b7 := b6.kept f7 (by simp)
        have c7 := c6.kept f7 (by simp)
        have g7 := g6.trans f7
        go_wp2_with fail
        refine (rat_any _ a k1 HA.out i).mono ?_
        rintro e w8 ⟨rfl, f8⟩
        have b8 := b7.kept f8 (by simp)
        have c8 := c7.kept f8 (by simp)
        have g8 := g7.trans f8
        have p6 := b8.c0
        have p7 := b8.c1
        have p8 := c8.c0
        have p9 := c8.c1
        clear p4 p5
        go_wp2_with fail
        refine (and_any _ u v a.size b.size (a.size + b.size) _ _ hu hv rfl (by have := hab.out; omega)).mono ?_
        rintro e w9 ⟨x, rfl, hx, f9⟩
        have b9 := b8.kept f9 (by simp)
        have g9 := g8.trans f9
        go_wp2_with fail
        refine (text_any _ x (a.size + b.size) _ hx).mono ?_
        rw [txt_append, HX.out, HY.out]
        rintro e w10 ⟨rfl, f10⟩
        have b10 := b9.kept f10 (by simp)
        have g10 := g9.trans f10
        go_wp2_with fail
        refine (rand_any _ a b (by have := hab.out; omega)).mono ?_
        rintro e w11 ⟨rfl, f11⟩
        have b11 := b10.kept f11 (by simp)
        have g11 := g10.trans f11
        have r0 := b11.c0
        have r1 := b11.c1
        clear b6 b7 b8 b9 b10 c6 c7 c8 p6 p7 p8 p9 g4 g5 g6 g7 g8 g9 g10 f5 f6 f7 f8 f9 f10 f11
        go_wp2_with fail
        by_cases hmay : 0 ≤ i ∧ i ≤ j ∧ j ≤ a.size
        · obtain ⟨m1, m2, m3⟩ := hmay
          obtain ⟨p, rfl⟩ : ∃ p : Nat, i = p := ⟨i.toNat, by omega⟩
          obtain ⟨q, rfl⟩ : ∃ q : Nat, j = q := ⟨j.toNat, by omega⟩
          refine (cut_in _ u a.size p q (q - p) _ hu (by omega) (by omega)).mono ?_
          rintro e w12 ⟨c, rfl, hc, f12⟩
          have g12 := g11.trans f12
          have hsl := run_mid a p q (by omega) (by omega)
          have HT : Hid (txt (((said (bl a)).drop p).take (q - p)) = ((bl a).drop p).take (q - p)) := by show _ = _; rw [txt_cut, HX.out]
          obtain ⟨N, hN⟩ : ∃ N, q - p = N := ⟨_, rfl⟩
          rw [hN] at hc hsl HT ⊢
          have d1 : decide ((0 : Int) ≤ (p : Int)) = true := by simp
          have d2 : decide ((p : Int) ≤ (q : Int)) = true := by simp; omega
          have d2' : decide (p ≤ q) = true := by simp; omega
          have d3 : decide ((q : Int) ≤ (a.size : Int)) = true := by simp; omega
          have d3' : decide (q ≤ a.size) = true := by simp; omega
          have bc := Box.new w12 c N
          have g13 := g12.alloc (.cells #[.string c, .int .i64 (N : Int)] 24)
          clear r0 r1 b11 g11 f12 m1 m2 m3 hN
          go_wp2_with fail
          generalize w12.alloc (.cells #[.string c, .int .i64 (N : Int)] 24) = w13 at bc g13 ⊢
          generalize w12.heap.size = B at bc ⊢
          have t0 := bc.c0
          have t1 := bc.c1
          refine wp_region_noPanic ?_
          refine wp_region_held_drew (S := (fun w' => w'.cell? ⟨B, 0, none⟩ = some (.string c) ∧ w'.cell? ⟨B, 1, none⟩ = some (.int .i64 (N : Int)))) (by kernel_rfl) ⟨t0, t1⟩ (fun hHeld => ?_)
          refine wpAnyH_take (i := 0) (v := ?_) rfl (by kernel_rfl) (by kernel_rfl) (by kernel_rfl) (fun _ _ _ h => h) (Or.inl ⟨by kernel_rfl, ?_⟩) hHeld ?_
          rotate_left
          · intro w' hSw
            obtain ⟨z0, z1⟩ := hSw
            go_simp
            try with_reducible rfl
          try simp only [Act.put]
          refine wpAnyH_take (i := 1) (v := ?_) rfl (by kernel_rfl) (by kernel_rfl) (by kernel_rfl) (fun _ _ _ h => h) (Or.inl ⟨by kernel_rfl, ?_⟩) hHeld ?_
          rotate_left
          · intro w' hSw
            obtain ⟨z0, z1⟩ := hSw
            go_simp
            try with_reducible rfl
          try simp only [Act.put]
          refine wpAnyH_take (i := 2) (v := ?_) rfl (by kernel_rfl) (by kernel_rfl) (by kernel_rfl) (fun _ _ _ h => h) (Or.inl ⟨by kernel_rfl, ?_⟩) hHeld ?_
          rotate_left
          · intro w' hSw
            obtain ⟨z0, z1⟩ := hSw
            go_simp
            try with_reducible rfl
          try simp only [Act.put]
          refine wpAnyH_take (i := 3) (v := ?_) rfl (by kernel_rfl) (by kernel_rfl) (by kernel_rfl) (fun _ _ _ h => h) (Or.inl ⟨by kernel_rfl, ?_⟩) hHeld ?_
          rotate_left
          · intro w' hSw
            obtain ⟨z0, z1⟩ := hSw
            go_simp
            try with_reducible rfl
          try simp only [Act.put]
          refine wpAnyH_take (i := 4) (v := ?_) rfl (by kernel_rfl) (by kernel_rfl) (by kernel_rfl) (fun _ _ _ h => h) (Or.inl ⟨by kernel_rfl, ?_⟩) hHeld ?_
          rotate_left
          · intro w' hSw
            obtain ⟨z0, z1⟩ := hSw
            go_simp
            try with_reducible rfl
          try simp only [Act.put]
          refine wpAnyH_take (i := 5) (v := ?_) rfl (by kernel_rfl) (by kernel_rfl) (by kernel_rfl) (fun _ _ _ h => h) (Or.inl ⟨by kernel_rfl, ?_⟩) hHeld ?_
          rotate_left
          · intro w' hSw
            obtain ⟨z0, z1⟩ := hSw
            go_simp
            try with_reducible rfl
          try simp only [Act.put]
          refine wpAnyH_take (i := 6) (v := ?_) rfl (by kernel_rfl) (by kernel_rfl) (by kernel_rfl) (fun _ _ _ h => h) (Or.inl ⟨by kernel_rfl, ?_⟩) hHeld ?_
          rotate_left
          · intro w' hSw
            obtain ⟨z0, z1⟩ := hSw
            go_simp
            try with_reducible rfl
          try simp only [Act.put]
          refine wpAnyH_take (i := 7) rfl (by kernel_rfl) (by kernel_rfl) (by kernel_rfl) (fun _ _ _ h => h) (Or.inr ⟨by kernel_rfl, rfl⟩) hHeld ?_
          try simp only [Act.put]
          refine wpAnyH_take (i := 8) rfl (by kernel_rfl) (by kernel_rfl) (by kernel_rfl) (fun _ _ _ h => h) (Or.inr ⟨by kernel_rfl, rfl⟩) hHeld ?_
          try simp only [Act.put]
          refine wpAnyH_take (i := 9) rfl (by kernel_rfl) (by kernel_rfl) (by kernel_rfl) (fun _ _ _ h => h) (Or.inr ⟨by kernel_rfl, rfl⟩) hHeld ?_
          try simp only [Act.put]
          refine wpAnyH_take (i := 10) (v := ?_) rfl (by kernel_rfl) (by kernel_rfl) (by kernel_rfl) (fun _ _ _ h => h) (Or.inl ⟨by kernel_rfl, ?_⟩) hHeld ?_
          rotate_left
          · intro w' hSw
            obtain ⟨z0, z1⟩ := hSw
            go_simp
            try with_reducible rfl
          try simp only [Act.put]
          refine wpAnyH_take (i := 11) (v := ?_) rfl (by kernel_rfl) (by kernel_rfl) (by kernel_rfl) (fun _ _ _ h => h) (Or.inl ⟨by kernel_rfl, ?_⟩) hHeld ?_
          rotate_left
          · intro w' hSw
            obtain ⟨z0, z1⟩ := hSw
            go_simp
            try with_reducible rfl
          try simp only [Act.put]
          refine wpAnyH_take (i := 12) (v := ?_) rfl (by kernel_rfl) (by kernel_rfl) (by kernel_rfl) (fun _ _ _ h => h) (Or.inl ⟨by kernel_rfl, ?_⟩) hHeld ?_
          rotate_left
          · intro w' hSw
            obtain ⟨z0, z1⟩ := hSw
            go_simp
            try with_reducible rfl
          try simp only [Act.put]
          refine wpAnyH_take (i := 13) (v := ?_) rfl (by kernel_rfl) (by kernel_rfl) (by kernel_rfl) (fun _ _ _ h => h) (Or.inl ⟨by kernel_rfl, ?_⟩) hHeld ?_
          rotate_left
          · intro w' hSw
            obtain ⟨z0, z1⟩ := hSw
            go_simp
            try with_reducible rfl
          try simp only [Act.put]
          refine wpAnyH_take (i := 14) (v := ?_) rfl (by kernel_rfl) (by kernel_rfl) (by kernel_rfl) (fun _ _ _ h => h) (Or.inl ⟨by kernel_rfl, ?_⟩) hHeld ?_
          rotate_left
          · intro w' hSw
            obtain ⟨z0, z1⟩ := hSw
            go_simp
            try with_reducible rfl
          try simp only [Act.put]
          refine wpAnyH_take (i := 16) (v := ?_) rfl (by kernel_rfl) (by kernel_rfl) (by kernel_rfl) (fun _ _ _ h => h) (Or.inl ⟨by kernel_rfl, ?_⟩) hHeld ?_
          rotate_left
          · intro w' hSw
            obtain ⟨z0, z1⟩ := hSw
            go_simp
            try with_reducible rfl
          try simp only [Act.put]
          refine wpAnyH_take (i := 17) (v := ?_) rfl (by kernel_rfl) (by kernel_rfl) (by kernel_rfl) (fun _ _ _ h => h) (Or.inl ⟨by kernel_rfl, ?_⟩) hHeld ?_
          rotate_left
          · intro w' hSw
            obtain ⟨z0, z1⟩ := hSw
            go_simp
            try with_reducible rfl
          try simp only [Act.put]
          refine wpAnyH_take (i := 18) (v := ?_) rfl (by kernel_rfl) (by kernel_rfl) (by kernel_rfl) (fun _ _ _ h => h) (Or.inl ⟨by kernel_rfl, ?_⟩) hHeld ?_
          rotate_left
          · intro w' hSw
            obtain ⟨z0, z1⟩ := hSw
            go_simp
            try with_reducible rfl
          try simp only [Act.put]
          refine wpAnyH_take (i := 19) (v := ?_) rfl (by kernel_rfl) (by kernel_rfl) (by kernel_rfl) (fun _ _ _ h => h) (Or.inl ⟨by kernel_rfl, ?_⟩) hHeld ?_
          rotate_left
          · intro w' hSw
            obtain ⟨z0, z1⟩ := hSw
            go_simp
            try with_reducible rfl
          try simp only [Act.put]
          refine wpAnyH_ready (rs := [15]) (by kernel_rfl) (by simp) ?_
          refine AllReadyH.cons rfl (fun K hK => ?_) AllReadyH.nil
          go_simp
          refine (text_any _ c N _ hc).mono ?_
          rw [HT.out]
          rintro e w14 ⟨rfl, f14⟩
          have g14 := g13.drew.trans f14
          have bd := bc.kept ((Fr.refl [] w13).drew.trans f14) (by simp)
          have t2 := bd.c0
          have t3 := bd.c1
          refine hK.out _ _ ⟨t2, t3⟩ (fun hHeld2 => ?_)
          clear hK K
          try simp only [Act.put, List.setIfInBounds_toArray, List.set_cons_zero, List.set_cons_succ]
          refine wpAnyH_take (i := 20) (v := ?_) rfl (by kernel_rfl) (by kernel_rfl) (by kernel_rfl) (fun _ _ _ h => h) (Or.inl ⟨by kernel_rfl, ?_⟩) hHeld2 ?_
          rotate_left
          · intro w' hSw
            obtain ⟨z0, z1⟩ := hSw
            go_simp
            try with_reducible rfl
          try simp only [Act.put]
          refine wpAnyH_take (i := 21) (v := ?_) rfl (by kernel_rfl) (by kernel_rfl) (by kernel_rfl) (fun _ _ _ h => h) (Or.inl ⟨by kernel_rfl, ?_⟩) hHeld2 ?_
          rotate_left
          · intro w' hSw
            obtain ⟨z0, z1⟩ := hSw
            go_simp
            try with_reducible rfl
          try simp only [Act.put]
          refine wpAnyH_take (i := 22) (v := ?_) rfl (by kernel_rfl) (by kernel_rfl) (by kernel_rfl) (fun _ _ _ h => h) (Or.inl ⟨by kernel_rfl, ?_⟩) hHeld2 ?_
          rotate_left
          · intro w' hSw
            obtain ⟨z0, z1⟩ := hSw
            go_simp
            try with_reducible rfl
          try simp only [Act.put]
          refine wpAnyH_take (i := 23) (v := ?_) rfl (by kernel_rfl) (by kernel_rfl) (by kernel_rfl) (fun _ _ _ h => h) (Or.inl ⟨by kernel_rfl, ?_⟩) hHeld2 ?_
          rotate_left
          · intro w' hSw
            obtain ⟨z0, z1⟩ := hSw
            go_simp
            try with_reducible rfl
          try simp only [Act.put]
          refine wpAnyH_take (i := 24) (v := ?_) rfl (by kernel_rfl) (by kernel_rfl) (by kernel_rfl) (fun _ _ _ h => h) (Or.inl ⟨by kernel_rfl, ?_⟩) hHeld2 ?_
          rotate_left
          · intro w' hSw
            obtain ⟨z0, z1⟩ := hSw
            go_simp
            try with_reducible rfl
          try simp only [Act.put]
          refine wpAnyH_done (by kernel_rfl) ?_ _
          refine NoPanic.normal ?_
          simp only [List.getElem_toArray, List.getElem_cons_succ, List.getElem_cons_zero, List.setIfInBounds_toArray, List.set_cons_succ, List.set_cons_zero]
          go_wp2
          go_ret
          exact ⟨rfl, g14⟩
        · refine (cut_bad _ u a.size i j hmay).mono ?_
          rintro e w12 ⟨rfl, f12⟩
          have g12 := g11.trans f12
          have bc : Box (w12.alloc (.cells #[.string (mkS []), .int .i64 0] 24)) w12.heap.size (mkS []) 0 := Box.new w12 (mkS []) 0
          have g13 := g12.alloc (.cells #[.string (mkS []), .int .i64 0] 24)
          clear r0 r1 b11 g11 f12
          have hcase : i < 0 ∨ (0 ≤ i ∧ j < i) ∨ (0 ≤ i ∧ i ≤ j ∧ (a.size : Int) < j) := by omega
          clear hmay
          rcases hcase with m1 | ⟨m1, m2⟩ | ⟨m1, m2, m3⟩
          · have d1 : decide ((0 : Int) ≤ i) = false := by simp; omega
            clear m1
            go_wp2_with fail
            generalize w12.alloc (.cells #[.string (mkS []), .int .i64 0] 24) = w13 at bc g13 ⊢
            generalize w12.heap.size = B at bc ⊢
            have t0 := bc.c0
            have t1 : World.cell? _ _ = some (.int .i64 0) := bc.c1
            refine wp_region_noPanic ?_
            refine wp_region_held_drew (S := (fun w' => w'.cell? ⟨B, 0, none⟩ = some (.string (mkS [])) ∧ w'.cell? ⟨B, 1, none⟩ = some (.int .i64 0))) (by kernel_rfl) ⟨t0, t1⟩ (fun hHeld => ?_)
            refine wpAnyH_take (i := 0) (v := ?_) rfl (by kernel_rfl) (by kernel_rfl) (by kernel_rfl) (fun _ _ _ h => h) (Or.inl ⟨by kernel_rfl, ?_⟩) hHeld ?_
            rotate_left
            · intro w' hSw
              obtain ⟨z0, z1⟩ := hSw
              go_simp
              try with_reducible rfl
            try simp only [Act.put]
            refine wpAnyH_take (i := 1) (v := ?_) rfl (by kernel_rfl) (by kernel_rfl) (by kernel_rfl) (fun _ _ _ h => h) (Or.inl ⟨by kernel_rfl, ?_⟩) hHeld ?_
            rotate_left
            · intro w' hSw
              obtain ⟨z0, z1⟩ := hSw
              go_simp
              try with_reducible rfl
            try simp only [Act.put]
            refine wpAnyH_take (i := 2) (v := ?_) rfl (by kernel_rfl) (by kernel_rfl) (by kernel_rfl) (fun _ _ _ h => h) (Or.inl ⟨by kernel_rfl, ?_⟩) hHeld ?_
            rotate_left
            · intro w' hSw
              obtain ⟨z0, z1⟩ := hSw
              go_simp
              try with_reducible rfl
            try simp only [Act.put]
            refine wpAnyH_take (i := 3) (v := ?_) rfl (by kernel_rfl) (by kernel_rfl) (by kernel_rfl) (fun _ _ _ h => h) (Or.inl ⟨by kernel_rfl, ?_⟩) hHeld ?_
            rotate_left
            · intro w' hSw
              obtain ⟨z0, z1⟩ := hSw
              go_simp
              try with_reducible rfl
            try simp only [Act.put]
            refine wpAnyH_take (i := 4) (v := ?_) rfl (by kernel_rfl) (by kernel_rfl) (by kernel_rfl) (fun _ _ _ h => h) (Or.inl ⟨by kernel_rfl, ?_⟩) hHeld ?_
            rotate_left
            · intro w' hSw
              obtain ⟨z0, z1⟩ := hSw
              go_simp
              try with_reducible rfl
            try simp only [Act.put]
            refine wpAnyH_take (i := 5) (v := ?_) rfl (by kernel_rfl) (by kernel_rfl) (by kernel_rfl) (fun _ _ _ h => h) (Or.inl ⟨by kernel_rfl, ?_⟩) hHeld ?_
            rotate_left
            · intro w' hSw
              obtain ⟨z0, z1⟩ := hSw
              go_simp
              try with_reducible rfl
            try simp only [Act.put]
            refine wpAnyH_take (i := 6) (v := ?_) rfl (by kernel_rfl) (by kernel_rfl) (by kernel_rfl) (fun _ _ _ h => h) (Or.inl ⟨by kernel_rfl, ?_⟩) hHeld ?_
            rotate_left
            · intro w' hSw
              obtain ⟨z0, z1⟩ := hSw
              go_simp
              try with_reducible rfl
            try simp only [Act.put]
            refine wpAnyH_take (i := 7) (v := ?_) rfl (by kernel_rfl) (by kernel_rfl) (by kernel_rfl) (fun _ _ _ h => h) (Or.inl ⟨by kernel_rfl, ?_⟩) hHeld ?_
            rotate_left
            · intro w' hSw
              obtain ⟨z0, z1⟩ := hSw
              go_simp
              try with_reducible rfl
            try simp only [Act.put]
            refine wpAnyH_ready (rs := [8]) (by kernel_rfl) (by simp) ?_
            refine AllReadyH.cons rfl (fun K hK => ?_) AllReadyH.nil
            go_simp
            refine (len_any _ (mkS []) 0).mono ?_
            rintro e w14 ⟨rfl, f14⟩
            have g14 := g13.drew.trans f14
            have bd := bc.kept ((Fr.refl [] w13).drew.trans f14) (by simp)
            have t2 := bd.c0
            have t3 : World.cell? _ _ = some (.int .i64 0) := bd.c1
            refine hK.out _ _ ⟨t2, t3⟩ (fun hHeld2 => ?_)
            clear hK K
            try simp only [Act.put, List.setIfInBounds_toArray, List.set_cons_zero, List.set_cons_succ]
            refine wpAnyH_take (i := 9) (v := ?_) rfl (by kernel_rfl) (by kernel_rfl) (by kernel_rfl) (fun _ _ _ h => h) (Or.inl ⟨by kernel_rfl, ?_⟩) hHeld2 ?_
            rotate_left
            · intro w' hSw
              obtain ⟨z0, z1⟩ := hSw
              go_simp
              try with_reducible rfl
            try simp only [Act.put]
            refine wpAnyH_take (i := 10) (v := ?_) rfl (by kernel_rfl) (by kernel_rfl) (by kernel_rfl) (fun _ _ _ h => h) (Or.inl ⟨by kernel_rfl, ?_⟩) hHeld2 ?_
            rotate_left
            · intro w' hSw
              obtain ⟨z0, z1⟩ := hSw
              go_simp
              try with_reducible rfl
            try simp only [Act.put]
            refine wpAnyH_take (i := 11) (v := ?_) rfl (by kernel_rfl) (by kernel_rfl) (by kernel_rfl) (fun _ _ _ h => h) (Or.inl ⟨by kernel_rfl, ?_⟩) hHeld2 ?_
            rotate_left
            · intro w' hSw
              obtain ⟨z0, z1⟩ := hSw
              go_simp
              try with_reducible rfl
            try simp only [Act.put]
            refine wpAnyH_take (i := 12) rfl (by kernel_rfl) (by kernel_rfl) (by kernel_rfl) (fun _ _ _ h => h) (Or.inr ⟨by kernel_rfl, rfl⟩) hHeld2 ?_
            try simp only [Act.put]
            refine wpAnyH_take (i := 13) rfl (by kernel_rfl) (by kernel_rfl) (by kernel_rfl) (fun _ _ _ h => h) (Or.inr ⟨by kernel_rfl, rfl⟩) hHeld2 ?_
            try simp only [Act.put]
            refine wpAnyH_take (i := 14) rfl (by kernel_rfl) (by kernel_rfl) (by kernel_rfl) (fun _ _ _ h => h) (Or.inr ⟨by kernel_rfl, rfl⟩) hHeld2 ?_
            try simp only [Act.put]
            refine wpAnyH_take (i := 15) rfl (by kernel_rfl) (by kernel_rfl) (by kernel_rfl) (fun _ _ _ h => h) (Or.inr ⟨by kernel_rfl, rfl⟩) hHeld2 ?_
            try simp only [Act.put]
            refine wpAnyH_take (i := 16) rfl (by kernel_rfl) (by kernel_rfl) (by kernel_rfl) (fun _ _ _ h => h) (Or.inr ⟨by kernel_rfl, rfl⟩) hHeld2 ?_
            try simp only [Act.put]
            refine wpAnyH_take (i := 17) rfl (by kernel_rfl) (by kernel_rfl) (by kernel_rfl) (fun _ _ _ h => h) (Or.inr ⟨by kernel_rfl, rfl⟩) hHeld2 ?_
            try simp only [Act.put]
            refine wpAnyH_take (i := 18) rfl (by kernel_rfl) (by kernel_rfl) (by kernel_rfl) (fun _ _ _ h => h) (Or.inr ⟨by kernel_rfl, rfl⟩) hHeld2 ?_
            try simp only [Act.put]
            refine wpAnyH_take (i := 19) rfl (by kernel_rfl) (by kernel_rfl) (by kernel_rfl) (fun _ _ _ h => h) (Or.inr ⟨by kernel_rfl, rfl⟩) hHeld2 ?_
            try simp only [Act.put]
            refine wpAnyH_take (i := 20) rfl (by kernel_rfl) (by kernel_rfl) (by kernel_rfl) (fun _ _ _ h => h) (Or.inr ⟨by kernel_rfl, rfl⟩) hHeld2 ?_
            try simp only [Act.put]
            refine wpAnyH_take (i := 21) rfl (by kernel_rfl) (by kernel_rfl) (by kernel_rfl) (fun _ _ _ h => h) (Or.inr ⟨by kernel_rfl, rfl⟩) hHeld2 ?_
            try simp only [Act.put]
            refine wpAnyH_take (i := 22) (v := ?_) rfl (by kernel_rfl) (by kernel_rfl) (by kernel_rfl) (fun _ _ _ h => h) (Or.inl ⟨by kernel_rfl, ?_⟩) hHeld2 ?_
            rotate_left
            · intro w' hSw
              obtain ⟨z0, z1⟩ := hSw
              go_simp
              try with_reducible rfl
            try simp only [Act.put]
            refine wpAnyH_take (i := 23) (v := ?_) rfl (by kernel_rfl) (by kernel_rfl) (by kernel_rfl) (fun _ _ _ h => h) (Or.inl ⟨by kernel_rfl, ?_⟩) hHeld2 ?_
            rotate_left
            · intro w' hSw
              obtain ⟨z0, z1⟩ := hSw
              go_simp
              try with_reducible rfl
            try simp only [Act.put]
            refine wpAnyH_take (i := 24) (v := ?_) rfl (by kernel_rfl) (by kernel_rfl) (by kernel_rfl) (fun _ _ _ h => h) (Or.inl ⟨by kernel_rfl, ?_⟩) hHeld2 ?_
            rotate_left
            · intro w' hSw
              obtain ⟨z0, z1⟩ := hSw
              go_simp
              try with_reducible rfl
            try simp only [Act.put]
            refine wpAnyH_done (by kernel_rfl) ?_ _
            refine NoPanic.normal ?_
            simp only [List.getElem_toArray, List.getElem_cons_succ, List.getElem_cons_zero, List.setIfInBounds_toArray, List.set_cons_succ, List.set_cons_zero]
            go_wp2
            go_ret
            exact ⟨rfl, g14⟩
          · have d1 : decide ((0 : Int) ≤ i) = true := by simp; omega
            have d2 : decide (i ≤ j) = false := by simp; omega
            clear m1 m2
            go_wp2_with fail
            generalize w12.alloc (.cells #[.string (mkS []), .int .i64 0] 24) = w13 at bc g13 ⊢
            generalize w12.heap.size = B at bc ⊢
            have t0 := bc.c0
            have t1 : World.cell? _ _ = some (.int .i64 0) := bc.c1
            refine wp_region_noPanic ?_
            refine wp_region_held_drew (S := (fun w' => w'.cell? ⟨B, 0, none⟩ = some (.string (mkS [])) ∧ w'.cell? ⟨B, 1, none⟩ = some (.int .i64 0))) (by kernel_rfl) ⟨t0, t1⟩ (fun hHeld => ?_)
            refine wpAnyH_take (i := 0) (v := ?_) rfl (by kernel_rfl) (by kernel_rfl) (by kernel_rfl) (fun _ _ _ h => h) (Or.inl ⟨by kernel_rfl, ?_⟩) hHeld ?_
            rotate_left
            · intro w' hSw
              obtain ⟨z0, z1⟩ := hSw
              go_simp
              try with_reducible rfl
            try simp only [Act.put]
            refine wpAnyH_take (i := 1) (v := ?_) rfl (by kernel_rfl) (by kernel_rfl) (by kernel_rfl) (fun _ _ _ h => h) (Or.inl ⟨by kernel_rfl, ?_⟩) hHeld ?_
            rotate_left
            · intro w' hSw
              obtain ⟨z0, z1⟩ := hSw
              go_simp
              try with_reducible rfl
            try simp only [Act.put]
            refine wpAnyH_take (i := 2) (v := ?_) rfl (by kernel_rfl) (by kernel_rfl) (by kernel_rfl) (fun _ _ _ h => h) (Or.inl ⟨by kernel_rfl, ?_⟩) hHeld ?_
            rotate_left
            · intro w' hSw
              obtain ⟨z0, z1⟩ := hSw
              go_simp
              try with_reducible rfl
            try simp only [Act.put]
            refine wpAnyH_take (i := 3) (v := ?_) rfl (by kernel_rfl) (by kernel_rfl) (by kernel_rfl) (fun _ _ _ h => h) (Or.inl ⟨by kernel_rfl, ?_⟩) hHeld ?_
            rotate_left
            · intro w' hSw
              obtain ⟨z0, z1⟩ := hSw
              go_simp
              try with_reducible rfl
            try simp only [Act.put]
            refine wpAnyH_take (i := 4) (v := ?_) rfl (by kernel_rfl) (by kernel_rfl) (by kernel_rfl) (fun _ _ _ h => h) (Or.inl ⟨by kernel_rfl, ?_⟩) hHeld ?_
            rotate_left
            · intro w' hSw
              obtain ⟨z0, z1⟩ := hSw
              go_simp
              try with_reducible rfl
            try simp only [Act.put]
            refine wpAnyH_take (i := 5) (v := ?_) rfl (by kernel_rfl) (by kernel_rfl) (by kernel_rfl) (fun _ _ _ h => h) (Or.inl ⟨by kernel_rfl, ?_⟩) hHeld ?_
            rotate_left
            · intro w' hSw
              obtain ⟨z0, z1⟩ := hSw
              go_simp
              try with_reducible rfl
            try simp only [Act.put]
            refine wpAnyH_take (i := 6) (v := ?_) rfl (by kernel_rfl) (by kernel_rfl) (by kernel_rfl) (fun _ _ _ h => h) (Or.inl ⟨by kernel_rfl, ?_⟩) hHeld ?_
            rotate_left
            · intro w' hSw
              obtain ⟨z0, z1⟩ := hSw
              go_simp
              try with_reducible rfl
            try simp only [Act.put]
            refine wpAnyH_take (i := 7) (v := ?_) rfl (by kernel_rfl) (by kernel_rfl) (by kernel_rfl) (fun _ _ _ h => h) (Or.inl ⟨by kernel_rfl, ?_⟩) hHeld ?_
            rotate_left
            · intro w' hSw
              obtain ⟨z0, z1⟩ := hSw
              go_simp
              try with_reducible rfl
            try simp only [Act.put]
            refine wpAnyH_ready (rs := [8]) (by kernel_rfl) (by simp) ?_
            refine AllReadyH.cons rfl (fun K hK => ?_) AllReadyH.nil
            go_simp
            refine (len_any _ (mkS []) 0).mono ?_
            rintro e w14 ⟨rfl, f14⟩
            have g14 := g13.drew.trans f14
            have bd := bc.kept ((Fr.refl [] w13).drew.trans f14) (by simp)
            have t2 := bd.c0
            have t3 : World.cell? _ _ = some (.int .i64 0) := bd.c1
            refine hK.out _ _ ⟨t2, t3⟩ (fun hHeld2 => ?_)
            clear hK K
            try simp only [Act.put, List.setIfInBounds_toArray, List.set_cons_zero, List.set_cons_succ]
            refine wpAnyH_take (i := 9) (v := ?_) rfl (by kernel_rfl) (by kernel_rfl) (by kernel_rfl) (fun _ _ _ h => h) (Or.inl ⟨by kernel_rfl, ?_⟩) hHeld2 ?_
            rotate_left
            · intro w' hSw
              obtain ⟨z0, z1⟩ := hSw
              go_simp
              try with_reducible rfl
            try simp only [Act.put]
            refine wpAnyH_take (i := 10) (v := ?_) rfl (by kernel_rfl) (by kernel_rfl) (by kernel_rfl) (fun _ _ _ h => h) (Or.inl ⟨by kernel_rfl, ?_⟩) hHeld2 ?_
            rotate_left
            · intro w' hSw
              obtain ⟨z0, z1⟩ := hSw
              go_simp
              try with_reducible rfl
            try simp only [Act.put]
            refine wpAnyH_take (i := 11) (v := ?_) rfl (by kernel_rfl) (by kernel_rfl) (by kernel_rfl) (fun _ _ _ h => h) (Or.inl ⟨by kernel_rfl, ?_⟩) hHeld2 ?_
            rotate_left
            · intro w' hSw
              obtain ⟨z0, z1⟩ := hSw
              go_simp
              try with_reducible rfl
            try simp only [Act.put]
            refine wpAnyH_take (i := 12) rfl (by kernel_rfl) (by kernel_rfl) (by kernel_rfl) (fun _ _ _ h => h) (Or.inr ⟨by kernel_rfl, rfl⟩) hHeld2 ?_
            try simp only [Act.put]
            refine wpAnyH_take (i := 13) rfl (by kernel_rfl) (by kernel_rfl) (by kernel_rfl) (fun _ _ _ h => h) (Or.inr ⟨by kernel_rfl, rfl⟩) hHeld2 ?_
            try simp only [Act.put]
            refine wpAnyH_take (i := 14) rfl (by kernel_rfl) (by kernel_rfl) (by kernel_rfl) (fun _ _ _ h => h) (Or.inr ⟨by kernel_rfl, rfl⟩) hHeld2 ?_
            try simp only [Act.put]
            refine wpAnyH_take (i := 15) rfl (by kernel_rfl) (by kernel_rfl) (by kernel_rfl) (fun _ _ _ h => h) (Or.inr ⟨by kernel_rfl, rfl⟩) hHeld2 ?_
            try simp only [Act.put]
            refine wpAnyH_take (i := 16) rfl (by kernel_rfl) (by kernel_rfl) (by kernel_rfl) (fun _ _ _ h => h) (Or.inr ⟨by kernel_rfl, rfl⟩) hHeld2 ?_
            try simp only [Act.put]
            refine wpAnyH_take (i := 17) rfl (by kernel_rfl) (by kernel_rfl) (by kernel_rfl) (fun _ _ _ h => h) (Or.inr ⟨by kernel_rfl, rfl⟩) hHeld2 ?_
            try simp only [Act.put]
            refine wpAnyH_take (i := 18) rfl (by kernel_rfl) (by kernel_rfl) (by kernel_rfl) (fun _ _ _ h => h) (Or.inr ⟨by kernel_rfl, rfl⟩) hHeld2 ?_
            try simp only [Act.put]
            refine wpAnyH_take (i := 19) rfl (by kernel_rfl) (by kernel_rfl) (by kernel_rfl) (fun _ _ _ h => h) (Or.inr ⟨by kernel_rfl, rfl⟩) hHeld2 ?_
            try simp only [Act.put]
            refine wpAnyH_take (i := 20) rfl (by kernel_rfl) (by kernel_rfl) (by kernel_rfl) (fun _ _ _ h => h) (Or.inr ⟨by kernel_rfl, rfl⟩) hHeld2 ?_
            try simp only [Act.put]
            refine wpAnyH_take (i := 21) rfl (by kernel_rfl) (by kernel_rfl) (by kernel_rfl) (fun _ _ _ h => h) (Or.inr ⟨by kernel_rfl, rfl⟩) hHeld2 ?_
            try simp only [Act.put]
            refine wpAnyH_take (i := 22) (v := ?_) rfl (by kernel_rfl) (by kernel_rfl) (by kernel_rfl) (fun _ _ _ h => h) (Or.inl ⟨by kernel_rfl, ?_⟩) hHeld2 ?_
            rotate_left
            · intro w' hSw
              obtain ⟨z0, z1⟩ := hSw
              go_simp
              try with_reducible rfl
            try simp only [Act.put]
            refine wpAnyH_take (i := 23) (v := ?_) rfl (by kernel_rfl) (by kernel_rfl) (by kernel_rfl) (fun _ _ _ h => h) (Or.inl ⟨by kernel_rfl, ?_⟩) hHeld2 ?_
            rotate_left
            · intro w' hSw
              obtain ⟨z0, z1⟩ := hSw
              go_simp
              try with_reducible rfl
            try simp only [Act.put]
            refine wpAnyH_take (i := 24) (v := ?_) rfl (by kernel_rfl) (by kernel_rfl) (by kernel_rfl) (fun _ _ _ h => h) (Or.inl ⟨by kernel_rfl, ?_⟩) hHeld2 ?_
            rotate_left
            · intro w' hSw
              obtain ⟨z0, z1⟩ := hSw
              go_simp
              try with_reducible rfl
            try simp only [Act.put]
            refine wpAnyH_done (by kernel_rfl) ?_ _
            refine NoPanic.normal ?_
            simp only [List.getElem_toArray, List.getElem_cons_succ, List.getElem_cons_zero, List.setIfInBounds_toArray, List.set_cons_succ, List.set_cons_zero]
            go_wp2
            go_ret
            exact ⟨rfl, g14⟩
          · have d1 : decide ((0 : Int) ≤ i) = true := by simp; omega
            have d2 : decide (i ≤ j) = true := by simp; omega
            have d3 : decide (j ≤ (a.size : Int)) = false := by simp; omega
            clear m1 m2 m3
            go_wp2_with fail
            generalize w12.alloc (.cells #[.string (mkS []), .int .i64 0] 24) = w13 at bc g13 ⊢
            generalize w12.heap.size = B at bc ⊢
            have t0 := bc.c0
            have t1 : World.cell? _ _ = some (.int .i64 0) := bc.c1
            refine wp_region_noPanic ?_
            refine wp_region_held_drew (S := (fun w' => w'.cell? ⟨B, 0, none⟩ = some (.string (mkS [])) ∧ w'.cell? ⟨B, 1, none⟩ = some (.int .i64 0))) (by kernel_rfl) ⟨t0, t1⟩ (fun hHeld => ?_)
            refine wpAnyH_take (i := 0) (v := ?_) rfl (by kernel_rfl) (by kernel_rfl) (by kernel_rfl) (fun _ _ _ h => h) (Or.inl ⟨by kernel_rfl, ?_⟩) hHeld ?_
            rotate_left
            · intro w' hSw
              obtain ⟨z0, z1⟩ := hSw
              go_simp
              try with_reducible rfl
            try simp only [Act.put]
            refine wpAnyH_take (i := 1) (v := ?_) rfl (by kernel_rfl) (by kernel_rfl) (by kernel_rfl) (fun _ _ _ h => h) (Or.inl ⟨by kernel_rfl, ?_⟩) hHeld ?_
            rotate_left
            · intro w' hSw
              obtain ⟨z0, z1⟩ := hSw
              go_simp
              try with_reducible rfl
            try simp only [Act.put]
            refine wpAnyH_take (i := 2) (v := ?_) rfl (by kernel_rfl) (by kernel_rfl) (by kernel_rfl) (fun _ _ _ h => h) (Or.inl ⟨by kernel_rfl, ?_⟩) hHeld ?_
            rotate_left
            · intro w' hSw
              obtain ⟨z0, z1⟩ := hSw
              go_simp
              try with_reducible rfl
            try simp only [Act.put]
            refine wpAnyH_take (i := 3) (v := ?_) rfl (by kernel_rfl) (by kernel_rfl) (by kernel_rfl) (fun _ _ _ h => h) (Or.inl ⟨by kernel_rfl, ?_⟩) hHeld ?_
            rotate_left
            · intro w' hSw
              obtain ⟨z0, z1⟩ := hSw
              go_simp
              try with_reducible rfl
            try simp only [Act.put]
            refine wpAnyH_take (i := 4) (v := ?_) rfl (by kernel_rfl) (by kernel_rfl) (by kernel_rfl) (fun _ _ _ h => h) (Or.inl ⟨by kernel_rfl, ?_⟩) hHeld ?_
            rotate_left
            · intro w' hSw
              obtain ⟨z0, z1⟩ := hSw
              go_simp
              try with_reducible rfl
            try simp only [Act.put]
            refine wpAnyH_take (i := 5) (v := ?_) rfl (by kernel_rfl) (by kernel_rfl) (by kernel_rfl) (fun _ _ _ h => h) (Or.inl ⟨by kernel_rfl, ?_⟩) hHeld ?_
            rotate_left
            · intro w' hSw
              obtain ⟨z0, z1⟩ := hSw
              go_simp
              try with_reducible rfl
            try simp only [Act.put]
            refine wpAnyH_take (i := 6) (v := ?_) rfl (by kernel_rfl) (by kernel_rfl) (by kernel_rfl) (fun _ _ _ h => h) (Or.inl ⟨by kernel_rfl, ?_⟩) hHeld ?_
            rotate_left
            · intro w' hSw
              obtain ⟨z0, z1⟩ := hSw
              go_simp
              try with_reducible rfl
            try simp only [Act.put]
            refine wpAnyH_take (i := 7) (v := ?_) rfl (by kernel_rfl) (by kernel_rfl) (by kernel_rfl) (fun _ _ _ h => h) (Or.inl ⟨by kernel_rfl, ?_⟩) hHeld ?_
            rotate_left
            · intro w' hSw
              obtain ⟨z0, z1⟩ := hSw
              go_simp
              try with_reducible rfl
            try simp only [Act.put]
            refine wpAnyH_ready (rs := [8]) (by kernel_rfl) (by simp) ?_
            refine AllReadyH.cons rfl (fun K hK => ?_) AllReadyH.nil
            go_simp
            refine (len_any _ (mkS []) 0).mono ?_
            rintro e w14 ⟨rfl, f14⟩
            have g14 := g13.drew.trans f14
            have bd := bc.kept ((Fr.refl [] w13).drew.trans f14) (by simp)
            have t2 := bd.c0
            have t3 : World.cell? _ _ = some (.int .i64 0) := bd.c1
            refine hK.out _ _ ⟨t2, t3⟩ (fun hHeld2 => ?_)
            clear hK K
            try simp only [Act.put, List.setIfInBounds_toArray, List.set_cons_zero, List.set_cons_succ]
            refine wpAnyH_take (i := 9) (v := ?_) rfl (by kernel_rfl) (by kernel_rfl) (by kernel_rfl) (fun _ _ _ h => h) (Or.inl ⟨by kernel_rfl, ?_⟩) hHeld2 ?_
            rotate_left
            · intro w' hSw
              obtain ⟨z0, z1⟩ := hSw
              go_simp
              try with_reducible rfl
            try simp only [Act.put]
            refine wpAnyH_take (i := 10) (v := ?_) rfl (by kernel_rfl) (by kernel_rfl) (by kernel_rfl) (fun _ _ _ h => h) (Or.inl ⟨by kernel_rfl, ?_⟩) hHeld2 ?_
            rotate_left
            · intro w' hSw
              obtain ⟨z0, z1⟩ := hSw
              go_simp
              try with_reducible rfl
            try simp only [Act.put]
            refine wpAnyH_take (i := 11) (v := ?_) rfl (by kernel_rfl) (by kernel_rfl) (by kernel_rfl) (fun _ _ _ h => h) (Or.inl ⟨by kernel_rfl, ?_⟩) hHeld2 ?_
            rotate_left
            · intro w' hSw
              obtain ⟨z0, z1⟩ := hSw
              go_simp
              try with_reducible rfl
            try simp only [Act.put]
            refine wpAnyH_take (i := 12) rfl (by kernel_rfl) (by kernel_rfl) (by kernel_rfl) (fun _ _ _ h => h) (Or.inr ⟨by kernel_rfl, rfl⟩) hHeld2 ?_
            try simp only [Act.put]
            refine wpAnyH_take (i := 13) rfl (by kernel_rfl) (by kernel_rfl) (by kernel_rfl) (fun _ _ _ h => h) (Or.inr ⟨by kernel_rfl, rfl⟩) hHeld2 ?_
            try simp only [Act.put]
            refine wpAnyH_take (i := 14) rfl (by kernel_rfl) (by kernel_rfl) (by kernel_rfl) (fun _ _ _ h => h) (Or.inr ⟨by kernel_rfl, rfl⟩) hHeld2 ?_
            try simp only [Act.put]
            refine wpAnyH_take (i := 15) rfl (by kernel_rfl) (by kernel_rfl) (by kernel_rfl) (fun _ _ _ h => h) (Or.inr ⟨by kernel_rfl, rfl⟩) hHeld2 ?_
            try simp only [Act.put]
            refine wpAnyH_take (i := 16) rfl (by kernel_rfl) (by kernel_rfl) (by kernel_rfl) (fun _ _ _ h => h) (Or.inr ⟨by kernel_rfl, rfl⟩) hHeld2 ?_
            try simp only [Act.put]
            refine wpAnyH_take (i := 17) rfl (by kernel_rfl) (by kernel_rfl) (by kernel_rfl) (fun _ _ _ h => h) (Or.inr ⟨by kernel_rfl, rfl⟩) hHeld2 ?_
            try simp only [Act.put]
            refine wpAnyH_take (i := 18) rfl (by kernel_rfl) (by kernel_rfl) (by kernel_rfl) (fun _ _ _ h => h) (Or.inr ⟨by kernel_rfl, rfl⟩) hHeld2 ?_
            try simp only [Act.put]
            refine wpAnyH_take (i := 19) rfl (by kernel_rfl) (by kernel_rfl) (by kernel_rfl) (fun _ _ _ h => h) (Or.inr ⟨by kernel_rfl, rfl⟩) hHeld2 ?_
            try simp only [Act.put]
            refine wpAnyH_take (i := 20) rfl (by kernel_rfl) (by kernel_rfl) (by kernel_rfl) (fun _ _ _ h => h) (Or.inr ⟨by kernel_rfl, rfl⟩) hHeld2 ?_
            try simp only [Act.put]
            refine wpAnyH_take (i := 21) rfl (by kernel_rfl) (by kernel_rfl) (by kernel_rfl) (fun _ _ _ h => h) (Or.inr ⟨by kernel_rfl, rfl⟩) hHeld2 ?_
            try simp only [Act.put]
            refine wpAnyH_take (i := 22) (v := ?_) rfl (by kernel_rfl) (by kernel_rfl) (by kernel_rfl) (fun _ _ _ h => h) (Or.inl ⟨by kernel_rfl, ?_⟩) hHeld2 ?_
            rotate_left
            · intro w' hSw
              obtain ⟨z0, z1⟩ := hSw
              go_simp
              try with_reducible rfl
            try simp only [Act.put]
            refine wpAnyH_take (i := 23) (v := ?_) rfl (by kernel_rfl) (by kernel_rfl) (by kernel_rfl) (fun _ _ _ h => h) (Or.inl ⟨by kernel_rfl, ?_⟩) hHeld2 ?_
            rotate_left
            · intro w' hSw
              obtain ⟨z0, z1⟩ := hSw
              go_simp
              try with_reducible rfl
            try simp only [Act.put]
            refine wpAnyH_take (i := 24) (v := ?_) rfl (by kernel_rfl) (by kernel_rfl) (by kernel_rfl) (fun _ _ _ h => h) (Or.inl ⟨by kernel_rfl, ?_⟩) hHeld2 ?_
            rotate_left
            · intro w' hSw
              obtain ⟨z0, z1⟩ := hSw
              go_simp
              try with_reducible rfl
            try simp only [Act.put]
            refine wpAnyH_done (by kernel_rfl) ?_ _
            refine NoPanic.normal ?_
            simp only [List.getElem_toArray, List.getElem_cons_succ, List.getElem_cons_zero, List.setIfInBounds_toArray, List.set_cons_succ, List.set_cons_zero]
            go_wp2
            go_ret
            exact ⟨rfl, g14⟩
      · go_wp2_with fail
        go_ret
        exact ⟨rfl, g3.alloc _⟩
    · exact absurd hall hno
  · have b1 : Box (w1.alloc (.cells #[.string (mkS []), .int .i64 0] 24)) w1.heap.size (mkS []) 0 := Box.new w1 (mkS []) 0
    have g1a := g1.alloc (.cells #[.string (mkS []), .int .i64 0] 24)
    go_wp2_with fail
    refine (rright_any _ a k1).mono ?_
    rintro e w2 ⟨hd, f2⟩
    rcases hd with ⟨_, hyes⟩ | ⟨rfl, _⟩
    · exact absurd hyes hno
    · have g2 := g1a.trans f2
      have b2 := b1.kept f2 (by simp)
      have p0 := b2.c0
      have p1 : World.cell? _ _ = some (.int .i64 0) := b2.c1
      go_wp2_with fail
      refine (len_any _ (mkS []) 0).mono ?_
      rintro e w3 ⟨rfl, f3⟩
      have b3 := b2.kept f3 (by simp)
      have p2 := b3.c0
      have p3 : World.cell? _ _ = some (.int .i64 0) := b3.c1
      clear p0 p1
      go_wp2_with fail
      refine (text_any _ (mkS []) 0 [] Rep.empty).mono ?_
      rintro e w4 ⟨rfl, f4⟩
      have e1 : (mkS (txt [])).toList = [] := by rw [toList_bl]; rfl
      go_wp2_with fail
      go_ret
      exact ⟨by simp, (g2.trans f3).trans f4⟩

theorem say_law (w : World) (a : ByteArray) (ha : a.size < 140737488355328) (b : ByteArray) (hb : b.size < 140737488355328) (i : Int) (_hi : (Lit.int .i64 i).wf = true) (j : Int) (_hj : (Lit.int .i64 j).wf = true) :
    Calls Try.prog 3 #[.string a, .string b, .int .i64 i, .int .i64 j] w fun e w' => e = .returned (.bool true) ∧ Fr [] w w' := by
  by_cases h : 5000 < a.size + b.size
  · exact say_big w a b i j ha hb h
  · exact say_small w a b i j (by omega)

end Go.Proofs.Ytdkleigkkndecaa
