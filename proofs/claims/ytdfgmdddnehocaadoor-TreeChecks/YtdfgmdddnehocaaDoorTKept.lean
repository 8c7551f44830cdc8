/-
  KeptNodes.
-/
import Derived.Test.YtdfgmdddnehocaaDoorTLent
set_option linter.unusedSimpArgs false
namespace Go.Proofs.YtdfgmdddnehocaaDoor
open Go.RowKit Go.Maps Go.Lib

abbrev SX (w : World) (g i : Nat) (M : Int) : Prop := w.cell? ⟨g, i * 4, none⟩ = some (.int .u8 0) ∧ w.cell? ⟨g, i * 4 + 1, none⟩ = some (.string ⟨#[]⟩) ∧ w.cell? ⟨g, i * 4 + 2, none⟩ = some (.string ⟨#[]⟩) ∧ w.cell? ⟨g, i * 4 + 3, none⟩ = some (.int .i64 M)
theorem LentN.lt {w : World} {g cap : Nat} {t : List Nd} (h : LentN w g cap t) : g < w.heap.size := by
  obtain ⟨cur, hg, _⟩ := h.ex
  exact (Array.getElem?_eq_some_iff.1 hg).1
theorem marks_at (m : Nat) (h : m < 12) : nth (marksL 12) m = markNd 1 (m : Int) := by
  rw [nth_lt (by rw [marks_len]; exact h)]
  simp [marksL]
theorem LentN.mark {w : World} {g cap : Nat} {t : List Nd} (h : LentN w g cap t) (m : Nat) (hm : m < 12) : SX w g (t.length + m) (1000003 * (1 + 7) + (m : Int)) := by
  have := h.all (t.length + m) (by rw [List.length_append, marks_len]; omega)
  unfold knd nam vlu par at this
  rw [nth_app_right (by rw [marks_len]; exact hm), marks_at m hm] at this
  rw [Nat.zero_add] at this
  exact this
set_option maxHeartbeats 8000000 in
set_option maxRecDepth 100000 in
theorem keptN_any (w : World) (g cap n c : Nat) (ad : Option Addr) (t : List Nd) (hn : t.length = n) (hl : n ≤ 300) (hLe : LentN w g cap t) (hA : NodesAt w ad t) :
    Calls Tryd.prog 14 #[.slice (some ⟨g, 0, none⟩) n cap, .slice ad n c] w fun e w' => e = .returned (.bool true) ∧ Fr [] w w' := by
  have HLe := Hid.mk hLe
  have HA := Hid.mk hA
  have HN := Hid.mk hn
  have hcp := hLe.cap
  rw [hn] at hcp
  have h1 : (n : Int) + 12 ≤ (cap : Int) := by omega
  clear hLe hA hn
  go_enter Tryd.func14, Tryd.ntmps14
  go_wp2
  go_loopw [6] (fun s5 wr => ∃ i : Nat, s5 = .int .i64 (i : Int) ∧ i ≤ n + 12 ∧ Hid (Fr [] w wr)) (fun s5 _ => n + 12 - (RowKit.intOf s5).toNat)
  case atStart => exact ⟨0, rfl, by omega, Fr.refl _ _⟩
  case round =>
    obtain ⟨i, rfl, hi, frh⟩ := hrel
    have hi0 : (0 : Int) ≤ (i : Int) := by omega
    have frw := frh.out
    by_cases hlt : i < n + 12
    · have hlt' : (i : Int) < ((n + 12 : Nat) : Int) := by omega
      by_cases hin : i < n
      · have hin' : (i : Int) < (n : Int) := by omega
        have hin2 : ¬ (n : Int) ≤ (i : Int) := by omega
        obtain ⟨b, off, rfl, c0, c1, c2, c3⟩ := (HA.out.kept frw) i (by rw [HN.out]; exact hin)
        obtain ⟨d0, d1, d2, d3⟩ := ((HLe.out.kept frw).nodes) i (by rw [HN.out]; exact hin)
        rw [Nat.zero_add] at d0 d1 d2 d3
        generalize knd t i = K at c0 d0
        generalize nam t i = NM at c1 d1
        generalize vlu t i = VL at c2 d2
        generalize par t i = p at c3 d3
        clear frw
        have hdl : decide ((i : Int) < (n : Int)) = true := by simpa using hin
        have hdg : decide (n ≤ i) = false := by simp; omega
        have hdn : decide (i < n) = true := by simpa using hin
        go_wp2_with fail
        go_quiet (fail)
        go_wp2_with fail
        exact ⟨⟨i + 1, by go_num, by omega, frh.out.drewN _⟩, by simp [RowKit.intOf]; omega⟩
      · have hdl : decide ((i : Int) < (n : Int)) = false := by simp; omega
        have hge : (n : Int) ≤ (i : Int) := by omega
        have hdg : decide (n ≤ i) = true := by simp; omega
        have hdn : decide (i < n) = false := by simp; omega
        obtain ⟨m, rfl⟩ : ∃ m : Nat, i = n + m := ⟨i - n, by omega⟩
        have hmn : ((n + m : Nat) : Int) - (n : Int) = (m : Int) := by omega
        have hlr := HLe.out.kept frw
        have hlt5 := hlr.lt
        obtain ⟨d0, d1, d2, d3⟩ := hlr.mark m (by omega)
        rw [HN.out] at d0 d1 d2 d3
        obtain ⟨M, HM⟩ : ∃ M, Hid (1000003 * (1 + 7) + (m : Int) = M) := ⟨_, rfl⟩
        rw [HM.out] at d3
        have cM := Hid.mk (fun w' => markNode_any w' 1 (m : Int) (by omega) (by omega) (by omega) (by omega))
        rw [HM.out] at cM
        have cM' : Hid (∀ w', Calls Tryd.prog 26 #[.int .i64 1, .int .i64 (m : Int)] w' fun e w'' => e = .returned (.agg #[.int .u8 0, .string ⟨#[]⟩, .string ⟨#[]⟩, .int .i64 M]) ∧ Fr [] w' w'') := cM.out
        obtain ⟨i, hi⟩ : ∃ i, n + m = i := ⟨_, rfl⟩
        rw [hi] at d0 d1 d2 d3 hdl hge hdg hdn hmn hlt hlt' hi0 hin
        rw [hi]
        have hS : Hid (∀ w' : World, w'.heap[g]? = wr.heap[g]? → SX w' g i M) :=
          fun w' e => ⟨(World.cell?_of_block e).trans d0, (World.cell?_of_block e).trans d1, (World.cell?_of_block e).trans d2, (World.cell?_of_block e).trans d3⟩
        clear hlr d0 d1 d2 d3
        go_wp2_with fail
        refine wp_region_noPanic ?_
        refine wp_region_held_drew (S := (fun w' => SX w' g i M)) (by kernel_rfl) (hS.out _ rfl) (fun hHeld => ?_)
        refine wpAnyH_take (i := 0) (v := ?_) rfl (by kernel_rfl) (by kernel_rfl) (by kernel_rfl) (fun _ _ _ h => h) (Or.inl ⟨by kernel_rfl, ?_⟩) hHeld ?_
        rotate_left
        · intro w' hSw
          obtain ⟨z0, z1, z2, z3⟩ := hSw
          go_simp
          try with_reducible rfl
        try simp only [Act.put, List.setIfInBounds_toArray]
        refine wpAnyH_take (i := 1) (v := ?_) rfl (by kernel_rfl) (by kernel_rfl) (by kernel_rfl) (fun _ _ _ h => h) (Or.inl ⟨by kernel_rfl, ?_⟩) hHeld ?_
        rotate_left
        · intro w' hSw
          obtain ⟨z0, z1, z2, z3⟩ := hSw
          go_simp
          try with_reducible rfl
        try simp only [Act.put, List.setIfInBounds_toArray]
        refine wpAnyH_take (i := 2) (v := ?_) rfl (by kernel_rfl) (by kernel_rfl) (by kernel_rfl) (fun _ _ _ h => h) (Or.inl ⟨by kernel_rfl, ?_⟩) hHeld ?_
        rotate_left
        · intro w' hSw
          obtain ⟨z0, z1, z2, z3⟩ := hSw
          go_simp
          try with_reducible rfl
        try simp only [Act.put, List.setIfInBounds_toArray]
        refine wpAnyH_take (i := 3) (v := ?_) rfl (by kernel_rfl) (by kernel_rfl) (by kernel_rfl) (fun _ _ _ h => h) (Or.inl ⟨by kernel_rfl, ?_⟩) hHeld ?_
        rotate_left
        · intro w' hSw
          obtain ⟨z0, z1, z2, z3⟩ := hSw
          go_simp
          try with_reducible rfl
        try simp only [Act.put, List.setIfInBounds_toArray]
        refine wpAnyH_take (i := 4) (v := ?_) rfl (by kernel_rfl) (by kernel_rfl) (by kernel_rfl) (fun _ _ _ h => h) (Or.inl ⟨by kernel_rfl, ?_⟩) hHeld ?_
        rotate_left
        · intro w' hSw
          obtain ⟨z0, z1, z2, z3⟩ := hSw
          go_simp
          try with_reducible rfl
        try simp only [Act.put, List.setIfInBounds_toArray]
        refine wpAnyH_take (i := 5) rfl (by kernel_rfl) (by kernel_rfl) (by kernel_rfl) (fun _ _ _ h => h) (Or.inr ⟨by kernel_rfl, rfl⟩) hHeld ?_
        try simp only [Act.put]
        refine wpAnyH_take (i := 6) rfl (by kernel_rfl) (by kernel_rfl) (by kernel_rfl) (fun _ _ _ h => h) (Or.inr ⟨by kernel_rfl, rfl⟩) hHeld ?_
        try simp only [Act.put]
        refine wpAnyH_take (i := 7) rfl (by kernel_rfl) (by kernel_rfl) (by kernel_rfl) (fun _ _ _ h => h) (Or.inr ⟨by kernel_rfl, rfl⟩) hHeld ?_
        try simp only [Act.put]
        refine wpAnyH_take (i := 8) rfl (by kernel_rfl) (by kernel_rfl) (by kernel_rfl) (fun _ _ _ h => h) (Or.inr ⟨by kernel_rfl, rfl⟩) hHeld ?_
        try simp only [Act.put]
        refine wpAnyH_take (i := 9) rfl (by kernel_rfl) (by kernel_rfl) (by kernel_rfl) (fun _ _ _ h => h) (Or.inr ⟨by kernel_rfl, rfl⟩) hHeld ?_
        try simp only [Act.put]
        refine wpAnyH_take (i := 10) rfl (by kernel_rfl) (by kernel_rfl) (by kernel_rfl) (fun _ _ _ h => h) (Or.inr ⟨by kernel_rfl, rfl⟩) hHeld ?_
        try simp only [Act.put]
        refine wpAnyH_take (i := 11) rfl (by kernel_rfl) (by kernel_rfl) (by kernel_rfl) (fun _ _ _ h => h) (Or.inr ⟨by kernel_rfl, rfl⟩) hHeld ?_
        try simp only [Act.put]
        refine wpAnyH_take (i := 12) rfl (by kernel_rfl) (by kernel_rfl) (by kernel_rfl) (fun _ _ _ h => h) (Or.inr ⟨by kernel_rfl, rfl⟩) hHeld ?_
        try simp only [Act.put]
        refine wpAnyH_take (i := 13) rfl (by kernel_rfl) (by kernel_rfl) (by kernel_rfl) (fun _ _ _ h => h) (Or.inr ⟨by kernel_rfl, rfl⟩) hHeld ?_
        try simp only [Act.put]
        refine wpAnyH_take (i := 14) rfl (by kernel_rfl) (by kernel_rfl) (by kernel_rfl) (fun _ _ _ h => h) (Or.inr ⟨by kernel_rfl, rfl⟩) hHeld ?_
        try simp only [Act.put]
        refine wpAnyH_take (i := 15) (v := ?_) rfl (by kernel_rfl) (by kernel_rfl) (by kernel_rfl) (fun _ _ _ h => h) (Or.inl ⟨by kernel_rfl, ?_⟩) hHeld ?_
        rotate_left
        · intro w' hSw
          obtain ⟨z0, z1, z2, z3⟩ := hSw
          go_simp
          try with_reducible rfl
        try simp only [Act.put, List.setIfInBounds_toArray]
        refine wpAnyH_take (i := 16) (v := ?_) rfl (by kernel_rfl) (by kernel_rfl) (by kernel_rfl) (fun _ _ _ h => h) (Or.inl ⟨by kernel_rfl, ?_⟩) hHeld ?_
        rotate_left
        · intro w' hSw
          obtain ⟨z0, z1, z2, z3⟩ := hSw
          go_simp
          try with_reducible rfl
        try simp only [Act.put, List.setIfInBounds_toArray]
        refine wpAnyH_take (i := 17) (v := ?_) rfl (by kernel_rfl) (by kernel_rfl) (by kernel_rfl) (fun _ _ _ h => h) (Or.inl ⟨by kernel_rfl, ?_⟩) hHeld ?_
        rotate_left
        · intro w' hSw
          obtain ⟨z0, z1, z2, z3⟩ := hSw
          go_simp
          try with_reducible rfl
        try simp only [Act.put, List.setIfInBounds_toArray]
        refine wpAnyH_take (i := 18) (v := ?_) rfl (by kernel_rfl) (by kernel_rfl) (by kernel_rfl) (fun _ _ _ h => h) (Or.inl ⟨by kernel_rfl, ?_⟩) hHeld ?_
        rotate_left
        · intro w' hSw
          obtain ⟨z0, z1, z2, z3⟩ := hSw
          go_simp
          try with_reducible rfl
        try simp only [Act.put, List.setIfInBounds_toArray]
        refine wpAnyH_take (i := 19) (v := ?_) rfl (by kernel_rfl) (by kernel_rfl) (by kernel_rfl) (fun _ _ _ h => h) (Or.inl ⟨by kernel_rfl, ?_⟩) hHeld ?_
        rotate_left
        · intro w' hSw
          obtain ⟨z0, z1, z2, z3⟩ := hSw
          go_simp
          try with_reducible rfl
        try simp only [Act.put, List.setIfInBounds_toArray]
        refine wpAnyH_take (i := 20) (v := ?_) rfl (by kernel_rfl) (by kernel_rfl) (by kernel_rfl) (fun _ _ _ h => h) (Or.inl ⟨by kernel_rfl, ?_⟩) hHeld ?_
        rotate_left
        · intro w' hSw
          obtain ⟨z0, z1, z2, z3⟩ := hSw
          go_simp
          try with_reducible rfl
        try simp only [Act.put, List.setIfInBounds_toArray]
        refine wpAnyH_take (i := 21) (v := ?_) rfl (by kernel_rfl) (by kernel_rfl) (by kernel_rfl) (fun _ _ _ h => h) (Or.inl ⟨by kernel_rfl, ?_⟩) hHeld ?_
        rotate_left
        · intro w' hSw
          obtain ⟨z0, z1, z2, z3⟩ := hSw
          go_simp
          try with_reducible rfl
        try simp only [Act.put, List.setIfInBounds_toArray]
        refine wpAnyH_take (i := 22) (v := ?_) rfl (by kernel_rfl) (by kernel_rfl) (by kernel_rfl) (fun _ _ _ h => h) (Or.inl ⟨by kernel_rfl, ?_⟩) hHeld ?_
        rotate_left
        · intro w' hSw
          obtain ⟨z0, z1, z2, z3⟩ := hSw
          go_simp
          try with_reducible rfl
        try simp only [Act.put, List.setIfInBounds_toArray]
        refine wpAnyH_take (i := 23) (v := ?_) rfl (by kernel_rfl) (by kernel_rfl) (by kernel_rfl) (fun _ _ _ h => h) (Or.inl ⟨by kernel_rfl, ?_⟩) hHeld ?_
        rotate_left
        · intro w' hSw
          obtain ⟨z0, z1, z2, z3⟩ := hSw
          go_simp
          try with_reducible rfl
        try simp only [Act.put, List.setIfInBounds_toArray]
        refine wpAnyH_take (i := 24) (v := ?_) rfl (by kernel_rfl) (by kernel_rfl) (by kernel_rfl) (fun _ _ _ h => h) (Or.inl ⟨by kernel_rfl, ?_⟩) hHeld ?_
        rotate_left
        · intro w' hSw
          obtain ⟨z0, z1, z2, z3⟩ := hSw
          go_simp
          try with_reducible rfl
        try simp only [Act.put, List.setIfInBounds_toArray]
        refine wpAnyH_take (i := 25) (v := ?_) rfl (by kernel_rfl) (by kernel_rfl) (by kernel_rfl) (fun _ _ _ h => h) (Or.inl ⟨by kernel_rfl, ?_⟩) hHeld ?_
        rotate_left
        · intro w' hSw
          obtain ⟨z0, z1, z2, z3⟩ := hSw
          go_simp
          try with_reducible rfl
        try simp only [Act.put, List.setIfInBounds_toArray]
        refine wpAnyH_take (i := 26) (v := ?_) rfl (by kernel_rfl) (by kernel_rfl) (by kernel_rfl) (fun _ _ _ h => h) (Or.inl ⟨by kernel_rfl, ?_⟩) hHeld ?_
        rotate_left
        · intro w' hSw
          obtain ⟨z0, z1, z2, z3⟩ := hSw
          go_simp
          try with_reducible rfl
        try simp only [Act.put, List.setIfInBounds_toArray]
        refine wpAnyH_take (i := 27) (v := ?_) rfl (by kernel_rfl) (by kernel_rfl) (by kernel_rfl) (fun _ _ _ h => h) (Or.inl ⟨by kernel_rfl, ?_⟩) hHeld ?_
        rotate_left
        · intro w' hSw
          obtain ⟨z0, z1, z2, z3⟩ := hSw
          go_simp
          try with_reducible rfl
        try simp only [Act.put, List.setIfInBounds_toArray]
        refine wpAnyH_take (i := 28) (v := ?_) rfl (by kernel_rfl) (by kernel_rfl) (by kernel_rfl) (fun _ _ _ h => h) (Or.inl ⟨by kernel_rfl, ?_⟩) hHeld ?_
        rotate_left
        · intro w' hSw
          obtain ⟨z0, z1, z2, z3⟩ := hSw
          go_simp
          try with_reducible rfl
        try simp only [Act.put, List.setIfInBounds_toArray]
        refine wpAnyH_take (i := 29) (v := ?_) rfl (by kernel_rfl) (by kernel_rfl) (by kernel_rfl) (fun _ _ _ h => h) (Or.inl ⟨by kernel_rfl, ?_⟩) hHeld ?_
        rotate_left
        · intro w' hSw
          obtain ⟨z0, z1, z2, z3⟩ := hSw
          go_simp
          try with_reducible rfl
        try simp only [Act.put, List.setIfInBounds_toArray]
        refine wpAnyH_ready (rs := [30]) (by kernel_rfl) (by simp) ?_
        refine AllReadyH.cons rfl (fun K hK => ?_) AllReadyH.nil
        rw [if_pos (by kernel_rfl)]
        go_wp2_with (go_at_call 26; refine (cM'.out _).mono ?_; rintro e w5 ⟨rfl, f5⟩)
        refine hK.out _ _ (hS.out w5 (f5.block g hlt5 (by simp))) (fun hHeld => ?_)
        clear hK K
        try simp only [Act.put, List.setIfInBounds_toArray, List.set_cons_zero, List.set_cons_succ]
        refine wpAnyH_take (i := 31) (v := ?_) rfl (by kernel_rfl) (by kernel_rfl) (by kernel_rfl) (fun _ _ _ h => h) (Or.inl ⟨by kernel_rfl, ?_⟩) hHeld ?_
        rotate_left
        · intro w' hSw
          obtain ⟨z0, z1, z2, z3⟩ := hSw
          go_simp
          try with_reducible rfl
        try simp only [Act.put, List.setIfInBounds_toArray]
        refine wpAnyH_take (i := 32) (v := ?_) rfl (by kernel_rfl) (by kernel_rfl) (by kernel_rfl) (fun _ _ _ h => h) (Or.inl ⟨by kernel_rfl, ?_⟩) hHeld ?_
        rotate_left
        · intro w' hSw
          obtain ⟨z0, z1, z2, z3⟩ := hSw
          go_simp
          try with_reducible rfl
        try simp only [Act.put, List.setIfInBounds_toArray]
        refine wpAnyH_take (i := 33) (v := ?_) rfl (by kernel_rfl) (by kernel_rfl) (by kernel_rfl) (fun _ _ _ h => h) (Or.inl ⟨by kernel_rfl, ?_⟩) hHeld ?_
        rotate_left
        · intro w' hSw
          obtain ⟨z0, z1, z2, z3⟩ := hSw
          go_simp
          try with_reducible rfl
        try simp only [Act.put, List.setIfInBounds_toArray]
        refine wpAnyH_take (i := 34) (v := ?_) rfl (by kernel_rfl) (by kernel_rfl) (by kernel_rfl) (fun _ _ _ h => h) (Or.inl ⟨by kernel_rfl, ?_⟩) hHeld ?_
        rotate_left
        · intro w' hSw
          obtain ⟨z0, z1, z2, z3⟩ := hSw
          go_simp
          try with_reducible rfl
        try simp only [Act.put, List.setIfInBounds_toArray]
        refine wpAnyH_done (by kernel_rfl) ?_ _
        refine NoPanic.normal ?_
        have fr5 : Fr [] w w5 := frh.out.drew.trans f5
        go_wp2_with fail
        exact ⟨⟨i + 1, by go_num, by omega, fr5⟩, by simp [RowKit.intOf]; omega⟩
    · obtain rfl : i = n + 12 := by omega
      go_wp2_with fail
      go_ret
      exact ⟨rfl, frh.out⟩
end Go.Proofs.YtdfgmdddnehocaaDoor
