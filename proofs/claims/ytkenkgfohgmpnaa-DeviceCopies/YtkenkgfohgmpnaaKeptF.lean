/-
  KeptFates.
-/
import Derived.Test.YtkenkgfohgmpnaaFates
namespace Go.Proofs.Ytkenkgfohgmpnaa
open Go.RowKit Go.Maps

theorem lentf_any (w : World) (fa : Option Addr) (n c : Nat) (F : Fs) (hl : F.length = n) (hn : n ≤ 1000) (hF : FatesAt w fa F) (hnil : fa = none → c = 0) :
    Calls Try.prog 40 #[.slice fa n c] w fun e w' => ∃ g cap, e = .returned (.slice (some ⟨g, 0, none⟩) n cap) ∧ LentF w' g cap F ∧ w.heap.size ≤ g ∧ Fr [] w w' := by
  cases fa with
  | none =>
    have e := hF.none_nil
    subst e
    simp at hl
    subst hl
    rw [hnil rfl]
    exact lentf_nil w
  | some a0 => exact lentf_some w a0 n c F hl hn hF

theorem LentF.kept {w w' : World} {g cap : Nat} {F : Fs} {L : List Nat} (h : LentF w g cap F) (k : Fr L w w') (hg : g ∉ L) : LentF w' g cap F := by
  obtain ⟨cur, hc, r⟩ := h.ex
  exact ⟨⟨cur, k.same hg hc, r⟩, h.cap, h.wf⟩
theorem LentF.lt {w : World} {g cap : Nat} {F : Fs} (h : LentF w g cap F) : g < w.heap.size := by
  obtain ⟨cur, hg, _⟩ := h.ex
  exact (Array.getElem?_eq_some_iff.1 hg).1
theorem LentF.cell {w : World} {g cap : Nat} {F : Fs} (h : LentF w g cap F) (j : Nat) (hj : j < (F.length + 12) * 2) : w.cell? ⟨g, j, none⟩ = (fcells (F ++ mkF 12))[j]? := by
  obtain ⟨cur, hc, ht⟩ := h.ex
  rw [cell_of_row w g j _ _ _ hc, ← ht, List.getElem?_take, if_pos hj]
  simp
theorem LentF.at' {w : World} {g cap : Nat} {F : Fs} (h : LentF w g cap F) (i : Nat) (f : Int × Int) (hf : (F ++ mkF 12)[i]? = some f) : w.cell? ⟨g, i * 2, none⟩ = some (.int .i64 f.1) ∧ w.cell? ⟨g, i * 2 + 1, none⟩ = some (.int .u8 f.2) := by
  have hi : i < F.length + 12 := by
    have := (List.getElem?_eq_some_iff.1 hf).1
    simpa [mkF] using this
  obtain ⟨q0, q1⟩ := fcells_at _ i f hf
  rw [h.cell _ (by omega), h.cell _ (by omega)]
  exact ⟨q0, q1⟩
theorem LentF.fates {w : World} {g cap : Nat} {F : Fs} (h : LentF w g cap F) : FatesAt w (some ⟨g, 0, none⟩) F := by
  intro i f hf
  have hi := (List.getElem?_eq_some_iff.1 hf).1
  obtain ⟨c0, c1⟩ := h.at' i f (by rw [List.getElem?_append_left hi]; exact hf)
  refine ⟨g, 0, rfl, by simpa using c0, by simpa using c1, h.wf f ?_⟩
  exact List.mem_of_getElem? hf

set_option maxHeartbeats 2000000 in
set_option maxRecDepth 100000 in
theorem keptf_any (w : World) (g cap n c : Nat) (ad : Option Addr) (F : Fs) (hl : F.length = n) (hn : n ≤ 1000) (hlent : LentF w g cap F) (hsrc : FatesAt w ad F) :
    Calls Try.prog 41 #[.slice (some ⟨g, 0, none⟩) n cap, .slice ad n c] w fun e w' => e = .returned (.bool true) ∧ Fr [] w w' := by
  have hcap := hlent.cap
  rw [hl] at hcap
  have HL : Hid (F.length = n) := hl
  have hn' : (n : Int) ≤ 1000 := by omega
  have hn0 : (0 : Int) ≤ (n : Int) := by omega
  have hc1 : (n : Int) + 12 ≤ (cap : Int) := by omega
  have hcz : ¬ cap = 0 := by omega
  clear hl
  go_enter Try.func41, Try.ntmps41
  go_wp2_with fail
  go_loopw [6] (fun i wr => ∃ j : Nat, j ≤ n + 12 ∧ i = .int .i64 j ∧ Fr [] w wr) (fun i _ => n + 12 - (intOf i).toNat)
  case atStart => exact ⟨0, by omega, rfl, Fr.refl _ _⟩
  case round =>
    obtain ⟨j, hj, rfl, fr⟩ := hrel
    by_cases hlt : j < n + 12
    · have hlt' : (j : Int) < (n : Int) + 12 := by omega
      have hj0 : (0 : Int) ≤ (j : Int) := by omega
      by_cases hlow : j < n
      · have hlow' : (j : Int) < (n : Int) := by omega
        have hdl : decide ((j : Int) < (n : Int)) = true := by simpa using hlow
        have hdg : decide (n ≤ j) = false := by simp; omega
        have hdn : decide (j < n) = true := by simpa using hlow
        have gl : j < F.length := by rw [HL.out]; exact hlow
        obtain ⟨q0, q1⟩ := (hlent.kept fr (by simp)).at' j F[j] (by rw [List.getElem?_append_left gl]; exact List.getElem?_eq_getElem gl)
        obtain ⟨b2, o2, e2, t0, t1, _⟩ := (hsrc.kept fr (by simp)) j F[j] (List.getElem?_eq_getElem gl)
        subst e2
        generalize F[j] = f at q0 q1 t0 t1
        obtain ⟨x, y⟩ := f
        simp only [] at q0 q1 t0 t1
        go_wp2_with fail
        go_quiet (fail)
        go_wp2_with fail
        exact ⟨⟨j + 1, by omega, by go_num, fr.drewN _⟩, by simp [intOf]; omega⟩
      · have hdl : decide ((j : Int) < (n : Int)) = false := by simp; omega
        have hge : (n : Int) ≤ (j : Int) := by omega
        have hdg : decide (n ≤ j) = true := by simp; omega
        have hdn : decide (j < n) = false := by simp; omega
        have hlr := hlent.kept fr (by simp)
        have hlt5 := hlr.lt
        obtain ⟨q0, q1⟩ := hlr.at' j (1000003 * (1 + 7) + ((j : Int) - (n : Int)), 0) (by
          have h12 : j - n < 12 := by omega
          rw [List.getElem?_append_right (by rw [HL.out]; omega), HL.out]
          simp [mkF, List.getElem?_range h12]
          omega)
        simp only [] at q0 q1
        go_wp2_with fail
        have hS : ∀ w' : World, w'.heap[g]? = wr.heap[g]? → w'.cell? ⟨g, j * 2, none⟩ = some (.int .i64 (1000003 * (1 + 7) + ((j : Int) - (n : Int)))) ∧ w'.cell? ⟨g, j * 2 + 1, none⟩ = some (.int .u8 0) :=
          fun w' e => ⟨(World.cell?_of_block e).trans q0, (World.cell?_of_block e).trans q1⟩
        refine wp_region_noPanic ?_
        refine wp_region_held_drew (S := (fun w' => w'.cell? ⟨g, j * 2, none⟩ = some (.int .i64 (1000003 * (1 + 7) + ((j : Int) - (n : Int)))) ∧ w'.cell? ⟨g, j * 2 + 1, none⟩ = some (.int .u8 0))) (by kernel_rfl) (hS _ rfl) (fun hHeld => ?_)
        refine wpAnyH_take (i := 0) (v := ?_) rfl (by kernel_rfl) (by kernel_rfl) (by kernel_rfl) (fun _ _ _ h => h) (Or.inl ⟨by kernel_rfl, ?_⟩) hHeld ?_
        rotate_left
        · intro w' hSw
          obtain ⟨z0, z1⟩ := hSw
          go_simp
          try with_reducible rfl
        try simp only [Act.put, List.setIfInBounds_toArray]
        refine wpAnyH_take (i := 1) (v := ?_) rfl (by kernel_rfl) (by kernel_rfl) (by kernel_rfl) (fun _ _ _ h => h) (Or.inl ⟨by kernel_rfl, ?_⟩) hHeld ?_
        rotate_left
        · intro w' hSw
          obtain ⟨z0, z1⟩ := hSw
          go_simp
          try with_reducible rfl
        try simp only [Act.put]
        refine wpAnyH_take (i := 2) (v := ?_) rfl (by kernel_rfl) (by kernel_rfl) (by kernel_rfl) (fun _ _ _ h => h) (Or.inl ⟨by kernel_rfl, ?_⟩) hHeld ?_
        rotate_left
        · intro w' hSw
          obtain ⟨z0, z1⟩ := hSw
          go_simp
          try with_reducible rfl
        try simp only [Act.put]
        refine wpAnyH_take (i := 3) (v := ?_) rfl (by kernel_rfl) (by kernel_rfl) (by kernel_rfl) (fun _ _ _ h => h) (Or.inl ⟨by kernel_rfl, ?_⟩) hHeld ?_
        rotate_left
        · intro w' hSw
          obtain ⟨z0, z1⟩ := hSw
          go_simp
          try with_reducible rfl
        try simp only [Act.put]
        refine wpAnyH_take (i := 4) (v := ?_) rfl (by kernel_rfl) (by kernel_rfl) (by kernel_rfl) (fun _ _ _ h => h) (Or.inl ⟨by kernel_rfl, ?_⟩) hHeld ?_
        rotate_left
        · intro w' hSw
          obtain ⟨z0, z1⟩ := hSw
          go_simp
          try with_reducible rfl
        try simp only [Act.put]
        refine wpAnyH_take (i := 5) rfl (by kernel_rfl) (by kernel_rfl) (by kernel_rfl) (fun _ _ _ h => h) (Or.inr ⟨by kernel_rfl, rfl⟩) hHeld ?_
        try simp only [Act.put]
        refine wpAnyH_take (i := 6) rfl (by kernel_rfl) (by kernel_rfl) (by kernel_rfl) (fun _ _ _ h => h) (Or.inr ⟨by kernel_rfl, rfl⟩) hHeld ?_
        try simp only [Act.put]
        refine wpAnyH_take (i := 7) rfl (by kernel_rfl) (by kernel_rfl) (by kernel_rfl) (fun _ _ _ h => h) (Or.inr ⟨by kernel_rfl, rfl⟩) hHeld ?_
        try simp only [Act.put]
        refine wpAnyH_take (i := 8) rfl (by kernel_rfl) (by kernel_rfl) (by kernel_rfl) (fun _ _ _ h => h) (Or.inr ⟨by kernel_rfl, rfl⟩) hHeld ?_
        try simp only [Act.put]
        refine wpAnyH_take (i := 9) rfl (by kernel_rfl) (by kernel_rfl) (by kernel_rfl) (fun _ _ _ h => h) (Or.inr ⟨by kernel_rfl, rfl⟩) hHeld ?_
        try simp only [Act.put]
        refine wpAnyH_take (i := 10) rfl (by kernel_rfl) (by kernel_rfl) (by kernel_rfl) (fun _ _ _ h => h) (Or.inr ⟨by kernel_rfl, rfl⟩) hHeld ?_
        try simp only [Act.put]
        refine wpAnyH_take (i := 11) rfl (by kernel_rfl) (by kernel_rfl) (by kernel_rfl) (fun _ _ _ h => h) (Or.inr ⟨by kernel_rfl, rfl⟩) hHeld ?_
        try simp only [Act.put]
        refine wpAnyH_take (i := 12) rfl (by kernel_rfl) (by kernel_rfl) (by kernel_rfl) (fun _ _ _ h => h) (Or.inr ⟨by kernel_rfl, rfl⟩) hHeld ?_
        try simp only [Act.put]
        refine wpAnyH_take (i := 13) rfl (by kernel_rfl) (by kernel_rfl) (by kernel_rfl) (fun _ _ _ h => h) (Or.inr ⟨by kernel_rfl, rfl⟩) hHeld ?_
        try simp only [Act.put]
        refine wpAnyH_take (i := 14) rfl (by kernel_rfl) (by kernel_rfl) (by kernel_rfl) (fun _ _ _ h => h) (Or.inr ⟨by kernel_rfl, rfl⟩) hHeld ?_
        try simp only [Act.put]
        refine wpAnyH_take (i := 15) (v := ?_) rfl (by kernel_rfl) (by kernel_rfl) (by kernel_rfl) (fun _ _ _ h => h) (Or.inl ⟨by kernel_rfl, ?_⟩) hHeld ?_
        rotate_left
        · intro w' hSw
          obtain ⟨z0, z1⟩ := hSw
          go_simp
          try with_reducible rfl
        try simp only [Act.put]
        refine wpAnyH_take (i := 16) (v := ?_) rfl (by kernel_rfl) (by kernel_rfl) (by kernel_rfl) (fun _ _ _ h => h) (Or.inl ⟨by kernel_rfl, ?_⟩) hHeld ?_
        rotate_left
        · intro w' hSw
          obtain ⟨z0, z1⟩ := hSw
          go_simp
          try with_reducible rfl
        try simp only [Act.put]
        refine wpAnyH_take (i := 17) (v := ?_) rfl (by kernel_rfl) (by kernel_rfl) (by kernel_rfl) (fun _ _ _ h => h) (Or.inl ⟨by kernel_rfl, ?_⟩) hHeld ?_
        rotate_left
        · intro w' hSw
          obtain ⟨z0, z1⟩ := hSw
          go_simp
          try with_reducible rfl
        try simp only [Act.put]
        refine wpAnyH_take (i := 18) (v := ?_) rfl (by kernel_rfl) (by kernel_rfl) (by kernel_rfl) (fun _ _ _ h => h) (Or.inl ⟨by kernel_rfl, ?_⟩) hHeld ?_
        rotate_left
        · intro w' hSw
          obtain ⟨z0, z1⟩ := hSw
          go_simp
          try with_reducible rfl
        try simp only [Act.put]
        refine wpAnyH_take (i := 19) (v := ?_) rfl (by kernel_rfl) (by kernel_rfl) (by kernel_rfl) (fun _ _ _ h => h) (Or.inl ⟨by kernel_rfl, ?_⟩) hHeld ?_
        rotate_left
        · intro w' hSw
          obtain ⟨z0, z1⟩ := hSw
          go_simp
          try with_reducible rfl
        try simp only [Act.put]
        refine wpAnyH_take (i := 20) (v := ?_) rfl (by kernel_rfl) (by kernel_rfl) (by kernel_rfl) (fun _ _ _ h => h) (Or.inl ⟨by kernel_rfl, ?_⟩) hHeld ?_
        rotate_left
        · intro w' hSw
          obtain ⟨z0, z1⟩ := hSw
          go_simp
          try with_reducible rfl
        try simp only [Act.put]
        refine wpAnyH_take (i := 21) (v := ?_) rfl (by kernel_rfl) (by kernel_rfl) (by kernel_rfl) (fun _ _ _ h => h) (Or.inl ⟨by kernel_rfl, ?_⟩) hHeld ?_
        rotate_left
        · intro w' hSw
          obtain ⟨z0, z1⟩ := hSw
          go_simp
          try with_reducible rfl
        try simp only [Act.put]
        refine wpAnyH_take (i := 22) (v := ?_) rfl (by kernel_rfl) (by kernel_rfl) (by kernel_rfl) (fun _ _ _ h => h) (Or.inl ⟨by kernel_rfl, ?_⟩) hHeld ?_
        rotate_left
        · intro w' hSw
          obtain ⟨z0, z1⟩ := hSw
          go_simp
          try with_reducible rfl
        try simp only [Act.put]
        refine wpAnyH_take (i := 23) (v := ?_) rfl (by kernel_rfl) (by kernel_rfl) (by kernel_rfl) (fun _ _ _ h => h) (Or.inl ⟨by kernel_rfl, ?_⟩) hHeld ?_
        rotate_left
        · intro w' hSw
          obtain ⟨z0, z1⟩ := hSw
          go_simp
          try with_reducible rfl
        try simp only [Act.put]
        refine wpAnyH_take (i := 24) (v := ?_) rfl (by kernel_rfl) (by kernel_rfl) (by kernel_rfl) (fun _ _ _ h => h) (Or.inl ⟨by kernel_rfl, ?_⟩) hHeld ?_
        rotate_left
        · intro w' hSw
          obtain ⟨z0, z1⟩ := hSw
          go_simp
          try with_reducible rfl
        try simp only [Act.put]
        refine wpAnyH_take (i := 25) (v := ?_) rfl (by kernel_rfl) (by kernel_rfl) (by kernel_rfl) (fun _ _ _ h => h) (Or.inl ⟨by kernel_rfl, ?_⟩) hHeld ?_
        rotate_left
        · intro w' hSw
          obtain ⟨z0, z1⟩ := hSw
          go_simp
          try with_reducible rfl
        try simp only [Act.put]
        refine wpAnyH_take (i := 26) (v := ?_) rfl (by kernel_rfl) (by kernel_rfl) (by kernel_rfl) (fun _ _ _ h => h) (Or.inl ⟨by kernel_rfl, ?_⟩) hHeld ?_
        rotate_left
        · intro w' hSw
          obtain ⟨z0, z1⟩ := hSw
          go_simp
          try with_reducible rfl
        try simp only [Act.put]
        refine wpAnyH_take (i := 27) (v := ?_) rfl (by kernel_rfl) (by kernel_rfl) (by kernel_rfl) (fun _ _ _ h => h) (Or.inl ⟨by kernel_rfl, ?_⟩) hHeld ?_
        rotate_left
        · intro w' hSw
          obtain ⟨z0, z1⟩ := hSw
          go_simp
          try with_reducible rfl
        try simp only [Act.put]
        refine wpAnyH_take (i := 28) (v := ?_) rfl (by kernel_rfl) (by kernel_rfl) (by kernel_rfl) (fun _ _ _ h => h) (Or.inl ⟨by kernel_rfl, ?_⟩) hHeld ?_
        rotate_left
        · intro w' hSw
          obtain ⟨z0, z1⟩ := hSw
          go_simp
          try with_reducible rfl
        try simp only [Act.put]
        refine wpAnyH_take (i := 29) (v := ?_) rfl (by kernel_rfl) (by kernel_rfl) (by kernel_rfl) (fun _ _ _ h => h) (Or.inl ⟨by kernel_rfl, ?_⟩) hHeld ?_
        rotate_left
        · intro w' hSw
          obtain ⟨z0, z1⟩ := hSw
          go_simp
          try with_reducible rfl
        try simp only [Act.put]
        refine wpAnyH_ready (rs := [30]) (by kernel_rfl) (by simp) ?_
        refine AllReadyH.cons rfl (fun K hK => ?_) AllReadyH.nil
        rw [if_pos (by kernel_rfl)]
        go_wp2_with (go_at_call 54; refine (markFate_any _ 1 _ (by omega) (by omega) (by omega) (by omega)).mono ?_; rintro e w5 ⟨rfl, f5⟩)
        refine hK.out _ _ (hS w5 (f5.block g hlt5 (by simp))) (fun hHeld => ?_)
        clear hK K
        try simp only [Act.put, List.setIfInBounds_toArray, List.set_cons_zero, List.set_cons_succ]
        refine wpAnyH_take (i := 31) (v := ?_) rfl (by kernel_rfl) (by kernel_rfl) (by kernel_rfl) (fun _ _ _ h => h) (Or.inl ⟨by kernel_rfl, ?_⟩) hHeld ?_
        rotate_left
        · intro w' hSw
          obtain ⟨z0, z1⟩ := hSw
          go_simp
          try with_reducible rfl
        try simp only [Act.put, List.setIfInBounds_toArray]
        refine wpAnyH_take (i := 32) (v := ?_) rfl (by kernel_rfl) (by kernel_rfl) (by kernel_rfl) (fun _ _ _ h => h) (Or.inl ⟨by kernel_rfl, ?_⟩) hHeld ?_
        rotate_left
        · intro w' hSw
          obtain ⟨z0, z1⟩ := hSw
          go_simp
          try with_reducible rfl
        try simp only [Act.put]
        refine wpAnyH_take (i := 33) (v := ?_) rfl (by kernel_rfl) (by kernel_rfl) (by kernel_rfl) (fun _ _ _ h => h) (Or.inl ⟨by kernel_rfl, ?_⟩) hHeld ?_
        rotate_left
        · intro w' hSw
          obtain ⟨z0, z1⟩ := hSw
          go_simp
          try with_reducible rfl
        try simp only [Act.put]
        refine wpAnyH_take (i := 34) (v := ?_) rfl (by kernel_rfl) (by kernel_rfl) (by kernel_rfl) (fun _ _ _ h => h) (Or.inl ⟨by kernel_rfl, ?_⟩) hHeld ?_
        rotate_left
        · intro w' hSw
          obtain ⟨z0, z1⟩ := hSw
          go_simp
          try with_reducible rfl
        try simp only [Act.put]
        refine wpAnyH_done (by kernel_rfl) ?_ _
        refine NoPanic.normal ?_
        have fr5 : Fr [] w w5 := fr.drew.trans f5
        go_wp2_with fail
        exact ⟨⟨j + 1, by omega, by go_num, fr5⟩, by simp [intOf]; omega⟩
    · obtain rfl : j = n + 12 := by omega
      go_wp2_with fail
      go_ret
      exact ⟨rfl, fr⟩

end Go.Proofs.Ytkenkgfohgmpnaa
