/-
  The device's small functions: made, awake, reach, count, New, Blocks, Down, Arm: what each answers, and what it leaves.
-/
import Derived.Test.YtopaeomjndblkaaGreatDvBase
namespace Go.Proofs.YtopaeomjndblkaaGreat.Dv
open Go.RowKit Go.Maps

set_option maxHeartbeats 400000 in
theorem made_nil (w : World) : Calls Tryz.prog 133 #[.pointer none] w fun e w' => e = .returned (.bool false) ∧ w' = w := by
  go_enter Tryz.func133, Tryz.ntmps133
  go_wp2
  go_ret
  exact ⟨rfl, rfl⟩

set_option maxHeartbeats 400000 in
theorem made_yes (w : World) (p : Nat) (n : Int) (c0 : w.cell? ⟨p, 0, none⟩ = some (.int .i64 n)) (h : 0 < n) : Calls Tryz.prog 133 #[.pointer (some ⟨p, 0, none⟩)] w fun e w' => e = .returned (.bool true) ∧ w' = w := by
  go_enter Tryz.func133, Tryz.ntmps133
  go_wp2
  go_ret
  exact ⟨rfl, rfl⟩

set_option maxHeartbeats 400000 in
theorem made_no (w : World) (p : Nat) (c0 : w.cell? ⟨p, 0, none⟩ = some (.int .i64 0)) : Calls Tryz.prog 133 #[.pointer (some ⟨p, 0, none⟩)] w fun e w' => e = .returned (.bool false) ∧ w' = w := by
  go_enter Tryz.func133, Tryz.ntmps133
  go_wp2
  go_ret
  exact ⟨rfl, rfl⟩

/-- No device, or one that nobody made. -/
def NoDev (w : World) (v : Value) : Prop := v = .pointer none ∨ ∃ p, v = .pointer (some ⟨p, 0, none⟩) ∧ w.cell? ⟨p, 0, none⟩ = some (.int .i64 0)

theorem NoDev.kept {w w' : World} {v : Value} {L : List Nat} (h : NoDev w v) (k : Fr L w w') (hL : ∀ i ∈ L, w.heap.size ≤ i) : NoDev w' v := by
  rcases h with h | ⟨p, h, hc⟩
  · exact Or.inl h
  · refine Or.inr ⟨p, h, ?_⟩
    have hlt := block_lt_of_cell hc
    rw [← hc]
    exact World.cell?_of_block (k.block p hlt (fun e => by have := hL p e; simp at hlt; omega))

theorem made_none (w : World) (v : Value) (h : NoDev w v) : Calls Tryz.prog 133 #[v] w fun e w' => e = .returned (.bool false) ∧ w' = w := by
  rcases h with rfl | ⟨p, rfl, hc⟩
  · exact made_nil w
  · exact made_no w p hc

theorem made_dev {w : World} {p bs bo : Nat} {n a : Int} {dn : Bool} {S O : Tab} (h : Dev w p bs bo n a dn S O) : Calls Tryz.prog 133 #[.pointer (some ⟨p, 0, none⟩)] w fun e w' => e = .returned (.bool true) ∧ w' = w :=
  made_yes w p n h.cell0 (by have := h.n1; omega)

set_option maxHeartbeats 400000 in
theorem awake_none (w : World) (v : Value) (h : NoDev w v) : Calls Tryz.prog 134 #[v] w fun e w' => e = .returned (.int .i64 1) ∧ w' = w := by
  go_enter Tryz.func134, Tryz.ntmps134
  go_wp2_with (go_at_call 133; refine (made_none _ _ h).mono ?_; rintro e w' ⟨rfl, rfl⟩)
  go_ret
  exact ⟨rfl, rfl⟩

/-- What is told of a crash. -/
def told (c : Bool) : Int := if c then 8 else 0
theorem told_t : told true = 8 := rfl
theorem told_f : told false = 0 := rfl

set_option maxHeartbeats 400000 in
theorem awake_dev {w : World} {p bs bo : Nat} {n a : Int} {dn : Bool} {S O : Tab} (h : Dev w p bs bo n a dn S O) :
    Calls Tryz.prog 134 #[.pointer (some ⟨p, 0, none⟩)] w fun e w' => e = .returned (.int .i64 (told dn)) ∧ w' = w := by
  have c1 := h.cell1
  cases dn
  · rw [told_f]
    go_enter Tryz.func134, Tryz.ntmps134
    go_wp2_with (go_at_call 133; refine (made_dev h).mono ?_; rintro e w' ⟨rfl, rfl⟩)
    go_ret
    exact ⟨rfl, rfl⟩
  · rw [told_t]
    go_enter Tryz.func134, Tryz.ntmps134
    go_wp2_with (go_at_call 133; refine (made_dev h).mono ?_; rintro e w' ⟨rfl, rfl⟩)
    go_ret
    exact ⟨rfl, rfl⟩

set_option maxHeartbeats 400000 in
theorem reach_none (w : World) (v : Value) (k : Int) (h : NoDev w v) : Calls Tryz.prog 182 #[v, .int .i64 k] w fun e w' => e = .returned (.int .i64 1) ∧ w' = w := by
  go_enter Tryz.func182, Tryz.ntmps182
  go_wp2_with (go_at_call 134; refine (awake_none _ _ h).mono ?_; rintro e w' ⟨rfl, rfl⟩)
  go_ret
  exact ⟨rfl, rfl⟩

/-- What a call on one block is told first. -/
def reached (n k : Int) (dn : Bool) : Int := if dn then 8 else if k < 0 ∨ n ≤ k then 6 else 0

set_option maxHeartbeats 400000 in
theorem reach_dev {w : World} {p bs bo : Nat} {n a : Int} {dn : Bool} {S O : Tab} (h : Dev w p bs bo n a dn S O) (k : Int) :
    Calls Tryz.prog 182 #[.pointer (some ⟨p, 0, none⟩), .int .i64 k] w fun e w' => e = .returned (.int .i64 (reached n k dn)) ∧ w' = w := by
  have c0 := h.cell0
  cases dn
  · by_cases h1 : k < 0
    · have e1 : reached n k false = 6 := by simp [reached, h1]
      rw [e1]
      go_enter Tryz.func182, Tryz.ntmps182
      go_wp2_with (go_at_call 134; refine (awake_dev h).mono ?_; simp only [told_f]; rintro e w' ⟨rfl, rfl⟩)
      go_ret
      exact ⟨rfl, rfl⟩
    · by_cases h2 : n ≤ k
      · have e1 : reached n k false = 6 := by simp [reached, h2]
        rw [e1]
        go_enter Tryz.func182, Tryz.ntmps182
        go_wp2_with (go_at_call 134; refine (awake_dev h).mono ?_; simp only [told_f]; rintro e w' ⟨rfl, rfl⟩)
        go_ret
        exact ⟨rfl, rfl⟩
      · have e1 : reached n k false = 0 := by simp [reached, h1, h2]
        rw [e1]
        go_enter Tryz.func182, Tryz.ntmps182
        go_wp2_with (go_at_call 134; refine (awake_dev h).mono ?_; simp only [told_f]; rintro e w' ⟨rfl, rfl⟩)
        go_ret
        exact ⟨rfl, rfl⟩
  · go_enter Tryz.func182, Tryz.ntmps182
    go_wp2_with (go_at_call 134; refine (awake_dev h).mono ?_; simp only [told_t]; rintro e w' ⟨rfl, rfl⟩)
    go_ret
    exact ⟨rfl, rfl⟩

/-- Whether the device crashes at the next write or sync; how many are left then. -/
def crash (a : Int) : Bool := a == 1
def left (a : Int) : Int := if a = 0 then 0 else a - 1

set_option maxHeartbeats 400000 in
theorem count_dev {w : World} {p bs bo : Nat} {n a : Int} {S O : Tab} (h : Dev w p bs bo n a false S O) :
    Calls Tryz.prog 207 #[.pointer (some ⟨p, 0, none⟩)] w fun e w' => e = .returned (.int .i64 (told (crash a))) ∧ Dev w' p bs bo n (left a) (crash a) S O ∧ Fr [p] w w' := by
  have c2 := h.cell2
  have c1 := h.cell1
  have f2 := h.frozen 2
  have f1 := h.frozen 1
  have a1 := h.a1
  have a2 := h.a2
  by_cases h0 : a = 0
  · subst h0
    have e1 : told (crash 0) = 0 := rfl
    have e2 : crash 0 = false := rfl
    have e3 : left 0 = 0 := rfl
    rw [e1, e2, e3]
    go_enter Tryz.func207, Tryz.ntmps207
    go_wp2
    go_ret
    exact ⟨rfl, h, Fr.refl _ _⟩
  · have hb : (a == 0) = false := by simpa using h0
    have d2 := (h.setAhead (a - 1) (by omega) (by omega))
    have el : left a = a - 1 := by simp [left, h0]
    rw [el]
    have fr1 : Fr [p] w (w.setCell ⟨p, 2, none⟩ (.int .i64 (a - 1))) := (Fr.refl _ _).setCell _ _ (by simp)
    by_cases h1 : a = 1
    · subst h1
      have d3 := d2.setDown true
      have fr3 := fr1.setCell ⟨p, 1, none⟩ (.bool true) (by simp)
      have e1 : told (crash 1) = 8 := rfl
      have e2 : crash 1 = true := rfl
      rw [e1, e2]
      clear d2 fr1 el e1 e2
      go_enter Tryz.func207, Tryz.ntmps207
      go_wp2
      go_ret
      exact ⟨rfl, d3, fr3⟩
    · have hc : crash a = false := by simpa [crash] using h1
      rw [hc]
      have e1 : told false = 0 := rfl
      rw [e1]
      clear e1 el hc
      have hp : 0 < a - 1 := by omega
      go_enter Tryz.func207, Tryz.ntmps207
      go_wp2
      go_ret
      exact ⟨rfl, d2, fr1⟩

set_option maxHeartbeats 400000 in
theorem new_no (k : Int) (w : World) (h : k < 1 ∨ 65536 < k) : Calls Tryz.prog 36 #[.int .i64 k] w fun e w' => e = .returned (.pointer none) ∧ w' = w := by
  by_cases h1 : k < 1
  · clear h
    go_enter Tryz.func36, Tryz.ntmps36
    go_wp2
    go_ret
    exact ⟨rfl, rfl⟩
  · have h2 : 65536 < k := by omega
    clear h
    go_enter Tryz.func36, Tryz.ntmps36
    go_wp2
    go_ret
    exact ⟨rfl, rfl⟩

set_option maxHeartbeats 400000 in
theorem new_raw (k : Int) (w : World) (h1 : ¬ k < 1) (h2 : ¬ 65536 < k) : Calls Tryz.prog 36 #[.int .i64 k] w fun e w' =>
    e = .returned (.pointer (some ⟨w.heap.size + 2, 0, none⟩)) ∧ w' = ((w.alloc (.map #[] 0)).alloc (.map #[] 0)).alloc (.cells #[.int .i64 k, .bool false, .int .i64 0, .map (some w.heap.size), .map (some (w.heap.size + 1))] 180) := by
  have hmm := @run_makeMap Tryz.prog
  go_enter Tryz.func36, Tryz.ntmps36
  go_wp2
  go_ret
  exact ⟨rfl, rfl⟩

theorem new_dev (k : Int) (w : World) (h1 : 1 ≤ k) (h2 : k ≤ 65536) : Calls Tryz.prog 36 #[.int .i64 k] w fun e w' =>
    e = .returned (.pointer (some ⟨w.heap.size + 2, 0, none⟩)) ∧ Dev w' (w.heap.size + 2) w.heap.size (w.heap.size + 1) k 0 false Tab.none Tab.none ∧ Fr [] w w' := by
  refine (new_raw k w (by omega) (by omega)).mono ?_
  rintro e w' ⟨rfl, rfl⟩
  have t1 := tabAt.made w
  have t2 := tabAt.made (w.alloc (.map #[] 0))
  have s1 : (w.alloc (.map #[] 0)).heap.size = w.heap.size + 1 := by simp
  rw [s1] at t2
  have s2 : ((w.alloc (.map #[] 0)).alloc (.map #[] 0)).heap.size = w.heap.size + 2 := by simp
  have hc := heap_alloc_new ((w.alloc (.map #[] 0)).alloc (.map #[] 0)) (.cells #[.int .i64 k, .bool false, .int .i64 0, .map (some w.heap.size), .map (some (w.heap.size + 1))] 180)
  rw [s2] at hc
  refine ⟨rfl, ⟨hc, ?_, ?_, by omega, by omega, by omega, h1, h2, by omega, by omega⟩, (((Fr.refl _ _).alloc _).alloc _).alloc _⟩
  · exact t1.kept (((Fr.refl [] _).alloc _).alloc _) (by simp)
  · exact t2.kept ((Fr.refl [] _).alloc _) (by simp)

set_option maxHeartbeats 400000 in
theorem blocks_none (w : World) (v : Value) (h : NoDev w v) : Calls Tryz.prog 120 #[v] w fun e w' => e = .returned (.int .i64 0) ∧ w' = w := by
  go_enter Tryz.func120, Tryz.ntmps120
  go_wp2_with (go_at_call 133; refine (made_none _ _ h).mono ?_; rintro e w' ⟨rfl, rfl⟩)
  go_ret
  exact ⟨rfl, rfl⟩

set_option maxHeartbeats 400000 in
theorem blocks_dev {w : World} {p bs bo : Nat} {n a : Int} {dn : Bool} {S O : Tab} (h : Dev w p bs bo n a dn S O) : Calls Tryz.prog 120 #[.pointer (some ⟨p, 0, none⟩)] w fun e w' => e = .returned (.int .i64 n) ∧ w' = w := by
  have c0 := h.cell0
  go_enter Tryz.func120, Tryz.ntmps120
  go_wp2_with (go_at_call 133; refine (made_dev h).mono ?_; rintro e w' ⟨rfl, rfl⟩)
  go_ret
  exact ⟨rfl, rfl⟩

set_option maxHeartbeats 400000 in
theorem arm_none (w : World) (v : Value) (k : Int) (h : NoDev w v) : Calls Tryz.prog 49 #[v, .int .i64 k] w fun e w' => e = .returned (.tuple #[]) ∧ w' = w := by
  go_enter Tryz.func49, Tryz.ntmps49
  go_wp2_with (go_at_call 134; refine (awake_none _ _ h).mono ?_; rintro e w' ⟨rfl, rfl⟩)
  exact bodyPost_ret (results_none Tryz.results49 _ _ _) rfl ⟨rfl, rfl⟩

set_option maxHeartbeats 400000 in
theorem arm_down {w : World} {p bs bo : Nat} {n a : Int} {S O : Tab} (h : Dev w p bs bo n a true S O) (k : Int) : Calls Tryz.prog 49 #[.pointer (some ⟨p, 0, none⟩), .int .i64 k] w fun e w' => e = .returned (.tuple #[]) ∧ w' = w := by
  go_enter Tryz.func49, Tryz.ntmps49
  go_wp2_with (go_at_call 134; refine (awake_dev h).mono ?_; simp only [told_t]; rintro e w' ⟨rfl, rfl⟩)
  exact bodyPost_ret (results_none Tryz.results49 _ _ _) rfl ⟨rfl, rfl⟩

def armed (k : Int) : Int := if k < 0 then 0 else k

set_option maxHeartbeats 400000 in
theorem arm_dev {w : World} {p bs bo : Nat} {n a : Int} {S O : Tab} (h : Dev w p bs bo n a false S O) (k : Int) (hk : k < 9223372036854775808) :
    Calls Tryz.prog 49 #[.pointer (some ⟨p, 0, none⟩), .int .i64 k] w fun e w' => e = .returned (.tuple #[]) ∧ Dev w' p bs bo n (armed k) false S O ∧ Fr [p] w w' := by
  have c2 := h.cell2
  have f2 := h.frozen 2
  by_cases h0 : k < 0
  · have e1 : armed k = 0 := by simp [armed, h0]
    rw [e1]
    have d2 := h.setAhead 0 (by omega) (by omega)
    have fr1 : Fr [p] w (w.setCell ⟨p, 2, none⟩ (.int .i64 0)) := (Fr.refl _ _).setCell _ _ (by simp)
    clear e1
    go_enter Tryz.func49, Tryz.ntmps49
    go_wp2_with (go_at_call 134; refine (awake_dev h).mono ?_; simp only [told_f]; rintro e w' ⟨rfl, rfl⟩)
    go_end0
    exact ⟨rfl, d2, fr1⟩
  · have e1 : armed k = k := by simp [armed, h0]
    rw [e1]
    have d2 := h.setAhead k (by omega) (by omega)
    have fr1 : Fr [p] w (w.setCell ⟨p, 2, none⟩ (.int .i64 k)) := (Fr.refl _ _).setCell _ _ (by simp)
    clear e1
    go_enter Tryz.func49, Tryz.ntmps49
    go_wp2_with (go_at_call 134; refine (awake_dev h).mono ?_; simp only [told_f]; rintro e w' ⟨rfl, rfl⟩)
    go_end0
    exact ⟨rfl, d2, fr1⟩

end Go.Proofs.YtopaeomjndblkaaGreat.Dv
