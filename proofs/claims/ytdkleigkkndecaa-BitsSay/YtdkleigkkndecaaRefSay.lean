/-
  The document's answers: Right, At, And.
-/
import Derived.Test.YtdkleigkkndecaaRef
namespace Go.Proofs.Ytdkleigkkndecaa
open Go.RowKit Go.Lib

set_option maxHeartbeats 2000000 in
set_option maxRecDepth 100000 in
theorem rright_any (w : World) (a : ByteArray) (hm : a.size ≤ 1048576) :
    Calls Try.prog 11 #[.string a] w fun e w' => ((e = .returned (.bool true) ∧ AllB (bl a) a.size) ∨ (e = .returned (.bool false) ∧ ¬ AllB (bl a) a.size)) ∧ Fr [] w w' := by
  have hm1 : (a.size : Int) ≤ 1048576 := by omega
  obtain ⟨n, hn⟩ : ∃ n, a.size = n := ⟨_, rfl⟩
  have HN : Hid (a.size = n) := hn
  have i1 : (a.size : Int) = (n : Int) := by omega
  have hm2 : (n : Int) ≤ 1048576 := by omega
  rw [hn] at hm ⊢
  clear hn
  go_enter Try.func11, Try.ntmps11
  go_wp2_with go_in
  go_loopw [3] (fun i wr => ∃ j : Nat, j ≤ n ∧ i = .int .i64 j ∧ AllB (bl a) j ∧ Fr [] w wr) (fun i _ => n - (intOf i).toNat)
  case atStart => exact ⟨0, by omega, rfl, (fun i hi => by omega), Fr.refl _ _⟩
  case round =>
    obtain ⟨j, hj, rfl, hall, fr⟩ := hrel
    have hj0 : (0 : Int) ≤ (j : Int) := by omega
    by_cases hlt : j < n
    · have hlt' : (j : Int) < (n : Int) := by omega
      have q1 := run_idx a (j : Int) j rfl (by rw [HN.out]; exact hlt)
      by_cases h48 : byteAt (bl a) j = 48
      · rw [h48, show (((48 : UInt8).toNat : Nat) : Int) = 48 from rfl] at q1
        have H : Hid (byteAt (bl a) j = 48) := h48
        clear h48
        go_wp2
        refine ⟨⟨j + 1, by omega, by go_num, ?_, fr⟩, by simp [intOf]; omega⟩
        intro i hi
        by_cases e : i = j
        · rw [e]; exact Or.inl H.out
        · exact hall i (by omega)
      · by_cases h49 : byteAt (bl a) j = 49
        · rw [h49, show (((49 : UInt8).toNat : Nat) : Int) = 49 from rfl] at q1
          have H : Hid (byteAt (bl a) j = 49) := h49
          clear h48 h49
          go_wp2
          refine ⟨⟨j + 1, by omega, by go_num, ?_, fr⟩, by simp [intOf]; omega⟩
          intro i hi
          by_cases e : i = j
          · rw [e]; exact Or.inr H.out
          · exact hall i (by omega)
        · have hno : Hid (¬ AllB (bl a) n) := fun h => by
            rcases h j hlt with e | e
            · exact h48 e
            · exact h49 e
          have g1 : ((((byteAt (bl a) j).toNat : Nat) : Int) == 48) = false := by
            rw [beq_eq_false_iff_ne]
            intro e
            exact h48 (UInt8.toNat_inj.1 (by show _ = 48; omega))
          have g2 : ((((byteAt (bl a) j).toNat : Nat) : Int) == 49) = false := by
            rw [beq_eq_false_iff_ne]
            intro e
            exact h49 (UInt8.toNat_inj.1 (by show _ = 49; omega))
          have g3 : ((((byteAt (bl a) j).toNat : Nat) : Int) != 48) = true := by rw [bne, g1]; rfl
          have g4 : ((((byteAt (bl a) j).toNat : Nat) : Int) != 49) = true := by rw [bne, g2]; rfl
          generalize (((byteAt (bl a) j).toNat : Nat) : Int) = v at q1 g1 g2 g3 g4
          clear h48 h49
          go_wp2
          go_ret
          exact ⟨Or.inr ⟨rfl, hno.out⟩, fr⟩
    · obtain rfl : j = n := by omega
      have HA : Hid (AllB (bl a) j) := hall
      clear hall
      go_wp2
      go_ret
      exact ⟨Or.inl ⟨rfl, HA.out⟩, fr⟩

theorem atI_said (a : ByteArray) (h : AllB (bl a) a.size) (k : Nat) (hk : k < a.size) : (((byteAt (bl a) k).toNat : Nat) : Int) = 48 + atI (said (bl a)) k := by
  have e : (said (bl a)).getD k false = (byteAt (bl a) k == 49) := by
    unfold said
    rw [byteAt_lt (by rw [bl_length]; exact hk)]
    simp [bl_length, hk]
  unfold atI
  rw [if_pos ⟨by omega, by rw [said_length, bl_length]; omega⟩, Int.toNat_natCast, e]
  rcases h k hk with h | h <;> rw [h] <;> rfl

set_option maxHeartbeats 1000000 in
theorem rat_any (w : World) (a : ByteArray) (hm : a.size ≤ 1048576) (h : AllB (bl a) a.size) (i : Int) :
    Calls Try.prog 15 #[.string a, .int .i64 i] w fun e w' => e = .returned (.int .i64 (atI (said (bl a)) i)) ∧ Fr [] w w' := by
  have hm1 : (a.size : Int) ≤ 1048576 := by omega
  by_cases h0 : i < 0
  · have e : Hid (atI (said (bl a)) i = -1) := by show _ = _; unfold atI; rw [if_neg (by omega)]
    clear h
    go_enter Try.func15, Try.ntmps15
    go_wp2
    go_ret
    exact ⟨by rw [e.out]; rfl, Fr.refl _ _⟩
  · by_cases h1 : (a.size : Int) ≤ i
    · have e : Hid (atI (said (bl a)) i = -1) := by show _ = _; unfold atI; rw [if_neg]; rw [said_length, bl_length]; omega
      have d1 : decide (i < 0) = false := by simp; omega
      have d2 : decide ((a.size : Int) ≤ i) = true := by simp; omega
      clear h
      go_enter Try.func15, Try.ntmps15
      go_wp2
      go_ret
      exact ⟨by rw [e.out]; rfl, Fr.refl _ _⟩
    · obtain ⟨k, rfl⟩ : ∃ k : Nat, i = k := ⟨i.toNat, by omega⟩
      have hk : k < a.size := by omega
      have q1 := run_idx a (k : Int) k rfl hk
      have e := atI_said a h k hk
      have hr : atI (said (bl a)) (k : Int) = 0 ∨ atI (said (bl a)) (k : Int) = 1 := by
        unfold atI
        rw [if_pos ⟨by omega, by rw [said_length, bl_length]; omega⟩]
        cases (said (bl a)).getD (k : Int).toNat false
        · exact Or.inl rfl
        · exact Or.inr rfl
      have d1 : decide ((k : Int) < 0) = false := by simp
      have d2 : decide ((a.size : Int) ≤ (k : Int)) = false := by simp; omega
      have d2' : decide (a.size ≤ k) = false := by simp; omega
      clear h h0 h1
      rcases hr with hr | hr
      · rw [hr]
        rw [e, hr] at q1
        clear e hr
        go_enter Try.func15, Try.ntmps15
        go_wp2
        go_ret
        exact ⟨rfl, Fr.refl _ _⟩
      · rw [hr]
        rw [e, hr] at q1
        clear e hr
        go_enter Try.func15, Try.ntmps15
        go_wp2
        go_ret
        exact ⟨rfl, Fr.refl _ _⟩

theorem append_mk (a b : ByteArray) : a ++ b = mkS (bl a ++ bl b) := by
  have : bl (a ++ b) = bl a ++ bl b := by simp [bl]
  rw [← this, mkS_bl]

set_option maxHeartbeats 1000000 in
theorem rand_any (w : World) (a b : ByteArray) (hm : a.size + b.size ≤ 1048576) :
    Calls Try.prog 17 #[.string a, .string b] w fun e w' => e = .returned (.string (mkS (bl a ++ bl b))) ∧ Fr [] w w' := by
  have h1 : (a.size : Int) + (b.size : Int) ≤ 1048576 := by omega
  have h2 : (a.size : Int) ≤ 1048576 := by omega
  have h3 : (b.size : Int) ≤ 1048576 := by omega
  rw [← append_mk]
  clear hm
  go_enter Try.func17, Try.ntmps17
  go_wp2
  go_ret
  exact ⟨by simp, Fr.refl _ _⟩

end Go.Proofs.Ytdkleigkkndecaa
