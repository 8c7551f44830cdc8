/-
  The document's answers: Right, At, And, Compare, Begins.
-/
import Derived.Test.YtdkleigkkndecaaSign
namespace Go.Proofs.Ytdkleigkkndecaa
open Go.RowKit Go.Lib

set_option maxHeartbeats 2000000 in
set_option maxRecDepth 100000 in
theorem rcompare_any (w : World) (a b : ByteArray) (m1 : a.size < 9223372036854775808) (m2 : b.size < 9223372036854775808) :
    Calls Try.prog 28 #[.string a, .string b] w fun e w' => e = .returned (.int .i64 (compareBytes (bl a) (bl b))) ∧ Fr [] w w' := by
  obtain ⟨n1, h1⟩ : ∃ n, a.size = n := ⟨_, rfl⟩
  obtain ⟨n2, h2⟩ : ∃ n, b.size = n := ⟨_, rfl⟩
  have H1 : Hid ((bl a).length = n1) := h1
  have H2 : Hid ((bl b).length = n2) := h2
  have i1 : (a.size : Int) = (n1 : Int) := by omega
  have i2 : (b.size : Int) = (n2 : Int) := by omega
  have i3 : Hid (a.size = n1) := h1
  have i4 : Hid (b.size = n2) := h2
  rw [h1] at m1
  rw [h2] at m2
  have k1 : (n1 : Int) < 9223372036854775808 := by omega
  have k2 : (n2 : Int) < 9223372036854775808 := by omega
  clear h1 h2
  go_enter Try.func28, Try.ntmps28
  go_wp2_with go_in
  go_loopw [5] (fun i wr => ∃ j : Nat, j ≤ n1 ∧ j ≤ n2 ∧ i = .int .i64 j ∧ (∀ i, i < j → byteAt (bl a) i = byteAt (bl b) i) ∧ Fr [] w wr) (fun i _ => n1 - (intOf i).toNat)
  case atStart => exact ⟨0, by omega, by omega, rfl, (fun i hi => by omega), Fr.refl _ _⟩
  case round =>
    obtain ⟨j, hj1, hj2, rfl, hEq, fr⟩ := hrel
    have HE : Hid (∀ i, i < j → byteAt (bl a) i = byteAt (bl b) i) := hEq
    clear hEq
    have hj0 : (0 : Int) ≤ (j : Int) := by omega
    by_cases hl : j < n1 ∧ j < n2
    · obtain ⟨hl1, hl2⟩ := hl
      have e1 : (j : Int) < (n1 : Int) := by omega
      have e2 : (j : Int) < (n2 : Int) := by omega
      have d1 : decide ((j : Int) < (n1 : Int)) = true := by simp; omega
      have q1 := run_idx a (j : Int) j rfl (by rw [i3.out]; exact hl1)
      have q2 := run_idx b (j : Int) j rfl (by rw [i4.out]; exact hl2)
      by_cases heq : byteAt (bl a) j = byteAt (bl b) j
      · have HQ : Hid (byteAt (bl a) j = byteAt (bl b) j) := heq
        rw [heq] at q1
        clear heq
        generalize ((byteAt (bl b) j).toNat : Int) = v at q1 q2
        go_wp2_with fail
        go_quiet (fail)
        go_wp2_with fail
        go_quiet (fail)
        go_wp2_with fail
        refine ⟨⟨j + 1, by omega, by omega, by go_num, ?_, fr.drewN _⟩, by simp [intOf]; omega⟩
        intro i hi
        by_cases e : i = j
        · rw [e]; exact HQ.out
        · exact HE.out i (by omega)
      · have hne : ¬ (byteAt (bl a) j).toNat = (byteAt (bl b) j).toNat := fun e => heq (UInt8.toNat_inj.1 e)
        by_cases hlt : byteAt (bl a) j < byteAt (bl b) j
        · have hc : Hid (compareBytes (bl a) (bl b) = -1) := cb_lt j (bl a) (bl b) (by rw [H1.out]; exact hl1) (by rw [H2.out]; exact hl2) HE.out hlt
          rw [UInt8.lt_iff_toNat_lt] at hlt
          have g1 : (((byteAt (bl a) j).toNat : Nat) : Int) < (((byteAt (bl b) j).toNat : Nat) : Int) := by omega
          have g2 : ((((byteAt (bl a) j).toNat : Nat) : Int) == (((byteAt (bl b) j).toNat : Nat) : Int)) = false := by simp; omega
          have g3 : ((((byteAt (bl a) j).toNat : Nat) : Int) != (((byteAt (bl b) j).toNat : Nat) : Int)) = true := by simp; omega
          clear hne hlt heq
          generalize ((byteAt (bl a) j).toNat : Int) = v1 at q1 g1 g2 g3
          generalize ((byteAt (bl b) j).toNat : Int) = v2 at q2 g1 g2 g3
          clear g2 g3
          go_wp2_with fail
          go_quiet (fail)
          go_wp2_with fail
          go_ret
          exact ⟨by rw [hc.out]; rfl, fr.drewN _⟩
        · have hgt : byteAt (bl b) j < byteAt (bl a) j := by rw [UInt8.lt_iff_toNat_lt] at hlt ⊢; omega
          have hc : Hid (compareBytes (bl a) (bl b) = 1) := by
            show _ = _
            rw [cb_sym (bl b) (bl a), cb_lt j (bl b) (bl a) (by rw [H2.out]; exact hl2) (by rw [H1.out]; exact hl1) (fun i hi => (HE.out i hi).symm) hgt]
            rfl
          rw [UInt8.lt_iff_toNat_lt] at hlt
          have g1 : decide ((((byteAt (bl a) j).toNat : Nat) : Int) < (((byteAt (bl b) j).toNat : Nat) : Int)) = false := by simp; omega
          have g2 : ((((byteAt (bl a) j).toNat : Nat) : Int) == (((byteAt (bl b) j).toNat : Nat) : Int)) = false := by simp; omega
          have g3 : ((((byteAt (bl a) j).toNat : Nat) : Int) != (((byteAt (bl b) j).toNat : Nat) : Int)) = true := by simp; omega
          have g4 : decide ((((byteAt (bl b) j).toNat : Nat) : Int) < (((byteAt (bl a) j).toNat : Nat) : Int)) = true := by simp; omega
          clear g2 g3 hne hlt heq hgt
          have g1' : decide (j < n1) = true := by simp; omega
          generalize ((byteAt (bl a) j).toNat : Int) = v1 at q1 g1 g4
          generalize ((byteAt (bl b) j).toNat : Int) = v2 at q2 g1 g4
          go_wp2_with fail
          go_quiet (fail)
          go_wp2_with fail
          go_quiet (fail)
          go_wp2_with fail
          go_ret
          exact ⟨by rw [hc.out]; rfl, (fr.drewN _).drewN _⟩
    · have hend := cb_end (bl a) (bl b) j (by rw [H1.out, H2.out]; omega) (by rw [H1.out]; exact hj1) (by rw [H2.out]; exact hj2) HE.out
      rw [H1.out, H2.out] at hend
      have HC : Hid (compareBytes (bl a) (bl b) = if n1 < n2 then -1 else if n2 < n1 then 1 else 0) := hend
      clear hend
      have hstop : (decide ((j : Int) < (n1 : Int)) && decide ((j : Int) < (n2 : Int))) = false := by
        simp
        omega
      rcases Nat.lt_trichotomy n1 n2 with hc | hc | hc
      · have d1 : decide ((j : Int) < (n1 : Int)) = false := by simp; omega
        have d1' : decide (j < n1) = false := by simp; omega
        have d2 : (n1 : Int) < (n2 : Int) := by omega
        have hR : Hid (compareBytes (bl a) (bl b) = -1) := by show _ = _; rw [HC.out, if_pos hc]
        clear hl hstop hj1 hj2 hc
        go_wp2_with fail
        go_ret
        exact ⟨by rw [hR.out]; rfl, fr⟩
      · subst hc
        have hc := Nat.le_refl n1
        have d1 : decide ((j : Int) < (n1 : Int)) = false := by simp; omega
        have d1' : decide (j < n1) = false := by simp; omega
        have hR : Hid (compareBytes (bl a) (bl b) = 0) := by show _ = _; rw [HC.out, if_neg (Nat.lt_irrefl _), if_neg (Nat.lt_irrefl _)]
        clear hl hstop hj1 hj2 hc
        go_wp2_with fail
        go_ret
        exact ⟨by rw [hR.out]; rfl, fr⟩
      · have hR : Hid (compareBytes (bl a) (bl b) = 1) := by show _ = _; rw [HC.out, if_neg (by omega), if_pos hc]
        have d2 : decide ((n1 : Int) < (n2 : Int)) = false := by simp; omega
        have d2' : decide (n1 < n2) = false := by simp; omega
        have d3 : decide ((n2 : Int) < (n1 : Int)) = true := by simp; omega
        have d3' : decide (n2 < n1) = true := by simp; omega
        have d1 : decide ((j : Int) < (n1 : Int)) = true := by simp; omega
        have d1' : decide (j < n1) = true := by simp; omega
        have d4 : decide ((j : Int) < (n2 : Int)) = false := by simp; omega
        have d4' : decide (j < n2) = false := by simp; omega
        clear hl hstop hj1 hj2 hc
        go_wp2_with fail
        go_ret
        exact ⟨by rw [hR.out]; rfl, fr⟩

theorem run_head (s : ByteArray) (i : Int) (m : Nat) (hm : i = (m : Int)) (h : m ≤ s.size) (w : World) : (Instr.slice 9 (.string s) none (some (.int .i64 i)) none).run Try.prog w = .ok (.string (mkS ((bl s).take m))) w := by
  subst hm
  rw [run_slice_string_to_if (P := Try.prog) w 9 s .i64 (m : Int) Try.underlying9]
  have e : s.extract 0 m = mkS ((bl s).take m) := by
    have := ByteArray.extract_mk (bl s) 0 m
    have e2 : ByteArray.mk (bl s).toArray = s := rfl
    rw [e2] at this
    rw [this]
    simp [mkS]
  simp [h, e]

set_option maxHeartbeats 1000000 in
theorem rbegins_in (w : World) (a b : ByteArray) (n m : Nat) (hn : a.size = n) (hm : b.size = m) (h : m ≤ n) :
    Calls Try.prog 30 #[.string a, .string b] w fun e w' => e = .returned (.bool ((bl a).take m == bl b)) ∧ Fr [] w w' := by
  have i1 : (a.size : Int) = (n : Int) := by omega
  have i2 : (b.size : Int) = (m : Int) := by omega
  have d1 : decide ((m : Int) ≤ (n : Int)) = true := by simp; omega
  have d2 : decide (m ≤ n) = true := by simp; omega
  have hsl := run_head a (m : Int) m rfl (by omega)
  have hq : ((mkS ((bl a).take m)).toList == b.toList) = ((bl a).take m == bl b) := by
    have e1 : (mkS ((bl a).take m)).toList = (bl a).take m := by rw [toList_bl, bl_mkS]
    rw [e1, toList_bl]
  clear hn hm
  go_enter Try.func30, Try.ntmps30
  go_wp2
  go_ret
  exact ⟨by simp, Fr.refl _ _⟩

set_option maxHeartbeats 1000000 in
theorem rbegins_out (w : World) (a b : ByteArray) (n m : Nat) (hn : a.size = n) (hm : b.size = m) (h : n < m) :
    Calls Try.prog 30 #[.string a, .string b] w fun e w' => e = .returned (.bool ((bl a).take m == bl b)) ∧ Fr [] w w' := by
  have i1 : (a.size : Int) = (n : Int) := by omega
  have i2 : (b.size : Int) = (m : Int) := by omega
  have d1 : decide ((m : Int) ≤ (n : Int)) = false := by simp; omega
  have d2 : decide (m ≤ n) = false := by simp; omega
  have hq : Hid (((bl a).take m == bl b) = false) := by
    show _ = _
    rw [beq_eq_false_iff_ne]
    intro e
    have := congrArg List.length e
    rw [List.length_take, bl_length, bl_length, hn, hm] at this
    omega
  clear hn hm h
  go_enter Try.func30, Try.ntmps30
  go_wp2
  go_ret
  exact ⟨by rw [hq.out]; rfl, Fr.refl _ _⟩

theorem rbegins_any (w : World) (a b : ByteArray) : Calls Try.prog 30 #[.string a, .string b] w fun e w' => e = .returned (.bool ((bl a).take b.size == bl b)) ∧ Fr [] w w' := by
  by_cases h : b.size ≤ a.size
  · exact rbegins_in w a b _ _ rfl rfl h
  · exact rbegins_out w a b _ _ rfl rfl (by omega)

theorem txt_said {l : List UInt8} (h : AllB l l.length) : txt (said l) = l := by
  unfold txt said
  rw [List.map_map]
  conv => rhs; rw [← List.map_id l]
  apply List.map_congr_left
  intro x hx
  obtain ⟨i, hi, rfl⟩ := List.getElem_of_mem hx
  have := h i hi
  rw [byteAt_lt hi] at this
  rcases this with e | e <;> rw [e] <;> rfl
theorem said_length (l : List UInt8) : (said l).length = l.length := by simp [said]
theorem stand_said {a b : ByteArray} (ha : AllB (bl a) a.size) (hb : AllB (bl b) b.size) : stand (said (bl a)) (said (bl b)) = compareBytes (bl a) (bl b) := by
  unfold stand
  rw [txt_said ha, txt_said hb]
theorem beg_said {a b : ByteArray} (ha : AllB (bl a) a.size) (hb : AllB (bl b) b.size) : ((said (bl a)).take b.size == said (bl b)) = ((bl a).take b.size == bl b) := by
  by_cases h : (bl a).take b.size = bl b
  · have : (said (bl a)).take b.size = said (bl b) := by unfold said; rw [← List.map_take, h]
    rw [this, h]
    simp
  · have : ¬ (said (bl a)).take b.size = said (bl b) := fun e => h (by
      have e2 := congrArg txt e
      rw [txt_said hb] at e2
      unfold txt at e2
      rw [List.map_take] at e2
      have e3 : (said (bl a)).map chr = bl a := txt_said ha
      rwa [e3] at e2)
    rw [beq_eq_false_iff_ne.2 h, beq_eq_false_iff_ne.2 this]

end Go.Proofs.Ytdkleigkkndecaa
