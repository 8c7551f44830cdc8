/-
  The laws' own helper sign; the document's Compare and Begins: how bytes stand.
-/
import Derived.Test.YtdkleigkkndecaaRow
namespace Go.Proofs.Ytdkleigkkndecaa
open Go.RowKit Go.Lib

theorem cb_end (l m : List UInt8) (j : Nat) (h : j = l.length ∨ j = m.length) (hj : j ≤ l.length) (hk : j ≤ m.length) (he : ∀ i, i < j → byteAt l i = byteAt m i) :
    compareBytes l m = if l.length < m.length then -1 else if m.length < l.length then 1 else 0 := by
  rcases Nat.lt_trichotomy l.length m.length with h1 | h1 | h1
  · rw [if_pos h1]
    exact cb_pre l m h1 (fun i hi => he i (by omega))
  · rw [if_neg (by omega), if_neg (by omega)]
    have : l = m := by
      apply List.ext_getElem h1
      intro i h2 h3
      have := he i (by omega)
      rwa [byteAt_lt h2, byteAt_lt h3] at this
    rw [this, cb_self]
  · rw [if_neg (by omega), if_pos h1, cb_sym m l, cb_pre m l h1 (fun i hi => (he i (by omega)).symm)]
    rfl

set_option maxHeartbeats 2000000 in
set_option maxRecDepth 100000 in
theorem sign_any (w : World) (a1 a2 : Option Addr) (n1 n2 c1 c2 : Nat) (l1 l2 : List UInt8) (h1 : l1.length = n1) (h2 : l2.length = n2) (b1 : BytesAt w a1 l1) (b2 : BytesAt w a2 l2) (m1 : n1 < 9223372036854775808) (m2 : n2 < 9223372036854775808) :
    Calls Try.prog 33 #[.slice a1 n1 c1, .slice a2 n2 c2] w fun e w' => e = .returned (.int .i64 (compareBytes l1 l2)) ∧ Fr [] w w' := by
  have H1 : Hid (l1.length = n1) := h1
  have H2 : Hid (l2.length = n2) := h2
  have k1 : (n1 : Int) < 9223372036854775808 := by omega
  have k2 : (n2 : Int) < 9223372036854775808 := by omega
  clear h1 h2
  go_enter Try.func33, Try.ntmps33
  go_wp2_with go_in
  go_loopw [5] (fun i wr => ∃ j : Nat, j ≤ n1 ∧ j ≤ n2 ∧ i = .int .i64 j ∧ (∀ i, i < j → byteAt l1 i = byteAt l2 i) ∧ Fr [] w wr) (fun i _ => n1 - (intOf i).toNat)
  case atStart => exact ⟨0, by omega, by omega, rfl, (fun i hi => by omega), Fr.refl _ _⟩
  case round =>
    obtain ⟨j, hj1, hj2, rfl, hEq, fr⟩ := hrel
    have HE : Hid (∀ i, i < j → byteAt l1 i = byteAt l2 i) := hEq
    clear hEq
    have hj0 : (0 : Int) ≤ (j : Int) := by omega
    by_cases hl : j < n1 ∧ j < n2
    · obtain ⟨hl1, hl2⟩ := hl
      have e1 : (j : Int) < (n1 : Int) := by omega
      have e2 : (j : Int) < (n2 : Int) := by omega
      have d1 : decide ((j : Int) < (n1 : Int)) = true := by simp; omega
      obtain ⟨x1, o1, rfl, q1⟩ := (b1.kept fr (by simp)).at j (by rw [H1.out]; exact hl1)
      obtain ⟨x2, o2, rfl, q2⟩ := (b2.kept fr (by simp)).at j (by rw [H2.out]; exact hl2)
      by_cases heq : byteAt l1 j = byteAt l2 j
      · have HQ : Hid (byteAt l1 j = byteAt l2 j) := heq
        rw [heq] at q1
        clear heq
        generalize ((byteAt l2 j).toNat : Int) = v at q1 q2
        go_wp2_with fail
        go_quiet (fail)
        go_wp2_with fail
        refine ⟨⟨j + 1, by omega, by omega, by go_num, ?_, fr.drewN _⟩, by simp [intOf]; omega⟩
        intro i hi
        by_cases e : i = j
        · rw [e]; exact HQ.out
        · exact HE.out i (by omega)
      · have hne : ¬ (byteAt l1 j).toNat = (byteAt l2 j).toNat := fun e => heq (UInt8.toNat_inj.1 e)
        by_cases hlt : byteAt l1 j < byteAt l2 j
        · have hc : Hid (compareBytes l1 l2 = -1) := cb_lt j l1 l2 (by rw [H1.out]; exact hl1) (by rw [H2.out]; exact hl2) HE.out hlt
          rw [UInt8.lt_iff_toNat_lt] at hlt
          have g1 : (((byteAt l1 j).toNat : Nat) : Int) < (((byteAt l2 j).toNat : Nat) : Int) := by omega
          have g2 : ((((byteAt l1 j).toNat : Nat) : Int) == (((byteAt l2 j).toNat : Nat) : Int)) = false := by simp; omega
          have g3 : ((((byteAt l1 j).toNat : Nat) : Int) != (((byteAt l2 j).toNat : Nat) : Int)) = true := by simp; omega
          clear hne hlt heq
          generalize ((byteAt l1 j).toNat : Int) = v1 at q1 g1 g2 g3
          generalize ((byteAt l2 j).toNat : Int) = v2 at q2 g1 g2 g3
          go_wp2_with fail
          go_quiet (fail)
          go_wp2_with fail
          go_quiet (fail)
          go_wp2_with fail
          go_ret
          exact ⟨by rw [hc.out]; rfl, (fr.drewN _).drewN _⟩
        · have hgt : byteAt l2 j < byteAt l1 j := by rw [UInt8.lt_iff_toNat_lt] at hlt ⊢; omega
          have hc : Hid (compareBytes l1 l2 = 1) := by
            show _ = _
            rw [cb_sym l2 l1, cb_lt j l2 l1 (by rw [H2.out]; exact hl2) (by rw [H1.out]; exact hl1) (fun i hi => (HE.out i hi).symm) hgt]
            rfl
          rw [UInt8.lt_iff_toNat_lt] at hlt
          have g1 : decide ((((byteAt l1 j).toNat : Nat) : Int) < (((byteAt l2 j).toNat : Nat) : Int)) = false := by simp; omega
          have g2 : ((((byteAt l1 j).toNat : Nat) : Int) == (((byteAt l2 j).toNat : Nat) : Int)) = false := by simp; omega
          have g3 : ((((byteAt l1 j).toNat : Nat) : Int) != (((byteAt l2 j).toNat : Nat) : Int)) = true := by simp; omega
          clear hne hlt heq hgt
          have g1' : decide (j < n1) = true := by simp; omega
          generalize ((byteAt l1 j).toNat : Int) = v1 at q1 g1 g2 g3
          generalize ((byteAt l2 j).toNat : Int) = v2 at q2 g1 g2 g3
          go_wp2_with fail
          go_quiet (fail)
          go_wp2_with fail
          go_quiet (fail)
          go_wp2_with fail
          go_ret
          exact ⟨by rw [hc.out]; rfl, (fr.drewN _).drewN _⟩
    · have hend := cb_end l1 l2 j (by rw [H1.out, H2.out]; omega) (by rw [H1.out]; exact hj1) (by rw [H2.out]; exact hj2) HE.out
      rw [H1.out, H2.out] at hend
      have HC : Hid (compareBytes l1 l2 = if n1 < n2 then -1 else if n2 < n1 then 1 else 0) := hend
      clear hend
      have hstop : (decide ((j : Int) < (n1 : Int)) && decide ((j : Int) < (n2 : Int))) = false := by
        simp
        omega
      rcases Nat.lt_trichotomy n1 n2 with hc | hc | hc
      · have d1 : decide ((j : Int) < (n1 : Int)) = false := by simp; omega
        have d1' : decide (j < n1) = false := by simp; omega
        have d2 : (n1 : Int) < (n2 : Int) := by omega
        have hR : Hid (compareBytes l1 l2 = -1) := by show _ = _; rw [HC.out, if_pos hc]
        clear hl hstop hj1 hj2 hc
        go_wp2_with fail
        go_ret
        exact ⟨by rw [hR.out]; rfl, fr⟩
      · subst hc
        have hc := Nat.le_refl n1
        have d1 : decide ((j : Int) < (n1 : Int)) = false := by simp; omega
        have d1' : decide (j < n1) = false := by simp; omega
        have hR : Hid (compareBytes l1 l2 = 0) := by show _ = _; rw [HC.out, if_neg (Nat.lt_irrefl _), if_neg (Nat.lt_irrefl _)]
        clear hl hstop hj1 hj2 hc
        go_wp2_with fail
        go_ret
        exact ⟨by rw [hR.out]; rfl, fr⟩
      · have hR : Hid (compareBytes l1 l2 = 1) := by show _ = _; rw [HC.out, if_neg (by omega), if_pos hc]
        have d2 : decide ((n1 : Int) < (n2 : Int)) = false := by simp; omega
        have d2' : decide (n1 < n2) = false := by simp; omega
        have d3 : decide ((n2 : Int) < (n1 : Int)) = true := by simp; omega
        have d3' : decide (n2 < n1) = true := by simp; omega
        have d1 : decide ((j : Int) < (n1 : Int)) = true := by simp; omega
        have d1' : decide (j < n1) = true := by simp; omega
        have d4 : decide ((j : Int) < (n2 : Int)) = false := by simp; omega
        have d4' : decide (j < n2) = false := by simp; omega
        clear hl hstop hj1 hj2 hc
        go_wp2_with fail
        go_ret
        exact ⟨by rw [hR.out]; rfl, fr⟩

end Go.Proofs.Ytdkleigkkndecaa
