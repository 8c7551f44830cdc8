/-
  rise: from the node right ahead up to a Parent.
-/
import Derived.Test.YtdfgmdddnehocabGreatDoorTBase
namespace Go.Proofs.YtdfgmdddnehocabGreatDoor
open Go.RowKit Go.Maps

set_option maxHeartbeats 4000000 in
set_option maxRecDepth 100000 in
theorem rise_any (w : World) (b off c : Nat) (t : List Nd) (hN : NodesIn w b off t) (k : Nat) (hk : k < t.length) (hl : t.length ≤ 16384) (hO : ∀ j, j < k → Ord t j) :
    Calls Tryz.prog 54 #[.slice (some ⟨b, off, none⟩) t.length c, .int .i64 (k : Int)] w fun e w' => ∃ left : Nat, e = .returned (.tuple #[.int .i64 (left : Int), .bool (ordB t k)]) ∧ LeftIs t k left ∧ Fr [] w w' := by
  have hk' : (k : Int) < (t.length : Int) := by omega
  obtain ⟨c0, c1, c2, c3⟩ := hN k hk
  clear c0 c1 c2
  obtain ⟨T, hT⟩ : ∃ T, par t k = T := ⟨_, rfl⟩
  rw [hT] at c3
  have HT := Hid.mk hT
  have HO := Hid.mk hO
  have HN := Hid.mk hN
  clear hO hN hT
  by_cases h1 : T < -1
  · go_enter Tryz.func54, Tryz.ntmps54
    go_wp2
    go_ret2
    have hno : ¬ Ord t k := fun o => by have := o.1; rw [HT.out] at this; omega
    exact ⟨0, by rw [ordB_no hno]; rfl, fun o => absurd o hno, Fr.refl _ _⟩
  · have H0 : Hid (Opn t ((k : Int) - 1) k) := opn_start t k
    go_enter Tryz.func54, Tryz.ntmps54
    go_wp2
    go_loopw [4, 7] (fun s4 s7 wr => ∃ (left : Nat) (u : Int), s4 = .int .i64 (left : Int) ∧ s7 = .int .i64 u ∧ wr = w ∧ -1 ≤ u ∧ (left : Int) + u ≤ (k : Int) ∧ Hid (Opn t u k) ∧ Hid (Ord t k → T ≤ u) ∧ Hid (left + depI t u = depI t ((k : Int) - 1))) (fun _ s7 _ => (RowKit.intOf s7 + 1).toNat)
    case atStart => exact ⟨0, (k : Int) - 1, rfl, rfl, rfl, by omega, by omega, H0, (fun o => by have := o.2.1; rw [HT.out] at this; omega), Nat.zero_add _⟩
    case round =>
      obtain ⟨left, u, rfl, rfl, rfl, hu1, hlu, hOp, hTu, hD⟩ := hrel
      by_cases hgt : T < u
      · obtain ⟨m, rfl⟩ : ∃ m : Nat, u = (m : Int) := ⟨u.toNat, by omega⟩
        have hmk : m < k := by have := hOp.out.1; omega
        have hm' : (m : Int) < (t.length : Int) := by omega
        have hm0 : (0 : Int) ≤ (m : Int) := by omega
        obtain ⟨d0, d1, d2, d3⟩ := HN.out m (by omega)
        have om := HO.out m hmk
        have HU : Hid (Opn t (par t m) k) := opn_up HO.out hOp.out
        have HV : Hid (Ord t k → T ≤ par t m) := fun o => by
          have := o.2.2 m hmk (by rw [HT.out]; exact hgt)
          rw [HT.out] at this
          exact this
        have hpm := om.2.1
        have hp1 := om.1
        have HD : Hid (left + ((if knd t m = 2 then 1 else 0) + depI t (par t m)) = depI t ((k : Int) - 1)) := by
          have := hD.out
          rw [depI_nat, dep_eq om] at this
          exact this
        generalize knd t m = K at d0 HD
        obtain ⟨p, hp⟩ : ∃ p, par t m = p := ⟨_, rfl⟩
        rw [hp] at d3 HU HV HD hpm hp1
        clear om hp d1 d2 hD hTu hOp
        by_cases hK : K = 2
        · subst hK
          go_wp2
          exact ⟨⟨left + 1, p, by go_num, rfl, trivial, hp1, by omega, HU, HV, by have := HD.out; rw [if_pos rfl] at this; show _ = _; omega⟩, by simp [RowKit.intOf]; omega⟩
        · have hKb : (((K : Nat) : Int) == 2) = false := by rw [beq_eq_false_iff_ne]; omega
          go_wp2
          exact ⟨⟨left, p, rfl, rfl, trivial, hp1, by omega, HU, HV, by have := HD.out; rw [if_neg hK] at this; show _ = _; omega⟩, by simp [RowKit.intOf]; omega⟩
      · go_wp2
        go_ret2
        by_cases e : u = T
        · subst e
          have ho : Ord t k := (ord_iff t k).2 ⟨by rw [HT.out]; exact hu1, by rw [HT.out]; exact hOp.out⟩
          exact ⟨left, by rw [ordB_yes ho, show (true : Bool) = (u == u) by simp]; rfl, fun _ => by rw [HT.out]; exact hD.out, Fr.refl _ _⟩
        · have hno : ¬ Ord t k := fun o => by have := hTu.out o; omega
          exact ⟨left, by rw [ordB_no hno, show (false : Bool) = (u == T) by simp [e]]; rfl, fun o => absurd o hno, Fr.refl _ _⟩
end Go.Proofs.YtdfgmdddnehocabGreatDoor
