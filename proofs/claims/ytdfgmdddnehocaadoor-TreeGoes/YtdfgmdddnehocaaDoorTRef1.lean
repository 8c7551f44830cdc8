/-
  The document's own answer: in order, parents, how deep.
-/
import Derived.Test.YtdfgmdddnehocaaDoorTAwake
import Derived.Test.YtdfgmdddnehocaaDoorTRefM
namespace Go.Proofs.YtdfgmdddnehocaaDoor
open Go.RowKit Go.Maps Go.Lib

def ordsTo (t : List Nd) : Nat → Bool
  | 0 => true
  | n + 1 => ordsTo t n && ordB t n
theorem ordsTo_iff (t : List Nd) : ∀ n, ordsTo t n = true ↔ ∀ i, i < n → Ord t i
  | 0 => ⟨fun _ i hi => by omega, fun _ => rfl⟩
  | n + 1 => by
    have ih := ordsTo_iff t n
    unfold ordsTo
    rw [Bool.and_eq_true, ih]
    constructor
    · intro h i hi
      by_cases e : i = n
      · subst e; exact of_decide_eq_true h.2
      · exact h.1 i (by omega)
    · intro h
      exact ⟨fun i hi => h i (by omega), ordB_yes (h n (by omega))⟩
theorem ords_no {t : List Nd} {i : Nat} (hi : i < t.length) (h : ¬ Ord t i) : ordsTo t t.length = false := by
  cases hg : ordsTo t t.length with
  | false => rfl
  | true => exact absurd ((ordsTo_iff t _).1 hg i hi) h
set_option maxHeartbeats 4000000 in
set_option maxRecDepth 100000 in
theorem refOrd_some (w : World) (b off c : Nat) (t : List Nd) (hN : NodesIn w b off t) (hl : t.length ≤ 16384) :
    Calls Tryd.prog 48 #[.slice (some ⟨b, off, none⟩) t.length c] w fun e w' => e = .returned (.bool (ordsTo t t.length)) ∧ w' = w := by
  have HN := Hid.mk hN
  obtain ⟨R, HR⟩ : ∃ R, Hid (ordsTo t t.length = R) := ⟨_, rfl⟩
  rw [HR.out]
  clear hN
  go_enter Tryd.func48, Tryd.ntmps48
  go_wp2
  go_loopw [3] (fun s3 wr => ∃ i : Nat, s3 = .int .i64 (i : Int) ∧ i ≤ t.length ∧ w = wr ∧ Hid (∀ j, j < i → Ord t j)) (fun s3 _ => t.length - (RowKit.intOf s3).toNat)
  case atStart => exact ⟨0, rfl, Nat.zero_le _, rfl, fun j hj => absurd hj (Nat.not_lt_zero _)⟩
  case round =>
    obtain ⟨i, rfl, hil, rfl, hO⟩ := hrel
    have hi0 : (0 : Int) ≤ (i : Int) := by omega
    by_cases hlt : i < t.length
    · have hlt' : (i : Int) < (t.length : Int) := by omega
      obtain ⟨c0, c1, c2, c3⟩ := HN.out i hlt
      obtain ⟨T, hT⟩ : ∃ T, par t i = T := ⟨_, rfl⟩
      rw [hT] at c3
      have HT := Hid.mk hT
      have H0 : Hid (Opn t ((i : Int) - 1) i) := opn_start t i
      clear c0 c1 c2 hT
      go_wp2
      go_loopw [4] (fun s4 wr => ∃ u : Int, s4 = .int .i64 u ∧ w = wr ∧ -1 ≤ u ∧ u < (i : Int) ∧ Hid (Opn t u i) ∧ Hid (Ord t i → T ≤ u)) (fun s4 _ => (RowKit.intOf s4 + 1).toNat)
      case atStart => exact ⟨(i : Int) - 1, rfl, rfl, by omega, by omega, H0, (fun o => by have := o.2.1; rw [HT.out] at this; omega)⟩
      case round =>
        obtain ⟨u, rfl, rfl, hu1, hui, hOp, hTu⟩ := hrel
        by_cases e : u = T
        · subst e
          have ho : Ord t i := (ord_iff t i).2 ⟨by rw [HT.out]; exact hu1, by rw [HT.out]; exact hOp.out⟩
          have HO' : Hid (∀ j, j < i + 1 → Ord t j) := fun j hj => by
            by_cases ej : j = i
            · subst ej; exact ho
            · exact hO.out j (by omega)
          clear ho
          go_wp2
          exact ⟨⟨i + 1, by go_num, by omega, trivial, HO'⟩, by simp [RowKit.intOf]; omega⟩
        · have eb : (u != T) = true := by rw [bne_iff_ne]; exact e
          by_cases h0 : u < 0
          · have hno : ¬ Ord t i := fun o => by
              have h1 := hTu.out o
              have h2 := o.1
              rw [HT.out] at h2
              omega
            have hR : false = R := by rw [← HR.out, ords_no hlt hno]
            subst hR
            clear hno e
            go_wp2
            go_ret
            exact ⟨rfl, by first | rfl | trivial⟩
          · obtain ⟨m, rfl⟩ : ∃ m : Nat, u = (m : Int) := ⟨u.toNat, by omega⟩
            have hmi : m < i := by omega
            have hm' : (m : Int) < (t.length : Int) := by omega
            have hm0 : (0 : Int) ≤ (m : Int) := by omega
            obtain ⟨d0, d1, d2, d3⟩ := HN.out m (by omega)
            have om := hO.out m hmi
            have HU : Hid (Opn t (par t m) i) := opn_up hO.out hOp.out
            have HV : Hid (Ord t i → T ≤ par t m) := fun o => by
              have h1 := hTu.out o
              have := o.2.2 m hmi (by rw [HT.out]; omega)
              rw [HT.out] at this
              exact this
            have hpm := om.2.1
            have hp1 := om.1
            obtain ⟨p, hp⟩ : ∃ p, par t m = p := ⟨_, rfl⟩
            rw [hp] at d3 HU HV hpm hp1
            clear om hp d0 d1 d2 hTu hOp e
            go_wp2
            exact ⟨⟨p, rfl, trivial, hp1, by omega, HU, HV⟩, by simp [RowKit.intOf]; omega⟩
    · obtain rfl : i = t.length := by omega
      have hR : true = R := by rw [← HR.out]; exact ((ordsTo_iff t _).2 hO.out).symm
      subst hR
      go_wp2
      go_ret
      exact ⟨rfl, by first | rfl | trivial⟩
theorem refParent_any (w : World) (b off c : Nat) (t : List Nd) (hN : NodesIn w b off t) (i : Nat) (hi : i < t.length) (o : Ord t i) :
    Calls Tryd.prog 62 #[.slice (some ⟨b, off, none⟩) t.length c, .int .i64 (i : Int)] w fun e w' => e = .returned (.int .u8 (upK t i : Nat)) ∧ w' = w := by
  have hi' : (i : Int) < (t.length : Int) := by omega
  have hi0 : (0 : Int) ≤ (i : Int) := by omega
  obtain ⟨c0, c1, c2, c3⟩ := hN i hi
  have o2 := o.2.1
  unfold upK
  by_cases h0 : par t i < 0
  · rw [if_pos h0]
    generalize par t i = p at c3 h0
    clear hN c0 c1 c2 o o2
    go_enter Tryd.func62, Tryd.ntmps62
    go_wp2
    go_ret
    exact ⟨rfl, by first | rfl | trivial⟩
  · rw [if_neg h0]
    obtain ⟨m, hm⟩ : ∃ m : Nat, par t i = (m : Int) := ⟨(par t i).toNat, by omega⟩
    rw [hm] at c3 o2 ⊢
    rw [Int.toNat_natCast]
    obtain ⟨d0, d1, d2, d3⟩ := hN m (by omega)
    have hm' : (m : Int) < (t.length : Int) := by omega
    have hm0 : (0 : Int) ≤ (m : Int) := by omega
    have hmn : ¬ (m : Int) < 0 := by omega
    generalize knd t m = K at d0
    clear hN c0 c1 c2 o d1 d2 d3 h0 hm
    go_enter Tryd.func62, Tryd.ntmps62
    go_wp2
    go_ret
    exact ⟨rfl, by first | rfl | trivial⟩
set_option maxHeartbeats 4000000 in
set_option maxRecDepth 100000 in
theorem refDeep_any (w : World) (b off c : Nat) (t : List Nd) (hN : NodesIn w b off t) (hl : t.length ≤ 16384) (i : Nat) (hi : i < t.length) (hO : ∀ j, j ≤ i → Ord t j) :
    Calls Tryd.prog 53 #[.slice (some ⟨b, off, none⟩) t.length c, .int .i64 (i : Int)] w fun e w' => e = .returned (.int .i64 (dep t i : Nat)) ∧ w' = w := by
  have HN := Hid.mk hN
  have HO := Hid.mk hO
  obtain ⟨R, HR⟩ : ∃ R, Hid (dep t i = R) := ⟨_, rfl⟩
  rw [HR.out]
  clear hN hO
  go_enter Tryd.func53, Tryd.ntmps53
  go_wp2
  go_loopw [5, 6] (fun s5 s6 wr => ∃ (n : Nat) (u : Int), s5 = .int .i64 (n : Int) ∧ s6 = .int .i64 u ∧ wr = w ∧ u ≤ (i : Int) ∧ (n : Int) + u ≤ (i : Int) ∧ -1 ≤ u ∧ Hid (n + depI t u = R)) (fun _ s6 _ => (RowKit.intOf s6 + 1).toNat)
  case atStart => exact ⟨0, (i : Int), rfl, rfl, rfl, by omega, by omega, by omega, (by show 0 + depI t (i : Int) = R; rw [depI_nat, Nat.zero_add]; exact HR.out)⟩
  case round =>
    obtain ⟨n, u, rfl, rfl, rfl, hui, hnu, hu1, hD⟩ := hrel
    by_cases h0 : u < 0
    · have h0' : ¬ (0 : Int) ≤ u := by omega
      have e : n = R := by have := hD.out; rw [depI_neg t u h0] at this; exact this
      subst e
      go_wp2
      go_ret
      exact ⟨rfl, by first | rfl | trivial⟩
    · have h0' : (0 : Int) ≤ u := by omega
      obtain ⟨m, rfl⟩ : ∃ m : Nat, u = (m : Int) := ⟨u.toNat, by omega⟩
      have hm' : (m : Int) < (t.length : Int) := by omega
      obtain ⟨d0, d1, d2, d3⟩ := HN.out m (by omega)
      have om := HO.out m (by omega)
      have HD : Hid (n + ((if knd t m = 2 then 1 else 0) + depI t (par t m)) = R) := by
        have := hD.out
        rw [depI_nat, dep_eq om] at this
        exact this
      have hpm := om.2.1
      have hp1 := om.1
      generalize knd t m = K at d0 HD
      obtain ⟨p, hp⟩ : ∃ p, par t m = p := ⟨_, rfl⟩
      rw [hp] at d3 HD hpm hp1
      clear om hp d1 d2 hD
      by_cases hK : K = 2
      · subst hK
        go_wp2
        exact ⟨⟨n + 1, p, by go_num, rfl, trivial, by omega, by omega, hp1, by have := HD.out; rw [if_pos rfl] at this; show _ = _; omega⟩, by simp [RowKit.intOf]; omega⟩
      · have hKb : (((K : Nat) : Int) == 2) = false := by rw [beq_eq_false_iff_ne]; omega
        go_wp2
        exact ⟨⟨n, p, rfl, rfl, trivial, by omega, by omega, hp1, by have := HD.out; rw [if_neg hK] at this; show _ = _; omega⟩, by simp [RowKit.intOf]; omega⟩
end Go.Proofs.YtdfgmdddnehocaaDoor
