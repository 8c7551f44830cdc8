/-
  The document's own answer: does a node fit?
-/
import Derived.Test.YtjdcfaaoicnajaaDoorTAwake
import Derived.Test.YtjdcfaaoicnajaaDoorTRefM
import Derived.Test.YtjdcfaaoicnajaaDoorTOpen
namespace Go.Proofs.YtjdcfaaoicnajaaDoor
open Go.RowKit Go.Maps Go.Lib

def ordsTo (t : List Nd) : Nat → Bool
  | 0 => true
  | n + 1 => ordsTo t n && ordB t n
theorem ordsTo_iff (t : List Nd) : ∀ n, ordsTo t n = true ↔ ∀ i, i < n → Ord t i
  | 0 => ⟨fun _ i hi => by omega, fun _ => rfl⟩
  | n + 1 => by
    have ih := ordsTo_iff t n
    unfold ordsTo
    rw [Bool.and_eq_true, ih]
    constructor
    · intro h i hi
      by_cases e : i = n
      · subst e; exact of_decide_eq_true h.2
      · exact h.1 i (by omega)
    · intro h
      exact ⟨fun i hi => h i (by omega), ordB_yes (h n (by omega))⟩
theorem ords_no {t : List Nd} {i : Nat} (hi : i < t.length) (h : ¬ Ord t i) : ordsTo t t.length = false := by
  cases hg : ordsTo t t.length with
  | false => rfl
  | true => exact absurd ((ordsTo_iff t _).1 hg i hi) h
set_option maxHeartbeats 4000000 in
set_option maxRecDepth 100000 in
theorem refOrd_some (w : World) (b off c : Nat) (t : List Nd) (hN : NodesIn w b off t) (hl : t.length ≤ 16384) :
    Calls Tryd.prog 44 #[.slice (some ⟨b, off, none⟩) t.length c] w fun e w' => e = .returned (.bool (ordsTo t t.length)) ∧ w' = w := by
  have HN := Hid.mk hN
  obtain ⟨R, HR⟩ : ∃ R, Hid (ordsTo t t.length = R) := ⟨_, rfl⟩
  rw [HR.out]
  clear hN
  go_enter Tryd.func44, Tryd.ntmps44
  go_wp2
  go_loopw [3] (fun s3 wr => ∃ i : Nat, s3 = .int .i64 (i : Int) ∧ i ≤ t.length ∧ w = wr ∧ Hid (∀ j, j < i → Ord t j)) (fun s3 _ => t.length - (RowKit.intOf s3).toNat)
  case atStart => exact ⟨0, rfl, Nat.zero_le _, rfl, fun j hj => absurd hj (Nat.not_lt_zero _)⟩
  case round =>
    obtain ⟨i, rfl, hil, rfl, hO⟩ := hrel
    have hi0 : (0 : Int) ≤ (i : Int) := by omega
    by_cases hlt : i < t.length
    · have hlt' : (i : Int) < (t.length : Int) := by omega
      obtain ⟨c0, c1, c2, c3⟩ := HN.out i hlt
      obtain ⟨T, hT⟩ : ∃ T, par t i = T := ⟨_, rfl⟩
      rw [hT] at c3
      have HT := Hid.mk hT
      have H0 : Hid (Opn t ((i : Int) - 1) i) := opn_start t i
      clear c0 c1 c2 hT
      go_wp2
      go_loopw [4] (fun s4 wr => ∃ u : Int, s4 = .int .i64 u ∧ w = wr ∧ -1 ≤ u ∧ u < (i : Int) ∧ Hid (Opn t u i) ∧ Hid (Ord t i → T ≤ u)) (fun s4 _ => (RowKit.intOf s4 + 1).toNat)
      case atStart => exact ⟨(i : Int) - 1, rfl, rfl, by omega, by omega, H0, (fun o => by have := o.2.1; rw [HT.out] at this; omega)⟩
      case round =>
        obtain ⟨u, rfl, rfl, hu1, hui, hOp, hTu⟩ := hrel
        by_cases e : u = T
        · subst e
          have ho : Ord t i := (ord_iff t i).2 ⟨by rw [HT.out]; exact hu1, by rw [HT.out]; exact hOp.out⟩
          have HO' : Hid (∀ j, j < i + 1 → Ord t j) := fun j hj => by
            by_cases ej : j = i
            · subst ej; exact ho
            · exact hO.out j (by omega)
          clear ho
          go_wp2
          exact ⟨⟨i + 1, by go_num, by omega, trivial, HO'⟩, by simp [RowKit.intOf]; omega⟩
        · have eb : (u != T) = true := by rw [bne_iff_ne]; exact e
          by_cases h0 : u < 0
          · have hno : ¬ Ord t i := fun o => by
              have h1 := hTu.out o
              have h2 := o.1
              rw [HT.out] at h2
              omega
            have hR : false = R := by rw [← HR.out, ords_no hlt hno]
            subst hR
            clear hno e
            go_wp2
            go_ret
            exact ⟨rfl, by first | rfl | trivial⟩
          · obtain ⟨m, rfl⟩ : ∃ m : Nat, u = (m : Int) := ⟨u.toNat, by omega⟩
            have hmi : m < i := by omega
            have hm' : (m : Int) < (t.length : Int) := by omega
            have hm0 : (0 : Int) ≤ (m : Int) := by omega
            obtain ⟨d0, d1, d2, d3⟩ := HN.out m (by omega)
            have om := hO.out m hmi
            have HU : Hid (Opn t (par t m) i) := opn_up hO.out hOp.out
            have HV : Hid (Ord t i → T ≤ par t m) := fun o => by
              have h1 := hTu.out o
              have := o.2.2 m hmi (by rw [HT.out]; omega)
              rw [HT.out] at this
              exact this
            have hpm := om.2.1
            have hp1 := om.1
            obtain ⟨p, hp⟩ : ∃ p, par t m = p := ⟨_, rfl⟩
            rw [hp] at d3 HU HV hpm hp1
            clear om hp d0 d1 d2 hTu hOp e
            go_wp2
            exact ⟨⟨p, rfl, trivial, hp1, by omega, HU, HV⟩, by simp [RowKit.intOf]; omega⟩
    · obtain rfl : i = t.length := by omega
      have hR : true = R := by rw [← HR.out]; exact ((ordsTo_iff t _).2 hO.out).symm
      subst hR
      go_wp2
      go_ret
      exact ⟨rfl, by first | rfl | trivial⟩
theorem refParent_any (w : World) (b off c : Nat) (t : List Nd) (hN : NodesIn w b off t) (i : Nat) (hi : i < t.length) (o : Ord t i) :
    Calls Tryd.prog 51 #[.slice (some ⟨b, off, none⟩) t.length c, .int .i64 (i : Int)] w fun e w' => e = .returned (.int .u8 (upK t i : Nat)) ∧ w' = w := by
  have hi' : (i : Int) < (t.length : Int) := by omega
  have hi0 : (0 : Int) ≤ (i : Int) := by omega
  obtain ⟨c0, c1, c2, c3⟩ := hN i hi
  have o2 := o.2.1
  unfold upK
  by_cases h0 : par t i < 0
  · rw [if_pos h0]
    generalize par t i = p at c3 h0
    clear hN c0 c1 c2 o o2
    go_enter Tryd.func51, Tryd.ntmps51
    go_wp2
    go_ret
    exact ⟨rfl, by first | rfl | trivial⟩
  · rw [if_neg h0]
    obtain ⟨m, hm⟩ : ∃ m : Nat, par t i = (m : Int) := ⟨(par t i).toNat, by omega⟩
    rw [hm] at c3 o2 ⊢
    rw [Int.toNat_natCast]
    obtain ⟨d0, d1, d2, d3⟩ := hN m (by omega)
    have hm' : (m : Int) < (t.length : Int) := by omega
    have hm0 : (0 : Int) ≤ (m : Int) := by omega
    have hmn : ¬ (m : Int) < 0 := by omega
    generalize knd t m = K at d0
    clear hN c0 c1 c2 o d1 d2 d3 h0 hm
    go_enter Tryd.func51, Tryd.ntmps51
    go_wp2
    go_ret
    exact ⟨rfl, by first | rfl | trivial⟩
set_option maxHeartbeats 4000000 in
set_option maxRecDepth 100000 in
theorem refDeep_any (w : World) (b off c : Nat) (t : List Nd) (hN : NodesIn w b off t) (hl : t.length ≤ 16384) (i : Nat) (hi : i < t.length) (hO : ∀ j, j ≤ i → Ord t j) :
    Calls Tryd.prog 46 #[.slice (some ⟨b, off, none⟩) t.length c, .int .i64 (i : Int)] w fun e w' => e = .returned (.int .i64 (dep t i : Nat)) ∧ w' = w := by
  have HN := Hid.mk hN
  have HO := Hid.mk hO
  obtain ⟨R, HR⟩ : ∃ R, Hid (dep t i = R) := ⟨_, rfl⟩
  rw [HR.out]
  clear hN hO
  go_enter Tryd.func46, Tryd.ntmps46
  go_wp2
  go_loopw [5, 6] (fun s5 s6 wr => ∃ (n : Nat) (u : Int), s5 = .int .i64 (n : Int) ∧ s6 = .int .i64 u ∧ wr = w ∧ u ≤ (i : Int) ∧ (n : Int) + u ≤ (i : Int) ∧ -1 ≤ u ∧ Hid (n + depI t u = R)) (fun _ s6 _ => (RowKit.intOf s6 + 1).toNat)
  case atStart => exact ⟨0, (i : Int), rfl, rfl, rfl, by omega, by omega, by omega, (by show 0 + depI t (i : Int) = R; rw [depI_nat, Nat.zero_add]; exact HR.out)⟩
  case round =>
    obtain ⟨n, u, rfl, rfl, rfl, hui, hnu, hu1, hD⟩ := hrel
    by_cases h0 : u < 0
    · have h0' : ¬ (0 : Int) ≤ u := by omega
      have e : n = R := by have := hD.out; rw [depI_neg t u h0] at this; exact this
      subst e
      go_wp2
      go_ret
      exact ⟨rfl, by first | rfl | trivial⟩
    · have h0' : (0 : Int) ≤ u := by omega
      obtain ⟨m, rfl⟩ : ∃ m : Nat, u = (m : Int) := ⟨u.toNat, by omega⟩
      have hm' : (m : Int) < (t.length : Int) := by omega
      obtain ⟨d0, d1, d2, d3⟩ := HN.out m (by omega)
      have om := HO.out m (by omega)
      have HD : Hid (n + ((if knd t m = 2 then 1 else 0) + depI t (par t m)) = R) := by
        have := hD.out
        rw [depI_nat, dep_eq om] at this
        exact this
      have hpm := om.2.1
      have hp1 := om.1
      generalize knd t m = K at d0 HD
      obtain ⟨p, hp⟩ : ∃ p, par t m = p := ⟨_, rfl⟩
      rw [hp] at d3 HD hpm hp1
      clear om hp d1 d2 hD
      by_cases hK : K = 2
      · subst hK
        go_wp2
        exact ⟨⟨n + 1, p, by go_num, rfl, trivial, by omega, by omega, hp1, by have := HD.out; rw [if_pos rfl] at this; show _ = _; omega⟩, by simp [RowKit.intOf]; omega⟩
      · have hKb : (((K : Nat) : Int) == 2) = false := by rw [beq_eq_false_iff_ne]; omega
        go_wp2
        exact ⟨⟨n, p, rfl, rfl, trivial, by omega, by omega, hp1, by have := HD.out; rw [if_neg hK] at this; show _ = _; omega⟩, by simp [RowKit.intOf]; omega⟩
end Go.Proofs.YtjdcfaaoicnajaaDoor

namespace Go.Proofs.YtjdcfaaoicnajaaDoor
open Go.RowKit Go.Maps Go.Lib

set_option maxHeartbeats 4000000 in
set_option maxRecDepth 100000 in
theorem refSib_any (w : World) (b off c : Nat) (t : List Nd) (hN : NodesIn w b off t) (hl : t.length ≤ 16384) (i : Nat) (hi : i < t.length) (o : Ord t i) :
    Calls Tryd.prog 55 #[.slice (some ⟨b, off, none⟩) t.length c, .int .i64 (i : Int)] w fun e w' => (∃ s : Int, e = .returned (.int .i64 s) ∧ SibIs t i s ∧ -1 ≤ s ∧ s < (i : Int)) ∧ Fr [] w w' := by
  have HN := Hid.mk hN
  have hi' : (i : Int) < (t.length : Int) := by omega
  have hi0 : (0 : Int) ≤ (i : Int) := by omega
  have o1 := o.1
  have o2 := o.2.1
  obtain ⟨P, hP⟩ : ∃ P, par t i = P := ⟨_, rfl⟩
  rw [hP] at o1 o2
  have HP := Hid.mk hP
  clear hN o hP
  go_enter Tryd.func55, Tryd.ntmps55
  go_wp2
  go_loopw [5] (fun s5 wr => ∃ k : Int, s5 = .int .i64 k ∧ Hid (Fr [] w wr) ∧ P ≤ k ∧ k < (i : Int) ∧ Hid (∀ j : Nat, k < (j : Int) → j < i → ¬ (par t j = P ∧ knd t j ≠ 3))) (fun s5 _ => (RowKit.intOf s5 + 1).toNat)
  case atStart => exact ⟨(i : Int) - 1, rfl, Fr.refl _ _, by omega, by omega, (fun j h1 h2 => by omega)⟩
  case round =>
    obtain ⟨k, rfl, frh, hk1, hki, hNo⟩ := hrel
    obtain ⟨c0, c1, c2, c3⟩ := (HN.out.kept frh.out (by simp)) i hi
    rw [HP.out] at c3
    clear c0 c1 c2
    by_cases hk : k = P
    · subst hk
      have hF : Hid (SibIs t i (-1)) := ⟨fun h => by omega, fun j h1 h2 h3 => by rw [HP.out] at h2 ⊢; exact hNo.out j h2 h3⟩
      clear hNo
      go_wp2
      go_ret
      exact ⟨⟨-1, rfl, hF.out, by omega, by omega⟩, frh.out⟩
    · obtain ⟨m, rfl⟩ : ∃ m : Nat, k = (m : Int) := ⟨k.toNat, by omega⟩
      have hgt : P < (m : Int) := by omega
      have hm' : (m : Int) < (t.length : Int) := by omega
      have hm0 : (0 : Int) ≤ (m : Int) := by omega
      obtain ⟨d0, d1, d2, d3⟩ := (HN.out.kept frh.out (by simp)) m (by omega)
      obtain ⟨pk, hpk⟩ : ∃ p, par t m = p := ⟨_, rfl⟩
      obtain ⟨K, hK⟩ : ∃ K, knd t m = K := ⟨_, rfl⟩
      rw [hpk] at d3
      rw [hK] at d0
      by_cases e1 : pk = P
      · subst e1
        by_cases e2 : K = 3
        · have hS : Hid (∀ j : Nat, (m : Int) - 1 < (j : Int) → j < i → ¬ (par t j = pk ∧ knd t j ≠ 3)) := fun j h1 h2 => by
            by_cases ej : j = m
            · subst ej; rw [hK]; omega
            · exact hNo.out j (by omega) h2
          subst e2
          clear hNo hpk hK d1 d2
          go_wp2_with fail
          go_quiet (fail)
          go_wp2_with fail
          exact ⟨⟨(m : Int) - 1, rfl, frh.out.drewN _, by omega, by omega, hS⟩, by simp [RowKit.intOf]; try omega⟩
        · have hF : Hid (SibIs t i (m : Int)) := ⟨fun h => ⟨by rw [HP.out]; exact hgt, hki, by rw [Int.toNat_natCast, hpk, HP.out], by rw [Int.toNat_natCast, hK]; exact e2⟩, fun j h1 h2 h3 => by rw [HP.out]; exact hNo.out j h1 h3⟩
          have hKb : ((K : Int) != 3) = true := by rw [bne_iff_ne]; omega
          clear hNo hpk hK d1 d2 e2
          go_wp2_with fail
          go_quiet (fail)
          go_wp2_with fail
          go_ret
          exact ⟨⟨(m : Int), rfl, hF.out, by omega, by omega⟩, frh.out.drewN _⟩
      · have hS : Hid (∀ j : Nat, (m : Int) - 1 < (j : Int) → j < i → ¬ (par t j = P ∧ knd t j ≠ 3)) := fun j h1 h2 => by
          by_cases ej : j = m
          · subst ej; rw [hpk]; exact fun h => e1 h.1
          · exact hNo.out j (by omega) h2
        have hb : (pk == P) = false := by rw [beq_eq_false_iff_ne]; exact e1
        clear hNo hpk hK d1 d2 e1
        go_wp2_with fail
        go_quiet (fail)
        go_wp2_with fail
        exact ⟨⟨(m : Int) - 1, rfl, frh.out.drewN _, by omega, by omega, hS⟩, by simp [RowKit.intOf]; try omega⟩

theorem bl_inj {a b : ByteArray} (e : bl a = bl b) : a = b := by
  cases a; cases b
  congr
  exact Array.toList_inj.1 e
theorem bl_at (s : ByteArray) (k : Nat) (h : k < s.size) : (bl s).getD k 0 = s[k] := by
  have h' : k < (bl s).length := by rw [bl_length]; exact h
  simp [List.getD, h']
  rfl
theorem xml_eq (s : ByteArray) (h : s.size = 3) : xmlB (bl s) = (((((s[0]'(by omega)).toNat : Int) == 120) || (((s[0]'(by omega)).toNat : Int) == 88)) && ((((s[1]'(by omega)).toNat : Int) == 109) || (((s[1]'(by omega)).toNat : Int) == 77)) && ((((s[2]'(by omega)).toNat : Int) == 108) || (((s[2]'(by omega)).toNat : Int) == 76))) := by
  have key : ∀ (x : UInt8) (n : Nat) (hn : n < 256), (x == UInt8.ofNat n) = ((x.toNat : Int) == (n : Int)) := by
    intro x n hn
    rw [Bool.eq_iff_iff, beq_iff_eq, beq_iff_eq, ← UInt8.toNat_inj, UInt8.toNat_ofNat_of_lt' (by simpa using hn)]
    omega
  unfold xmlB
  rw [bl_length, decide_eq_true h, bl_at s 0 (by omega), bl_at s 1 (by omega), bl_at s 2 (by omega), Bool.true_and]
  have k1 : ∀ x : UInt8, (x == 120) = ((x.toNat : Int) == 120) := fun x => key x 120 (by omega)
  have k2 : ∀ x : UInt8, (x == 88) = ((x.toNat : Int) == 88) := fun x => key x 88 (by omega)
  have k3 : ∀ x : UInt8, (x == 109) = ((x.toNat : Int) == 109) := fun x => key x 109 (by omega)
  have k4 : ∀ x : UInt8, (x == 77) = ((x.toNat : Int) == 77) := fun x => key x 77 (by omega)
  have k5 : ∀ x : UInt8, (x == 108) = ((x.toNat : Int) == 108) := fun x => key x 108 (by omega)
  have k6 : ∀ x : UInt8, (x == 76) = ((x.toNat : Int) == 76) := fun x => key x 76 (by omega)
  rw [k1, k2, k3, k4, k5, k6]
set_option maxHeartbeats 4000000 in
theorem refXml_any (w : World) (s : ByteArray) :
    Calls Tryd.prog 57 #[.string s] w fun e w' => e = .returned (.bool (xmlB (bl s))) ∧ w' = w := by
  by_cases h3 : s.size = 3
  · have h3' : (s.size : Int) = 3 := by omega
    obtain ⟨R, hR⟩ : ∃ R, xmlB (bl s) = R := ⟨_, rfl⟩
    have hR' := hR
    rw [xml_eq s h3] at hR'
    rw [hR]
    have H3 := Hid.mk h3
    clear hR
    go_enter Tryd.func57, Tryd.ntmps57
    go_wp2
    all_goals
      go_ret
      subst hR'
      refine ⟨congrArg (fun b => Ending.returned (Value.bool b)) ?_, by first | rfl | trivial⟩
      simp [*]
  · have e : xmlB (bl s) = false := by unfold xmlB; rw [bl_length, decide_eq_false h3]; rfl
    rw [e]
    have h3' : ((s.size : Int) == 3) = false := by rw [beq_eq_false_iff_ne]; omega
    clear e h3
    go_enter Tryd.func57, Tryd.ntmps57
    go_wp2
    go_ret
    exact ⟨rfl, by first | rfl | trivial⟩
theorem has2_step (a b : UInt8) (l : List UInt8) (p : Nat) (h : p + 2 ≤ l.length) : has2 a b (l.drop p) = (((l.getD p 0 == a) && (l.getD (p + 1) 0 == b)) || has2 a b (l.drop (p + 1))) := by
  rw [List.drop_eq_getElem_cons (by omega : p < l.length), List.drop_eq_getElem_cons (by omega : p + 1 < l.length)]
  conv => lhs; unfold has2
  simp [List.getD, show p < l.length by omega, show p + 1 < l.length by omega]
theorem has2_end (a b : UInt8) (l : List UInt8) (p : Nat) (h : l.length < p + 2) : has2 a b (l.drop p) = false := by
  have : (l.drop p).length < 2 := by rw [List.length_drop]; omega
  match l.drop p, this with
  | [], _ => rfl
  | [_], _ => rfl
  | _ :: _ :: _, h => simp at h; omega
theorem two_eq (s T : ByteArray) (a b : UInt8) (p : Nat) (h : p + 2 ≤ s.size) (hT : T = ⟨#[a, b]⟩) : ((s.extract p (p + 2)).toList == T.toList) = (((bl s).getD p 0 == a) && ((bl s).getD (p + 1) 0 == b)) := by
  have hl : p + 2 ≤ (bl s).length := by rw [bl_length]; exact h
  have e : bl (s.extract p (p + 2)) = [(bl s).getD p 0, (bl s).getD (p + 1) 0] := by
    have e1 : s.extract p (p + 2) = mkS (((bl s).drop p).take 2) := by
      have := ByteArray.extract_mk (bl s) p (p + 2)
      rw [Nat.add_sub_cancel_left] at this
      exact this
    rw [e1, bl_mkS, List.drop_eq_getElem_cons (by omega : p < (bl s).length), List.drop_eq_getElem_cons (by omega : p + 1 < (bl s).length), List.take_succ_cons, List.take_succ_cons, List.take_zero]
    simp [List.getD, show p < (bl s).length by omega, show p + 1 < (bl s).length by omega]
  rw [toList_eq, toList_eq, e, hT]
  show ([(bl s).getD p 0, (bl s).getD (p + 1) 0] == [a, b]) = _
  simp only [List.cons_beq_cons]
  rw [show (([] : List UInt8) == []) = true from rfl, Bool.and_true]
set_option maxHeartbeats 4000000 in
theorem refHas_any (w : World) (s : ByteArray) (a b : UInt8) (hz : s.size < 140737488355328) :
    Calls Tryd.prog 56 #[.string s, .string ⟨#[a, b]⟩] w fun e w' => e = .returned (.bool (has2 a b (bl s))) ∧ w' = w := by
  obtain ⟨ANS, hA⟩ : ∃ A, has2 a b (bl s) = A := ⟨_, rfl⟩
  rw [hA]
  have HA : Hid (has2 a b ((bl s).drop 0) = ANS) := hA
  clear hA
  obtain ⟨T, hT⟩ : ∃ T : ByteArray, T = ⟨#[a, b]⟩ := ⟨_, rfl⟩
  have hTz : T.size = 2 := by rw [hT]; rfl
  have HT := Hid.mk hT
  rw [← hT]
  clear hT
  go_enter Tryd.func56, Tryd.ntmps56
  go_wp2
  go_loopw [5] (fun i wr => ∃ p : Nat, p ≤ s.size ∧ i = .int .i64 p ∧ wr = w ∧ Hid (has2 a b ((bl s).drop p) = ANS)) (fun i _ => s.size + 1 - (RowKit.intOf i).toNat)
  case atStart => exact ⟨0, by omega, rfl, rfl, HA⟩
  case round =>
    obtain ⟨p, hp, rfl, rfl, hL⟩ := hrel
    by_cases hlt : p + 2 ≤ s.size
    · have hlt' : (p : Int) + 2 ≤ (s.size : Int) := by omega
      have hp0 : (0 : Int) ≤ (p : Int) := by omega
      have e := has2_step a b (bl s) p (by rw [bl_length]; exact hlt)
      rw [hL.out, ← two_eq s T a b p hlt HT.out] at e
      clear hL
      cases hX : ((s.extract p (p + 2)).toList == T.toList) with
      | true =>
        rw [hX, Bool.true_or] at e
        subst e
        go_wp2
        go_ret
        exact ⟨rfl, by first | rfl | trivial⟩
      | false =>
        rw [hX, Bool.false_or] at e
        have HE : Hid (has2 a b ((bl s).drop (p + 1)) = ANS) := e.symm
        clear e
        go_wp2
        exact ⟨⟨p + 1, by omega, by go_num, by first | rfl | trivial, HE⟩, by simp [RowKit.intOf]; omega⟩
    · have hlt' : ¬ (p : Int) + 2 ≤ (s.size : Int) := by omega
      have hA : false = ANS := by
        have := hL.out
        rw [has2_end a b (bl s) p (by rw [bl_length]; omega)] at this
        exact this
      subst hA
      go_wp2
      go_ret
      exact ⟨rfl, by first | rfl | trivial⟩
abbrev AttrP (t : List Nd) (i : Nat) (p : Int) : Prop := ∀ j, j < i → p < (j : Int) → par t j = p ∧ knd t j = 3 ∧ nam t j ≠ nam t i
def apB (t : List Nd) (i : Nat) : Bool := decide (AttrP t i (par t i))
def attrB (t : List Nd) (i : Nat) : Bool := decide (upK t i = 2) && (nameB (bl (nam t i)) && apB t i)
set_option maxHeartbeats 4000000 in
set_option maxRecDepth 100000 in
theorem refAttr_any (w : World) (b off c : Nat) (t : List Nd) (hN : NodesIn w b off t) (hl : t.length ≤ 16384) (i : Nat) (hi : i < t.length) (o : Ord t i) :
    Calls Tryd.prog 54 #[.slice (some ⟨b, off, none⟩) t.length c, .int .i64 (i : Int)] w fun e w' => e = .returned (.bool (attrB t i)) ∧ Fr [] w w' := by
  have HN := Hid.mk hN
  have hi' : (i : Int) < (t.length : Int) := by omega
  have hi0 : (0 : Int) ≤ (i : Int) := by omega
  obtain ⟨c0, c1, c2, c3⟩ := hN i hi
  have o1 := o.1
  have o2 := o.2.1
  have cP := Hid.mk (fun w' (f : Fr [] w w') => refParent_any w' b off c t (hN.kept f (by simp)) i hi o)
  have cN := Hid.mk (fun w' => refName_any w' (nam t i))
  obtain ⟨R, HR⟩ : ∃ R, Hid (attrB t i = R) := ⟨_, rfl⟩
  rw [HR.out]
  have HR' : Hid ((decide (upK t i = 2) && (nameB (bl (nam t i)) && apB t i)) = R) := HR.out
  clear HR
  obtain ⟨P, hP⟩ : ∃ P, par t i = P := ⟨_, rfl⟩
  obtain ⟨NM, hNM⟩ : ∃ P, nam t i = P := ⟨_, rfl⟩
  rw [hP] at c3 o1 o2
  rw [hNM] at HR'
  rw [hNM] at c1 cN
  have HP := Hid.mk hP
  have HNM := Hid.mk hNM
  generalize upK t i = U at cP HR'
  generalize hNB : nameB (bl NM) = NB at cN HR'
  clear hN o c0 c2 hP hNM hNB
  by_cases hU : U = 2
  · subst hU
    cases NB with
    | true =>
      go_enter Tryd.func54, Tryd.ntmps54
      go_wp2_with (first
        | (go_at_call 51; refine (cP.out _ (Fr.refl _ _)).mono ?_; rintro e w5 ⟨rfl, h5⟩; have h5' := h5.symm; subst h5')
        | (go_at_call 53; refine (cN.out _).mono ?_; rintro e w6 ⟨rfl, h6⟩; have h6' := h6.symm; subst h6')
        | go_in)
      have HA : Hid (apB t i = R) := HR'.out
      clear HR' cP cN
      go_loopw [6] (fun s6 wr => ∃ k : Nat, s6 = .int .i64 (k : Int) ∧ Hid (Fr [] w wr) ∧ P < (k : Int) ∧ k ≤ i ∧ Hid (∀ j : Nat, j < k → P < (j : Int) → par t j = P ∧ knd t j = 3 ∧ nam t j ≠ NM)) (fun s6 _ => i - (RowKit.intOf s6).toNat)
      case atStart => exact ⟨(P + 1).toNat, by go_num, Fr.refl _ _, by omega, by omega, (fun j h1 h2 => by omega)⟩
      case round =>
        obtain ⟨k, rfl, frh, hk1, hki, hAll⟩ := hrel
        by_cases hlt : k < i
        · have hlt' : (k : Int) < (i : Int) := by omega
          have hk' : (k : Int) < (t.length : Int) := by omega
          have hk0 : (0 : Int) ≤ (k : Int) := by omega
          obtain ⟨a0, a1, a2, a3⟩ := (HN.out.kept frh.out (by simp)) i hi
          rw [HP.out] at a3
          rw [HNM.out] at a1
          obtain ⟨d0, d1, d2, d3⟩ := (HN.out.kept frh.out (by simp)) k (by omega)
          obtain ⟨pk, hpk⟩ : ∃ p, par t k = p := ⟨_, rfl⟩
          obtain ⟨K, hK⟩ : ∃ K, knd t k = K := ⟨_, rfl⟩
          obtain ⟨Nk, hNk⟩ : ∃ K, nam t k = K := ⟨_, rfl⟩
          rw [hpk] at d3
          rw [hK] at d0
          rw [hNk] at d1
          by_cases hg : pk = P ∧ K = 3 ∧ Nk ≠ NM
          · obtain ⟨rfl, rfl, hne⟩ := hg
            have hS : Hid (∀ j : Nat, j < k + 1 → pk < (j : Int) → par t j = pk ∧ knd t j = 3 ∧ nam t j ≠ NM) := fun j h1 h2 => by
              by_cases ej : j = k
              · subst ej; rw [hK, hpk, hNk]; exact ⟨rfl, rfl, hne⟩
              · exact hAll.out j (by omega) h2
            have hnb : (Nk.toList == NM.toList) = false := by
              rw [beq_eq_false_iff_ne, toList_eq, toList_eq]
              exact fun e => hne (bl_inj e)
            clear hAll hpk hK hNk a0 a2 d2 hne
            go_wp2_with fail
            go_quiet (fail)
            go_wp2_with fail
            exact ⟨⟨k + 1, by go_num, frh.out.drewN _, by omega, by omega, hS⟩, by simp [RowKit.intOf]; omega⟩
          · have hR : false = R := by
              rw [← HA.out]
              exact (decide_eq_false (fun h => hg (by have := h k hlt (by rw [HP.out]; exact hk1); rw [hpk, hK, hNk, HP.out, HNM.out] at this; exact this))).symm
            subst hR
            clear hAll hpk hK hNk a0 a2 d2
            by_cases e1 : pk = P
            · subst e1
              by_cases e2 : K = 3
              · subst e2
                have hne : Nk = NM := Classical.byContradiction fun h => hg ⟨rfl, rfl, h⟩
                subst hne
                clear hg
                go_wp2_with fail
                go_quiet (fail)
                go_wp2_with fail
                go_ret
                exact ⟨rfl, frh.out.drewN _⟩
              · have hKb : ((K : Int) != 3) = true := by rw [bne_iff_ne]; omega
                clear hg e2
                go_wp2_with fail
                go_quiet (fail)
                go_wp2_with fail
                go_ret
                exact ⟨rfl, frh.out.drewN _⟩
            · have hb : (pk != P) = true := by rw [bne_iff_ne]; exact e1
              clear hg e1
              go_wp2_with fail
              go_quiet (fail)
              go_wp2_with fail
              go_ret
              exact ⟨rfl, frh.out.drewN _⟩
        · obtain rfl : k = i := by omega
          have hR : true = R := by
            rw [← HA.out]
            exact (decide_eq_true (fun j h1 h2 => by rw [HP.out] at h2 ⊢; rw [HNM.out]; exact hAll.out j h1 h2)).symm
          subst hR
          go_wp2
          go_ret
          exact ⟨rfl, frh.out⟩
    | false =>
      go_enter Tryd.func54, Tryd.ntmps54
      go_wp2_with (first
        | (go_at_call 51; refine (cP.out _ (Fr.refl _ _)).mono ?_; rintro e w5 ⟨rfl, h5⟩; have h5' := h5.symm; subst h5')
        | (go_at_call 53; refine (cN.out _).mono ?_; rintro e w6 ⟨rfl, h6⟩; have h6' := h6.symm; subst h6')
        | go_in)
      have hR : false = R := by rw [← HR'.out]; rfl
      subst hR
      go_ret
      exact ⟨rfl, Fr.refl _ _⟩
  · have hUb : ((U : Int) != 2) = true := by rw [bne_iff_ne]; omega
    have hR : false = R := by rw [← HR'.out, decide_eq_false hU]; rfl
    subst hR
    clear HR' hU
    go_enter Tryd.func54, Tryd.ntmps54
    go_wp2_with (first
      | (go_at_call 51; refine (cP.out _ (Fr.refl _ _)).mono ?_; rintro e w5 ⟨rfl, h5⟩; have h5' := h5.symm; subst h5')
      | go_in)
    go_ret
    exact ⟨rfl, Fr.refl _ _⟩
end Go.Proofs.YtjdcfaaoicnajaaDoor

namespace Go.Proofs.YtjdcfaaoicnajaaDoor
open Go.RowKit Go.Maps Go.Lib

theorem deep_succ (t : List Nd) (i : Nat) : decide (60 < deepest t (i + 1)) = (decide (60 < deepest t i) || (decide (knd t i = 2) && decide (60 < dep t i))) := by
  rw [Bool.eq_iff_iff, Bool.or_eq_true, Bool.and_eq_true, decide_eq_true_iff, decide_eq_true_iff, decide_eq_true_iff, decide_eq_true_iff]
  show 60 < (if knd t i = 2 then max (deepest t i) (dep t i) else deepest t i) ↔ _
  by_cases h : knd t i = 2
  · rw [if_pos h]; omega
  · rw [if_neg h]; omega
theorem judged_bad {t : List Nd} {r : Bool} (hl : t.length ≤ 16384) (h : (goodB t t.length && r) = false) : judged t r = 4 := by
  unfold judged
  rw [if_neg (by omega), if_pos h]
theorem judged_good {t : List Nd} {r : Bool} (hl : t.length ≤ 16384) (h : (goodB t t.length && r) = true) : judged t r = if 60 < deepest t t.length then 131 else 0 := by
  unfold judged
  rw [if_neg (by omega), if_neg (by rw [h]; decide)]
theorem goodF_no {t : List Nd} {i : Nat} (hi : i < t.length) (h : fitB t i = false) : goodB t t.length = false := by
  cases hg : goodB t t.length with
  | false => rfl
  | true =>
    have := ((goodB_iff t _).1 hg i hi).2
    have h2 : fitB t i = true := decide_eq_true this
    rw [h] at h2
    exact absurd h2 (by decide)
def rootsB (t : List Nd) (r : Bool) : Bool := if r then oneB t else noB t
theorem roots_no {t : List Nd} {r : Bool} (h : ¬ (knd t 0 = 1 ↔ r = true)) : rootsB t r = false := by
  unfold rootsB oneB noB
  cases r with
  | true =>
    rw [if_pos rfl]
    have : ¬ knd t 0 = 1 := fun e => h ⟨fun _ => rfl, fun _ => e⟩
    rw [decide_eq_false this]
    rfl
  | false =>
    rw [if_neg (by decide)]
    have : knd t 0 = 1 := Classical.byContradiction fun e => h ⟨fun x => absurd x e, fun x => absurd x (by decide)⟩
    exact decide_eq_false (by omega)
set_option maxHeartbeats 80000000 in
set_option maxRecDepth 100000 in
theorem refcheck_some (w : World) (b off c : Nat) (t : List Nd) (hN : NodesIn w b off t) (hl : t.length ≤ 1000) (r : Bool)
    (cF : Hid (∀ i, i < t.length → Upto t i → Ord t i → ∀ w', Fr [] w w' → Calls Tryd.prog 45 #[.slice (some ⟨b, off, none⟩) t.length c, .int .i64 (i : Int)] w' fun e w'' => e = .returned (.bool (fitB t i)) ∧ Fr [] w' w'')) :
    Calls Tryd.prog 34 #[.slice (some ⟨b, off, none⟩) t.length c, .bool r] w fun e w' => e = .returned (.int .i64 (judged t (rootsB t r) : Nat)) ∧ Fr [] w w' := by
  have HN := Hid.mk hN
  have hl1 : ¬ (16384 : Int) < (t.length : Int) := by omega
  obtain ⟨J, HJ⟩ : ∃ J, Hid (judged t (rootsB t r) = J) := ⟨_, rfl⟩
  rw [HJ.out]
  have cO := Hid.mk (refOrd_some w b off c t hN (by omega))
  cases hO : ordsTo t t.length with
  | false =>
    rw [hO] at cO
    have e : J = 4 := by
      rw [← HJ.out]
      unfold judged
      have hg : goodB t t.length = false := by
        cases hg : goodB t t.length with
        | false => rfl
        | true =>
          have := (ordsTo_iff t t.length).2 (fun i hi => ((goodB_iff t _).1 hg i hi).1)
          rw [hO] at this
          exact absurd this (by decide)
      rw [if_neg (by omega), hg, Bool.false_and, if_pos rfl]
    subst e
    clear hN HJ hO
    go_enter Tryd.func34, Tryd.ntmps34
    go_wp2_with (go_at_call 44; refine (cO.out).mono ?_; rintro e w5 ⟨rfl, h5⟩; have h5' := h5.symm; subst h5')
    go_ret
    exact ⟨rfl, Fr.refl _ _⟩
  | true =>
    rw [hO] at cO
    have HO : Hid (∀ i, i < t.length → Ord t i) := (ordsTo_iff t _).1 hO
    clear hN hO
    go_enter Tryd.func34, Tryd.ntmps34
    go_wp2_with (go_at_call 44; refine (cO.out).mono ?_; rintro e w5 ⟨rfl, h5⟩; have h5' := h5.symm; subst h5')
    go_loopw [5, 6, 7, 8] (fun s5 s6 s7 s8 wr => ∃ (A E i : Nat) (D : Bool), s5 = .int .i64 (A : Int) ∧ s6 = .int .i64 (E : Int) ∧ s7 = .bool D ∧ s8 = .int .i64 (i : Int) ∧ i ≤ t.length ∧ A ≤ i ∧ E ≤ i ∧ Hid ((t.take i).countP (fun n => decide (n.parent < 0)) = A) ∧ Hid ((t.take i).countP (fun n => decide (n.parent = 0 ∧ n.kind = 2)) = E) ∧ Hid (decide (60 < deepest t i) = D) ∧ Hid (Upto t i) ∧ Hid (0 < i → (knd t 0 = 1 ↔ r = true)) ∧ Hid (Fr [] w wr)) (fun _ _ _ s8 _ => t.length - (RowKit.intOf s8).toNat)
    case atStart => exact ⟨0, 0, 0, false, rfl, rfl, rfl, rfl, Nat.zero_le _, Nat.le_refl _, Nat.le_refl _, rfl, rfl, rfl, (fun i hi => by omega), (fun h => by omega), Fr.refl _ _⟩
    case round =>
      obtain ⟨A, E, i, D, rfl, rfl, rfl, rfl, hil, hAi, hEi, hA, hE, hD, hU, hRt, frh⟩ := hrel
      have hi0 : (0 : Int) ≤ (i : Int) := by omega
      by_cases hlt : i < t.length
      · have hlt' : (i : Int) < (t.length : Int) := by omega
        have cFi := Hid.mk (cF.out i hlt hU.out (HO.out i hlt))
        have ho1 := (HO.out i hlt).1
        have ho2 := (HO.out i hlt).2.1
        have hA' := take_count (fun n => decide (n.parent < 0)) t i hlt
        have hE' := take_count (fun n => decide (n.parent = 0 ∧ n.kind = 2)) t i hlt
        have hD' := deep_succ t i
        rw [hA.out] at hA'
        rw [hE.out] at hE'
        rw [hD.out] at hD'
        simp only [decide_eq_true_eq] at hA' hE'
        change _ = A + (if par t i < 0 then 1 else 0) at hA'
        change _ = E + (if par t i = 0 ∧ knd t i = 2 then 1 else 0) at hE'
        obtain ⟨K, hK⟩ : ∃ K, knd t i = K := ⟨_, rfl⟩
        obtain ⟨q, hq⟩ : ∃ q, par t i = q := ⟨_, rfl⟩
        obtain ⟨DP, hDP⟩ : ∃ q, dep t i = q := ⟨_, rfl⟩
        have HK := Hid.mk hK
        have HPp := Hid.mk hq
        have HD := Hid.mk hDP
        rw [hK, hDP] at hD'
        rw [hK, hq] at hE'
        rw [hq] at hA' ho1 ho2
        cases hF : fitB t i with
        | false =>
          rw [hF] at cFi
          have e : J = 4 := by rw [← HJ.out]; exact judged_bad (by omega) (by rw [goodF_no hlt hF, Bool.false_and])
          subst e
          clear HJ hA' hE' hD' hK hq hDP hF hRt hU hA hE hD
          go_wp2_with (first
            | (go_at_call 45; refine (cFi.out wr frh.out).mono ?_; rintro e w6 ⟨rfl, f6⟩; have fr6 := Hid.mk (frh.out.trans f6); obtain ⟨c0, c1, c2, c3⟩ := (HN.out.kept fr6.out (by simp)) i hlt; rw [HK.out] at c0; rw [HPp.out] at c3; clear c1 c2)
            | (go_at_call 46; refine (refDeep_any _ b off c t (HN.out.kept fr6.out (by simp)) (by omega) i hlt (fun j hj => HO.out j (by omega))).mono ?_; rw [HD.out]; rintro e w7 ⟨rfl, h7⟩; have h7' := h7.symm; subst h7'))
          go_ret
          exact ⟨rfl, fr6.out⟩
        | true =>
          rw [hF] at cFi
          have ft : Fit t i := of_decide_eq_true hF
          have hUs : Hid (Upto t (i + 1)) := hU.out.succ (HO.out i hlt) ft
          have hK1 : K = 1 → i = 0 := fun e => by
            rcases ft.2 with f | f | f | f | f | f
            · exact f.2.1
            · have := f.1; omega
            · have := f.1; omega
            · have := f.1; omega
            · have := f.1; omega
            · have := f.1; omega
          by_cases hgood : i = 0 → (K = 1 ↔ r = true)
          · have hRs : Hid (0 < i + 1 → (knd t 0 = 1 ↔ r = true)) := fun _ => by
              by_cases h0 : i = 0
              · have := hgood h0
                rw [← hK, h0] at this
                exact this
              · exact hRt.out (by omega)
            clear ft hF hU hRt
            by_cases k1 : K = 1
            · have hi1 := hK1 k1
              have hr : r = true := (hgood hi1).1 k1
              have hib : ((i : Int) == 0) = true := by rw [beq_iff_eq]; omega
              subst hr
              subst k1
              have hp : q < 0 := by omega
              clear hi1
              rw [if_pos hp] at hA'
              rw [if_neg (by omega)] at hE'
              rw [decide_eq_false (by decide : ¬ (1 : Nat) = 2), Bool.false_and, Bool.or_false] at hD'
              have HA' := Hid.mk hA'
              have HE' := Hid.mk hE'
              have HDD := Hid.mk hD'
              clear hA' hE' hD' hK hq hDP hA hE hD hgood hK1
              have hpb : (q == 0) = false := by rw [beq_eq_false_iff_ne]; omega
              go_wp2_with (first
                | (go_at_call 45; refine (cFi.out wr frh.out).mono ?_; rintro e w6 ⟨rfl, f6⟩; have fr6 := Hid.mk (frh.out.trans f6); obtain ⟨c0, c1, c2, c3⟩ := (HN.out.kept fr6.out (by simp)) i hlt; rw [HK.out] at c0; rw [HPp.out] at c3; clear c1 c2)
                | (go_at_call 46; refine (refDeep_any _ b off c t (HN.out.kept fr6.out (by simp)) (by omega) i hlt (fun j hj => HO.out j (by omega))).mono ?_; rw [HD.out]; rintro e w7 ⟨rfl, h7⟩; have h7' := h7.symm; subst h7'))
              exact ⟨⟨A + 1, E, i + 1, D, by go_num, by go_num, rfl, by go_num, by omega, by omega, by omega, HA', HE', HDD, hUs, hRs, fr6⟩, by simp [RowKit.intOf]; omega⟩
            · have k1b : ((K : Int) == 1) = false := by rw [beq_eq_false_iff_ne]; omega
              have hri : Hid (r = false ∨ (r = true ∧ ((i : Int) == 0) = false)) := by
                cases r with
                | false => exact Or.inl rfl
                | true =>
                  refine Or.inr ⟨rfl, ?_⟩
                  rw [beq_eq_false_iff_ne]
                  intro h
                  exact k1 ((hgood (by omega)).2 rfl)
              rcases hri.out with rfl | ⟨rfl, hib⟩
              all_goals
                by_cases k2 : K = 2
                · subst k2
                  rw [decide_eq_true rfl, Bool.true_and] at hD'
                  by_cases hdp : 60 < DP
                  · have hdp' : (60 : Int) < (DP : Int) := by omega
                    rw [decide_eq_true hdp, Bool.or_true] at hD'
                    by_cases hp : q < 0
                    · rw [if_pos hp] at hA'
                      rw [if_neg (by omega)] at hE'
                      have HA' := Hid.mk hA'
                      have HE' := Hid.mk hE'
                      have HDD := Hid.mk hD'
                      clear hA' hE' hD' hK hq hDP hA hE hD hgood hK1
                      have hpb : (q == 0) = false := by rw [beq_eq_false_iff_ne]; omega
                      go_wp2_with (first
                        | (go_at_call 45; refine (cFi.out wr frh.out).mono ?_; rintro e w6 ⟨rfl, f6⟩; have fr6 := Hid.mk (frh.out.trans f6); obtain ⟨c0, c1, c2, c3⟩ := (HN.out.kept fr6.out (by simp)) i hlt; rw [HK.out] at c0; rw [HPp.out] at c3; clear c1 c2)
                        | (go_at_call 46; refine (refDeep_any _ b off c t (HN.out.kept fr6.out (by simp)) (by omega) i hlt (fun j hj => HO.out j (by omega))).mono ?_; rw [HD.out]; rintro e w7 ⟨rfl, h7⟩; have h7' := h7.symm; subst h7'))
                      exact ⟨⟨A + 1, E, i + 1, true, by go_num, by go_num, rfl, by go_num, by omega, by omega, by omega, HA', HE', HDD, hUs, hRs, fr6⟩, by simp [RowKit.intOf]; omega⟩
                    · rw [if_neg hp] at hA'
                      by_cases hp0 : q = 0
                      · subst hp0
                        rw [if_pos ⟨rfl, rfl⟩] at hE'
                        have HA' := Hid.mk hA'
                        have HE' := Hid.mk hE'
                        have HDD := Hid.mk hD'
                        clear hA' hE' hD' hK hq hDP hA hE hD hgood hK1
                        go_wp2_with (first
                          | (go_at_call 45; refine (cFi.out wr frh.out).mono ?_; rintro e w6 ⟨rfl, f6⟩; have fr6 := Hid.mk (frh.out.trans f6); obtain ⟨c0, c1, c2, c3⟩ := (HN.out.kept fr6.out (by simp)) i hlt; rw [HK.out] at c0; rw [HPp.out] at c3; clear c1 c2)
                          | (go_at_call 46; refine (refDeep_any _ b off c t (HN.out.kept fr6.out (by simp)) (by omega) i hlt (fun j hj => HO.out j (by omega))).mono ?_; rw [HD.out]; rintro e w7 ⟨rfl, h7⟩; have h7' := h7.symm; subst h7'))
                        exact ⟨⟨A, E + 1, i + 1, true, by go_num, by go_num, rfl, by go_num, by omega, by omega, by omega, HA', HE', HDD, hUs, hRs, fr6⟩, by simp [RowKit.intOf]; omega⟩
                      · rw [if_neg (fun h => hp0 h.1)] at hE'
                        have hpb : (q == 0) = false := by rw [beq_eq_false_iff_ne]; exact hp0
                        have HA' := Hid.mk hA'
                        have HE' := Hid.mk hE'
                        have HDD := Hid.mk hD'
                        clear hA' hE' hD' hK hq hDP hA hE hD hgood hK1
                        go_wp2_with (first
                          | (go_at_call 45; refine (cFi.out wr frh.out).mono ?_; rintro e w6 ⟨rfl, f6⟩; have fr6 := Hid.mk (frh.out.trans f6); obtain ⟨c0, c1, c2, c3⟩ := (HN.out.kept fr6.out (by simp)) i hlt; rw [HK.out] at c0; rw [HPp.out] at c3; clear c1 c2)
                          | (go_at_call 46; refine (refDeep_any _ b off c t (HN.out.kept fr6.out (by simp)) (by omega) i hlt (fun j hj => HO.out j (by omega))).mono ?_; rw [HD.out]; rintro e w7 ⟨rfl, h7⟩; have h7' := h7.symm; subst h7'))
                        exact ⟨⟨A, E, i + 1, true, by go_num, by go_num, rfl, by go_num, by omega, by omega, by omega, HA', HE', HDD, hUs, hRs, fr6⟩, by simp [RowKit.intOf]; omega⟩
                  · have hdp' : ¬ (60 : Int) < (DP : Int) := by omega
                    rw [decide_eq_false hdp, Bool.or_false] at hD'
                    by_cases hp : q < 0
                    · rw [if_pos hp] at hA'
                      rw [if_neg (by omega)] at hE'
                      have HA' := Hid.mk hA'
                      have HE' := Hid.mk hE'
                      have HDD := Hid.mk hD'
                      clear hA' hE' hD' hK hq hDP hA hE hD hgood hK1
                      have hpb : (q == 0) = false := by rw [beq_eq_false_iff_ne]; omega
                      go_wp2_with (first
                        | (go_at_call 45; refine (cFi.out wr frh.out).mono ?_; rintro e w6 ⟨rfl, f6⟩; have fr6 := Hid.mk (frh.out.trans f6); obtain ⟨c0, c1, c2, c3⟩ := (HN.out.kept fr6.out (by simp)) i hlt; rw [HK.out] at c0; rw [HPp.out] at c3; clear c1 c2)
                        | (go_at_call 46; refine (refDeep_any _ b off c t (HN.out.kept fr6.out (by simp)) (by omega) i hlt (fun j hj => HO.out j (by omega))).mono ?_; rw [HD.out]; rintro e w7 ⟨rfl, h7⟩; have h7' := h7.symm; subst h7'))
                      exact ⟨⟨A + 1, E, i + 1, D, by go_num, by go_num, rfl, by go_num, by omega, by omega, by omega, HA', HE', HDD, hUs, hRs, fr6⟩, by simp [RowKit.intOf]; omega⟩
                    · rw [if_neg hp] at hA'
                      by_cases hp0 : q = 0
                      · subst hp0
                        rw [if_pos ⟨rfl, rfl⟩] at hE'
                        have HA' := Hid.mk hA'
                        have HE' := Hid.mk hE'
                        have HDD := Hid.mk hD'
                        clear hA' hE' hD' hK hq hDP hA hE hD hgood hK1
                        go_wp2_with (first
                          | (go_at_call 45; refine (cFi.out wr frh.out).mono ?_; rintro e w6 ⟨rfl, f6⟩; have fr6 := Hid.mk (frh.out.trans f6); obtain ⟨c0, c1, c2, c3⟩ := (HN.out.kept fr6.out (by simp)) i hlt; rw [HK.out] at c0; rw [HPp.out] at c3; clear c1 c2)
                          | (go_at_call 46; refine (refDeep_any _ b off c t (HN.out.kept fr6.out (by simp)) (by omega) i hlt (fun j hj => HO.out j (by omega))).mono ?_; rw [HD.out]; rintro e w7 ⟨rfl, h7⟩; have h7' := h7.symm; subst h7'))
                        exact ⟨⟨A, E + 1, i + 1, D, by go_num, by go_num, rfl, by go_num, by omega, by omega, by omega, HA', HE', HDD, hUs, hRs, fr6⟩, by simp [RowKit.intOf]; omega⟩
                      · rw [if_neg (fun h => hp0 h.1)] at hE'
                        have hpb : (q == 0) = false := by rw [beq_eq_false_iff_ne]; exact hp0
                        have HA' := Hid.mk hA'
                        have HE' := Hid.mk hE'
                        have HDD := Hid.mk hD'
                        clear hA' hE' hD' hK hq hDP hA hE hD hgood hK1
                        go_wp2_with (first
                          | (go_at_call 45; refine (cFi.out wr frh.out).mono ?_; rintro e w6 ⟨rfl, f6⟩; have fr6 := Hid.mk (frh.out.trans f6); obtain ⟨c0, c1, c2, c3⟩ := (HN.out.kept fr6.out (by simp)) i hlt; rw [HK.out] at c0; rw [HPp.out] at c3; clear c1 c2)
                          | (go_at_call 46; refine (refDeep_any _ b off c t (HN.out.kept fr6.out (by simp)) (by omega) i hlt (fun j hj => HO.out j (by omega))).mono ?_; rw [HD.out]; rintro e w7 ⟨rfl, h7⟩; have h7' := h7.symm; subst h7'))
                        exact ⟨⟨A, E, i + 1, D, by go_num, by go_num, rfl, by go_num, by omega, by omega, by omega, HA', HE', HDD, hUs, hRs, fr6⟩, by simp [RowKit.intOf]; omega⟩
                · have k2b : ((K : Int) == 2) = false := by rw [beq_eq_false_iff_ne]; omega
                  rw [decide_eq_false k2, Bool.false_and, Bool.or_false] at hD'
                  rw [if_neg (fun h => k2 h.2)] at hE'
                  by_cases hp : q < 0
                  · rw [if_pos hp] at hA'
                    have HA' := Hid.mk hA'
                    have HE' := Hid.mk hE'
                    have HDD := Hid.mk hD'
                    clear hA' hE' hD' hK hq hDP hA hE hD hgood hK1
                    have hpb : (q == 0) = false := by rw [beq_eq_false_iff_ne]; omega
                    go_wp2_with (first
                      | (go_at_call 45; refine (cFi.out wr frh.out).mono ?_; rintro e w6 ⟨rfl, f6⟩; have fr6 := Hid.mk (frh.out.trans f6); obtain ⟨c0, c1, c2, c3⟩ := (HN.out.kept fr6.out (by simp)) i hlt; rw [HK.out] at c0; rw [HPp.out] at c3; clear c1 c2)
                      | (go_at_call 46; refine (refDeep_any _ b off c t (HN.out.kept fr6.out (by simp)) (by omega) i hlt (fun j hj => HO.out j (by omega))).mono ?_; rw [HD.out]; rintro e w7 ⟨rfl, h7⟩; have h7' := h7.symm; subst h7'))
                    exact ⟨⟨A + 1, E, i + 1, D, by go_num, by go_num, rfl, by go_num, by omega, by omega, by omega, HA', HE', HDD, hUs, hRs, fr6⟩, by simp [RowKit.intOf]; omega⟩
                  · rw [if_neg hp] at hA'
                    by_cases hp0 : q = 0
                    · subst hp0
                      have HA' := Hid.mk hA'
                      have HE' := Hid.mk hE'
                      have HDD := Hid.mk hD'
                      clear hA' hE' hD' hK hq hDP hA hE hD hgood hK1
                      go_wp2_with (first
                        | (go_at_call 45; refine (cFi.out wr frh.out).mono ?_; rintro e w6 ⟨rfl, f6⟩; have fr6 := Hid.mk (frh.out.trans f6); obtain ⟨c0, c1, c2, c3⟩ := (HN.out.kept fr6.out (by simp)) i hlt; rw [HK.out] at c0; rw [HPp.out] at c3; clear c1 c2)
                        | (go_at_call 46; refine (refDeep_any _ b off c t (HN.out.kept fr6.out (by simp)) (by omega) i hlt (fun j hj => HO.out j (by omega))).mono ?_; rw [HD.out]; rintro e w7 ⟨rfl, h7⟩; have h7' := h7.symm; subst h7'))
                      exact ⟨⟨A, E, i + 1, D, by go_num, by go_num, rfl, by go_num, by omega, by omega, by omega, HA', HE', HDD, hUs, hRs, fr6⟩, by simp [RowKit.intOf]; omega⟩
                    · have hpb : (q == 0) = false := by rw [beq_eq_false_iff_ne]; exact hp0
                      have HA' := Hid.mk hA'
                      have HE' := Hid.mk hE'
                      have HDD := Hid.mk hD'
                      clear hA' hE' hD' hK hq hDP hA hE hD hgood hK1
                      go_wp2_with (first
                        | (go_at_call 45; refine (cFi.out wr frh.out).mono ?_; rintro e w6 ⟨rfl, f6⟩; have fr6 := Hid.mk (frh.out.trans f6); obtain ⟨c0, c1, c2, c3⟩ := (HN.out.kept fr6.out (by simp)) i hlt; rw [HK.out] at c0; rw [HPp.out] at c3; clear c1 c2)
                        | (go_at_call 46; refine (refDeep_any _ b off c t (HN.out.kept fr6.out (by simp)) (by omega) i hlt (fun j hj => HO.out j (by omega))).mono ?_; rw [HD.out]; rintro e w7 ⟨rfl, h7⟩; have h7' := h7.symm; subst h7'))
                      exact ⟨⟨A, E, i + 1, D, by go_num, by go_num, rfl, by go_num, by omega, by omega, by omega, HA', HE', HDD, hUs, hRs, fr6⟩, by simp [RowKit.intOf]; omega⟩
          · obtain ⟨hi1, hb⟩ : i = 0 ∧ ¬ (K = 1 ↔ r = true) := ⟨Classical.byContradiction fun h => hgood (fun e => absurd e h), fun h => hgood (fun _ => h)⟩
            have e : J = 4 := by rw [← HJ.out]; exact judged_bad (by omega) (by rw [roots_no (by rw [← hi1, hK]; exact hb), Bool.and_false])
            have hib : ((i : Int) == 0) = true := by rw [beq_iff_eq]; omega
            subst e
            clear HJ hA' hE' hD' hK hq hDP hF hRt hU hA hE hD ft hUs hgood hi1
            cases r with
            | true =>
              have kb : ((K : Int) == 1) = false := by rw [beq_eq_false_iff_ne]; intro h; exact hb ⟨fun _ => rfl, fun _ => by omega⟩
              clear hb hK1
              go_wp2_with (first
                | (go_at_call 45; refine (cFi.out wr frh.out).mono ?_; rintro e w6 ⟨rfl, f6⟩; have fr6 := Hid.mk (frh.out.trans f6); obtain ⟨c0, c1, c2, c3⟩ := (HN.out.kept fr6.out (by simp)) i hlt; rw [HK.out] at c0; rw [HPp.out] at c3; clear c1 c2)
                | (go_at_call 46; refine (refDeep_any _ b off c t (HN.out.kept fr6.out (by simp)) (by omega) i hlt (fun j hj => HO.out j (by omega))).mono ?_; rw [HD.out]; rintro e w7 ⟨rfl, h7⟩; have h7' := h7.symm; subst h7'))
              go_ret
              exact ⟨rfl, fr6.out⟩
            | false =>
              have kb : K = 1 := Classical.byContradiction fun h => hb ⟨fun x => absurd x h, fun x => absurd x (by decide)⟩
              subst kb
              clear hb hK1
              go_wp2_with (first
                | (go_at_call 45; refine (cFi.out wr frh.out).mono ?_; rintro e w6 ⟨rfl, f6⟩; have fr6 := Hid.mk (frh.out.trans f6); obtain ⟨c0, c1, c2, c3⟩ := (HN.out.kept fr6.out (by simp)) i hlt; rw [HK.out] at c0; rw [HPp.out] at c3; clear c1 c2)
                | (go_at_call 46; refine (refDeep_any _ b off c t (HN.out.kept fr6.out (by simp)) (by omega) i hlt (fun j hj => HO.out j (by omega))).mono ?_; rw [HD.out]; rintro e w7 ⟨rfl, h7⟩; have h7' := h7.symm; subst h7'))
              go_ret
              exact ⟨rfl, fr6.out⟩
      · obtain rfl : i = t.length := by omega
        have eA : tops t = A := by have := hA.out; rwa [List.take_length] at this
        have eE : elems t = E := by have := hE.out; rwa [List.take_length] at this
        have hg : goodB t t.length = true := (goodB_iff t _).2 hU.out
        have HJ' : Hid (judged t (rootsB t r) = J) := HJ
        have hroot : Hid (rootsB t r = true ↔ (r = true → A = 1 ∧ E = 1)) := by
          show _ ↔ _
          have h0 : 0 < t.length → (knd t 0 = 1 ↔ r = true) := hRt.out
          have hz : t.length = 0 → knd t 0 ≠ 1 ∧ A = 0 := fun e => by
            refine ⟨?_, by omega⟩
            unfold knd
            rw [nth_ge (by omega)]
            decide
          unfold rootsB oneB noB
          cases r with
          | true =>
            rw [if_pos rfl, Bool.and_eq_true, Bool.and_eq_true, decide_eq_true_iff, decide_eq_true_iff, decide_eq_true_iff, eA, eE]
            constructor
            · intro h _; exact h.2
            · intro h
              have h2 := h rfl
              refine ⟨?_, h2⟩
              by_cases e : t.length = 0
              · have := (hz e).2; omega
              · exact (h0 (by omega)).2 rfl
          | false =>
            rw [if_neg (by decide), decide_eq_true_iff]
            constructor
            · intro _ h; exact absurd h (by decide)
            · intro _ e
              by_cases e0 : t.length = 0
              · exact (hz e0).1 e
              · exact absurd ((h0 (by omega)).1 e) (by decide)
        have bad : rootsB t r = false → J = 4 := fun h => by rw [← HJ.out]; exact judged_bad (by omega) (by rw [h, Bool.and_false])
        have gd : rootsB t r = true → J = if D = true then 131 else 0 := fun h => by
          rw [← HJ.out, judged_good (by omega) (by rw [hg, h]; rfl), ← hD.out]
          simp only [decide_eq_true_eq]
        clear HJ HJ' hg hA hE hD hU hRt
        cases r with
        | false =>
          have e := gd (hroot.out.2 (fun h => absurd h (by decide)))
          cases D with
          | true =>
            rw [if_pos rfl] at e
            subst e
            clear gd bad hroot
            go_wp2_with fail
            go_ret
            exact ⟨rfl, frh.out⟩
          | false =>
            rw [if_neg (by decide)] at e
            subst e
            clear gd bad hroot
            go_wp2_with fail
            go_ret
            exact ⟨rfl, frh.out⟩
        | true =>
          by_cases h1 : A = 1
          · by_cases h2 : E = 1
            · have e := gd (hroot.out.2 (fun _ => ⟨h1, h2⟩))
              subst h1
              subst h2
              cases D with
              | true =>
                rw [if_pos rfl] at e
                subst e
                clear gd bad hroot
                go_wp2_with fail
                go_ret
                exact ⟨rfl, frh.out⟩
              | false =>
                rw [if_neg (by decide)] at e
                subst e
                clear gd bad hroot
                go_wp2_with fail
                go_ret
                exact ⟨rfl, frh.out⟩
            · have e := bad (by cases hb : rootsB t true with | false => rfl | true => exact absurd (hroot.out.1 hb rfl).2 h2)
              have h2b : ((E : Int) != 1) = true := by rw [bne_iff_ne]; omega
              subst e
              subst h1
              clear gd bad hroot
              go_wp2_with fail
              go_ret
              exact ⟨rfl, frh.out⟩
          · have e := bad (by cases hb : rootsB t true with | false => rfl | true => exact absurd (hroot.out.1 hb rfl).1 h1)
            have h1b : ((A : Int) != 1) = true := by rw [bne_iff_ne]; omega
            subst e
            clear gd bad hroot
            go_wp2_with fail
            go_ret
            exact ⟨rfl, frh.out⟩
end Go.Proofs.YtjdcfaaoicnajaaDoor

set_option linter.unusedVariables false
set_option linter.unusedSimpArgs false
namespace Go.Proofs.YtjdcfaaoicnajaaDoor
open Go.RowKit Go.Maps Go.Lib

set_option maxHeartbeats 8000000 in
set_option maxRecDepth 100000 in
theorem fits_1 (w : World) (b off c n : Nat) (i : Nat) (hi : i < n) (hl : n ≤ 16384) (NM VL : ByteArray) (P : Int) (U : Nat) (TB : Bool) 
    (c0 : w.cell? ⟨b, off + i * 4, none⟩ = some (.int .u8 ((1 : Nat) : Int))) (c1 : w.cell? ⟨b, off + i * 4 + 1, none⟩ = some (.string NM)) (c2 : w.cell? ⟨b, off + i * 4 + 2, none⟩ = some (.string VL)) (c3 : w.cell? ⟨b, off + i * 4 + 3, none⟩ = some (.int .i64 P))
    (cU : Hid (∀ w', Fr [] w w' → Calls Tryd.prog 51 #[.slice (some ⟨b, off, none⟩) n c, .int .i64 (i : Int)] w' fun e w'' => e = .returned (.int .u8 (U : Int)) ∧ w'' = w'))
    (cT : Hid (∀ w', Calls Tryd.prog 52 #[.string VL] w' fun e w'' => e = .returned (.bool TB) ∧ w'' = w'))
    : Calls Tryd.prog 45 #[.slice (some ⟨b, off, none⟩) n c, .int .i64 (i : Int)] w fun e w' => e = .returned (.bool (TB && (!(decide ((65536 : Int) < (VL.size : Int))) && (((i : Int) == 0) && (NM.toList.isEmpty && VL.toList.isEmpty))))) ∧ Fr [] w w' := by
  have hi' : (i : Int) < (n : Int) := by omega
  have hi0 : (0 : Int) ≤ (i : Int) := by omega
  obtain ⟨R, HR⟩ : ∃ R, Hid ((TB && (!(decide ((65536 : Int) < (VL.size : Int))) && (((i : Int) == 0) && (NM.toList.isEmpty && VL.toList.isEmpty)))) = R) := ⟨_, rfl⟩
  rw [HR.out]
  go_enter Tryd.func45, Tryd.ntmps45
  go_wp2_with (first
    | (refine wp_alloc 37 rfl rfl _ zeroN _ rfl ?_; intro wa ga hga hca fa)
    | (refine wp_storeC 37 rfl _ _ rfl ga _ (ndC 1 NM VL P) rfl rfl hca infoN rfl (ndC_one _ _ _ _) ?_; intro wb hcb fb; have frb : Fr [] w wb := (fa).then fb (fun j hj hm => (by simp at hm; omega)); have n0 : wb.cell? ⟨ga, 0, none⟩ = some (.int .u8 ((1 : Nat) : Int)) := hcb.cell 0; have n1 : wb.cell? ⟨ga, 1, none⟩ = some (.string NM) := hcb.cell 1; have n2 : wb.cell? ⟨ga, 2, none⟩ = some (.string VL) := hcb.cell 2; have n3 : wb.cell? ⟨ga, 3, none⟩ = some (.int .i64 P) := hcb.cell 3)
    | (go_at_call 51; refine (cU.out _ (by first | exact Fr.refl _ _ | assumption)).mono ?_; rintro e w5 ⟨rfl, h5⟩; have h5' := h5.symm; subst h5')
    | (go_at_call 52; refine (cT.out _).mono ?_; rintro e w5 ⟨rfl, h5⟩; have h5' := h5.symm; subst h5')
    | go_in)
  all_goals
    have hR := HR.out
    clear HR
    go_ret
    refine ⟨congrArg (fun b => Ending.returned (Value.bool b)) ?_, by first | exact frb | assumption⟩
    rw [← hR]
    simp [*]

set_option maxHeartbeats 8000000 in
set_option maxRecDepth 100000 in
theorem fits_2 (w : World) (b off c n : Nat) (i : Nat) (hi : i < n) (hl : n ≤ 16384) (NM VL : ByteArray) (P : Int) (U : Nat) (TB : Bool) (NB : Bool)
    (c0 : w.cell? ⟨b, off + i * 4, none⟩ = some (.int .u8 ((2 : Nat) : Int))) (c1 : w.cell? ⟨b, off + i * 4 + 1, none⟩ = some (.string NM)) (c2 : w.cell? ⟨b, off + i * 4 + 2, none⟩ = some (.string VL)) (c3 : w.cell? ⟨b, off + i * 4 + 3, none⟩ = some (.int .i64 P))
    (cU : Hid (∀ w', Fr [] w w' → Calls Tryd.prog 51 #[.slice (some ⟨b, off, none⟩) n c, .int .i64 (i : Int)] w' fun e w'' => e = .returned (.int .u8 (U : Int)) ∧ w'' = w'))
    (cT : Hid (∀ w', Calls Tryd.prog 52 #[.string VL] w' fun e w'' => e = .returned (.bool TB) ∧ w'' = w'))
    (cN : Hid (∀ w', Calls Tryd.prog 53 #[.string NM] w' fun e w'' => e = .returned (.bool NB) ∧ w'' = w'))
    : Calls Tryd.prog 45 #[.slice (some ⟨b, off, none⟩) n c, .int .i64 (i : Int)] w fun e w' => e = .returned (.bool (TB && (!(decide ((65536 : Int) < (VL.size : Int))) && ((((U : Int) == 0) || (((U : Int) == 2) || ((U : Int) == 1))) && (NB && VL.toList.isEmpty))))) ∧ Fr [] w w' := by
  have hi' : (i : Int) < (n : Int) := by omega
  have hi0 : (0 : Int) ≤ (i : Int) := by omega
  obtain ⟨R, HR⟩ : ∃ R, Hid ((TB && (!(decide ((65536 : Int) < (VL.size : Int))) && ((((U : Int) == 0) || (((U : Int) == 2) || ((U : Int) == 1))) && (NB && VL.toList.isEmpty)))) = R) := ⟨_, rfl⟩
  rw [HR.out]
  go_enter Tryd.func45, Tryd.ntmps45
  go_wp2_with (first
    | (refine wp_alloc 37 rfl rfl _ zeroN _ rfl ?_; intro wa ga hga hca fa)
    | (refine wp_storeC 37 rfl _ _ rfl ga _ (ndC 2 NM VL P) rfl rfl hca infoN rfl (ndC_one _ _ _ _) ?_; intro wb hcb fb; have frb : Fr [] w wb := (fa).then fb (fun j hj hm => (by simp at hm; omega)); have n0 : wb.cell? ⟨ga, 0, none⟩ = some (.int .u8 ((2 : Nat) : Int)) := hcb.cell 0; have n1 : wb.cell? ⟨ga, 1, none⟩ = some (.string NM) := hcb.cell 1; have n2 : wb.cell? ⟨ga, 2, none⟩ = some (.string VL) := hcb.cell 2; have n3 : wb.cell? ⟨ga, 3, none⟩ = some (.int .i64 P) := hcb.cell 3)
    | (go_at_call 51; refine (cU.out _ (by first | exact Fr.refl _ _ | assumption)).mono ?_; rintro e w5 ⟨rfl, h5⟩; have h5' := h5.symm; subst h5')
    | (go_at_call 52; refine (cT.out _).mono ?_; rintro e w5 ⟨rfl, h5⟩; have h5' := h5.symm; subst h5')
    | (go_at_call 53; refine (cN.out _).mono ?_; rintro e w5 ⟨rfl, h5⟩; have h5' := h5.symm; subst h5')
    | go_in)
  all_goals
    have hR := HR.out
    clear HR
    go_ret
    refine ⟨congrArg (fun b => Ending.returned (Value.bool b)) ?_, by first | exact frb | assumption⟩
    rw [← hR]
    simp [*]

set_option maxHeartbeats 8000000 in
set_option maxRecDepth 100000 in
theorem fits_3 (w : World) (b off c n : Nat) (i : Nat) (hi : i < n) (hl : n ≤ 16384) (NM VL : ByteArray) (P : Int) (U : Nat) (TB : Bool) (AB : Bool)
    (c0 : w.cell? ⟨b, off + i * 4, none⟩ = some (.int .u8 ((3 : Nat) : Int))) (c1 : w.cell? ⟨b, off + i * 4 + 1, none⟩ = some (.string NM)) (c2 : w.cell? ⟨b, off + i * 4 + 2, none⟩ = some (.string VL)) (c3 : w.cell? ⟨b, off + i * 4 + 3, none⟩ = some (.int .i64 P))
    (cU : Hid (∀ w', Fr [] w w' → Calls Tryd.prog 51 #[.slice (some ⟨b, off, none⟩) n c, .int .i64 (i : Int)] w' fun e w'' => e = .returned (.int .u8 (U : Int)) ∧ w'' = w'))
    (cT : Hid (∀ w', Calls Tryd.prog 52 #[.string VL] w' fun e w'' => e = .returned (.bool TB) ∧ w'' = w'))
    (cA : Hid (∀ w', Fr [] w w' → Calls Tryd.prog 54 #[.slice (some ⟨b, off, none⟩) n c, .int .i64 (i : Int)] w' fun e w'' => e = .returned (.bool AB) ∧ Fr [] w' w''))
    : Calls Tryd.prog 45 #[.slice (some ⟨b, off, none⟩) n c, .int .i64 (i : Int)] w fun e w' => e = .returned (.bool (TB && (!(decide ((65536 : Int) < (VL.size : Int))) && (AB)))) ∧ Fr [] w w' := by
  have hi' : (i : Int) < (n : Int) := by omega
  have hi0 : (0 : Int) ≤ (i : Int) := by omega
  obtain ⟨R, HR⟩ : ∃ R, Hid ((TB && (!(decide ((65536 : Int) < (VL.size : Int))) && (AB))) = R) := ⟨_, rfl⟩
  rw [HR.out]
  go_enter Tryd.func45, Tryd.ntmps45
  go_wp2_with (first
    | (refine wp_alloc 37 rfl rfl _ zeroN _ rfl ?_; intro wa ga hga hca fa)
    | (refine wp_storeC 37 rfl _ _ rfl ga _ (ndC 3 NM VL P) rfl rfl hca infoN rfl (ndC_one _ _ _ _) ?_; intro wb hcb fb; have frb : Fr [] w wb := (fa).then fb (fun j hj hm => (by simp at hm; omega)); have n0 : wb.cell? ⟨ga, 0, none⟩ = some (.int .u8 ((3 : Nat) : Int)) := hcb.cell 0; have n1 : wb.cell? ⟨ga, 1, none⟩ = some (.string NM) := hcb.cell 1; have n2 : wb.cell? ⟨ga, 2, none⟩ = some (.string VL) := hcb.cell 2; have n3 : wb.cell? ⟨ga, 3, none⟩ = some (.int .i64 P) := hcb.cell 3)
    | (go_at_call 51; refine (cU.out _ (by first | exact Fr.refl _ _ | assumption)).mono ?_; rintro e w5 ⟨rfl, h5⟩; have h5' := h5.symm; subst h5')
    | (go_at_call 52; refine (cT.out _).mono ?_; rintro e w5 ⟨rfl, h5⟩; have h5' := h5.symm; subst h5')
    | (go_at_call 54; refine (cA.out _ (by assumption)).mono ?_; rintro e w6 ⟨rfl, f6⟩; have frc := frb.trans f6)
    | go_in)
  all_goals
    have hR := HR.out
    clear HR
    go_ret
    refine ⟨congrArg (fun b => Ending.returned (Value.bool b)) ?_, by first | exact frb | assumption⟩
    rw [← hR]
    simp [*]

set_option maxHeartbeats 8000000 in
set_option maxRecDepth 100000 in
theorem fits_0 (w : World) (b off c n : Nat) (i : Nat) (hi : i < n) (hl : n ≤ 16384) (NM VL : ByteArray) (P : Int) (U : Nat) (TB : Bool) (K : Nat) (k1 : ((K : Int) == 1) = false) (k2 : ((K : Int) == 2) = false) (k3 : ((K : Int) == 3) = false) (k4 : ((K : Int) == 4) = false) (k5 : ((K : Int) == 5) = false) (k6 : ((K : Int) == 6) = false)
    (c0 : w.cell? ⟨b, off + i * 4, none⟩ = some (.int .u8 ((K : Nat) : Int))) (c1 : w.cell? ⟨b, off + i * 4 + 1, none⟩ = some (.string NM)) (c2 : w.cell? ⟨b, off + i * 4 + 2, none⟩ = some (.string VL)) (c3 : w.cell? ⟨b, off + i * 4 + 3, none⟩ = some (.int .i64 P))
    (cU : Hid (∀ w', Fr [] w w' → Calls Tryd.prog 51 #[.slice (some ⟨b, off, none⟩) n c, .int .i64 (i : Int)] w' fun e w'' => e = .returned (.int .u8 (U : Int)) ∧ w'' = w'))
    (cT : Hid (∀ w', Calls Tryd.prog 52 #[.string VL] w' fun e w'' => e = .returned (.bool TB) ∧ w'' = w'))
    : Calls Tryd.prog 45 #[.slice (some ⟨b, off, none⟩) n c, .int .i64 (i : Int)] w fun e w' => e = .returned (.bool (TB && (!(decide ((65536 : Int) < (VL.size : Int))) && (false)))) ∧ Fr [] w w' := by
  have hi' : (i : Int) < (n : Int) := by omega
  have hi0 : (0 : Int) ≤ (i : Int) := by omega
  obtain ⟨R, HR⟩ : ∃ R, Hid ((TB && (!(decide ((65536 : Int) < (VL.size : Int))) && (false))) = R) := ⟨_, rfl⟩
  rw [HR.out]
  go_enter Tryd.func45, Tryd.ntmps45
  go_wp2_with (first
    | (refine wp_alloc 37 rfl rfl _ zeroN _ rfl ?_; intro wa ga hga hca fa)
    | (refine wp_storeC 37 rfl _ _ rfl ga _ (ndC K NM VL P) rfl rfl hca infoN rfl (ndC_one _ _ _ _) ?_; intro wb hcb fb; have frb : Fr [] w wb := (fa).then fb (fun j hj hm => (by simp at hm; omega)); have n0 : wb.cell? ⟨ga, 0, none⟩ = some (.int .u8 ((K : Nat) : Int)) := hcb.cell 0; have n1 : wb.cell? ⟨ga, 1, none⟩ = some (.string NM) := hcb.cell 1; have n2 : wb.cell? ⟨ga, 2, none⟩ = some (.string VL) := hcb.cell 2; have n3 : wb.cell? ⟨ga, 3, none⟩ = some (.int .i64 P) := hcb.cell 3)
    | (go_at_call 51; refine (cU.out _ (by first | exact Fr.refl _ _ | assumption)).mono ?_; rintro e w5 ⟨rfl, h5⟩; have h5' := h5.symm; subst h5')
    | (go_at_call 52; refine (cT.out _).mono ?_; rintro e w5 ⟨rfl, h5⟩; have h5' := h5.symm; subst h5')
    | go_in)
  all_goals
    have hR := HR.out
    clear HR
    go_ret
    refine ⟨congrArg (fun b => Ending.returned (Value.bool b)) ?_, by first | exact frb | assumption⟩
    rw [← hR]
    simp [*]

set_option maxHeartbeats 8000000 in
set_option maxRecDepth 100000 in
theorem fits_noT (w : World) (b off c n : Nat) (i : Nat) (hi : i < n) (hl : n ≤ 16384) (NM VL : ByteArray) (P : Int) (U : Nat) (K : Nat)
    (c0 : w.cell? ⟨b, off + i * 4, none⟩ = some (.int .u8 ((K : Nat) : Int))) (c1 : w.cell? ⟨b, off + i * 4 + 1, none⟩ = some (.string NM)) (c2 : w.cell? ⟨b, off + i * 4 + 2, none⟩ = some (.string VL)) (c3 : w.cell? ⟨b, off + i * 4 + 3, none⟩ = some (.int .i64 P))
    (cU : Hid (∀ w', Fr [] w w' → Calls Tryd.prog 51 #[.slice (some ⟨b, off, none⟩) n c, .int .i64 (i : Int)] w' fun e w'' => e = .returned (.int .u8 (U : Int)) ∧ w'' = w'))
    (cT : Hid (∀ w', Calls Tryd.prog 52 #[.string VL] w' fun e w'' => e = .returned (.bool false) ∧ w'' = w'))
    : Calls Tryd.prog 45 #[.slice (some ⟨b, off, none⟩) n c, .int .i64 (i : Int)] w fun e w' => e = .returned (.bool (false)) ∧ Fr [] w w' := by
  have hi' : (i : Int) < (n : Int) := by omega
  have hi0 : (0 : Int) ≤ (i : Int) := by omega
  go_enter Tryd.func45, Tryd.ntmps45
  go_wp2_with (first
      | (refine wp_alloc 37 rfl rfl _ zeroN _ rfl ?_; intro wa ga hga hca fa)
      | (refine wp_storeC 37 rfl _ _ rfl ga _ (ndC K NM VL P) rfl rfl hca infoN rfl (ndC_one _ _ _ _) ?_; intro wb hcb fb; have frb : Fr [] w wb := (fa).then fb (fun j hj hm => (by simp at hm; omega)); have n0 : wb.cell? ⟨ga, 0, none⟩ = some (.int .u8 ((K : Nat) : Int)) := hcb.cell 0; have n1 : wb.cell? ⟨ga, 1, none⟩ = some (.string NM) := hcb.cell 1; have n2 : wb.cell? ⟨ga, 2, none⟩ = some (.string VL) := hcb.cell 2; have n3 : wb.cell? ⟨ga, 3, none⟩ = some (.int .i64 P) := hcb.cell 3)
      | (go_at_call 51; refine (cU.out _ (by first | exact Fr.refl _ _ | assumption)).mono ?_; rintro e w5 ⟨rfl, h5⟩; have h5' := h5.symm; subst h5')
      | (go_at_call 52; refine (cT.out _).mono ?_; rintro e w5 ⟨rfl, h5⟩; have h5' := h5.symm; subst h5'))
  all_goals
    go_ret
    exact ⟨rfl, frb⟩
set_option maxHeartbeats 8000000 in
set_option maxRecDepth 100000 in
theorem fits_big (w : World) (b off c n : Nat) (i : Nat) (hi : i < n) (hl : n ≤ 16384) (NM VL : ByteArray) (P : Int) (U : Nat) (K : Nat) (hSz : (65536 : Int) < (VL.size : Int))
    (c0 : w.cell? ⟨b, off + i * 4, none⟩ = some (.int .u8 ((K : Nat) : Int))) (c1 : w.cell? ⟨b, off + i * 4 + 1, none⟩ = some (.string NM)) (c2 : w.cell? ⟨b, off + i * 4 + 2, none⟩ = some (.string VL)) (c3 : w.cell? ⟨b, off + i * 4 + 3, none⟩ = some (.int .i64 P))
    (cU : Hid (∀ w', Fr [] w w' → Calls Tryd.prog 51 #[.slice (some ⟨b, off, none⟩) n c, .int .i64 (i : Int)] w' fun e w'' => e = .returned (.int .u8 (U : Int)) ∧ w'' = w'))
    (cT : Hid (∀ w', Calls Tryd.prog 52 #[.string VL] w' fun e w'' => e = .returned (.bool true) ∧ w'' = w'))
    : Calls Tryd.prog 45 #[.slice (some ⟨b, off, none⟩) n c, .int .i64 (i : Int)] w fun e w' => e = .returned (.bool (false)) ∧ Fr [] w w' := by
  have hi' : (i : Int) < (n : Int) := by omega
  have hi0 : (0 : Int) ≤ (i : Int) := by omega
  go_enter Tryd.func45, Tryd.ntmps45
  go_wp2_with (first
      | (refine wp_alloc 37 rfl rfl _ zeroN _ rfl ?_; intro wa ga hga hca fa)
      | (refine wp_storeC 37 rfl _ _ rfl ga _ (ndC K NM VL P) rfl rfl hca infoN rfl (ndC_one _ _ _ _) ?_; intro wb hcb fb; have frb : Fr [] w wb := (fa).then fb (fun j hj hm => (by simp at hm; omega)); have n0 : wb.cell? ⟨ga, 0, none⟩ = some (.int .u8 ((K : Nat) : Int)) := hcb.cell 0; have n1 : wb.cell? ⟨ga, 1, none⟩ = some (.string NM) := hcb.cell 1; have n2 : wb.cell? ⟨ga, 2, none⟩ = some (.string VL) := hcb.cell 2; have n3 : wb.cell? ⟨ga, 3, none⟩ = some (.int .i64 P) := hcb.cell 3)
      | (go_at_call 51; refine (cU.out _ (by first | exact Fr.refl _ _ | assumption)).mono ?_; rintro e w5 ⟨rfl, h5⟩; have h5' := h5.symm; subst h5')
      | (go_at_call 52; refine (cT.out _).mono ?_; rintro e w5 ⟨rfl, h5⟩; have h5' := h5.symm; subst h5'))
  all_goals
    go_ret
    exact ⟨rfl, frb⟩
end Go.Proofs.YtjdcfaaoicnajaaDoor

