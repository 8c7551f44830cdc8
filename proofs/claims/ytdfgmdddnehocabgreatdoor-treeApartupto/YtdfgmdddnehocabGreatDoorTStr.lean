/-
  stretch, ancestors, preceding.
-/
import Derived.Test.YtdfgmdddnehocabGreatDoorTEnd
namespace Go.Proofs.YtdfgmdddnehocabGreatDoor
open Go.RowKit Go.Maps Go.Lib

set_option maxHeartbeats 4000000 in
set_option maxRecDepth 100000 in
theorem stretch_any (w : World) (b off c : Nat) (t : List Nd) (hN : NodesIn w b off t) (hl : t.length ≤ 16384) (x y : Nat) (hy : y ≤ t.length) (hxy : x ≤ y) :
    Calls Tryz.prog 29 #[.slice (some ⟨b, off, none⟩) t.length c, .int .i64 (x : Int), .int .i64 (y : Int)] w fun e w' => (∃ v, e = .returned v ∧ Ints w w' v (str t x y)) ∧ Fr [] w w' := by
  have HN := Hid.mk hN
  clear hN
  go_enter Tryz.func29, Tryz.ntmps29
  go_wp2
  go_loopw [7, 8] (fun s5 s6 wr => ∃ i : Nat, s6 = .int .i64 (i : Int) ∧ x ≤ i ∧ i ≤ y ∧ Hid (Ints w wr s5 (str t x i)) ∧ Hid (Fr [] w wr)) (fun _ s6 _ => y - (RowKit.intOf s6).toNat)
  case atStart => exact ⟨x, rfl, Nat.le_refl _, hxy, (by show Ints _ _ _ (str t x x); rw [str_nil (Nat.le_refl _)]; exact Ints.nil _ _), Fr.refl _ _⟩
  case round =>
    obtain ⟨i, rfl, hxi, hiy, hI, frh⟩ := hrel
    have hi0 : (0 : Int) ≤ (i : Int) := by omega
    by_cases hlt : i < y
    · have hlt' : (i : Int) < (y : Int) := by omega
      have hil : (i : Int) < (t.length : Int) := by omega
      obtain ⟨c0, c1, c2, c3⟩ := (HN.out.kept frh.out (by simp)) i (by omega)
      have hst := str_step (t := t) (a := x) (b := i) hxi
      have hlen : (str t x i).length ≤ 16384 := by
        have : (str t x i).length ≤ (List.range' x (i - x)).length := List.length_filter_le _ _
        rw [List.length_range'] at this
        omega
      by_cases hk : knd t i = 3
      · rw [if_neg (by simp [hk])] at hst
        have HS := Hid.mk hst
        rw [hk] at c0
        clear hst hk c1 c2 c3
        go_wp2
        exact ⟨⟨i + 1, by go_num, by omega, by omega, by rw [show str t x (i + 1) = str t x i from HS.out]; exact hI, frh⟩, by simp [RowKit.intOf]; omega⟩
      · rw [if_pos hk] at hst
        have HS := Hid.mk hst
        have hkb : ((((knd t i : Nat)) : Int) != 3) = true := by rw [bne_iff_ne]; omega
        generalize knd t i = K at c0 hkb
        clear hst hk c1 c2 c3
        obtain ⟨ad, cap, rfl, _⟩ := hI.out.shape
        go_wp2_with (first
          | (refine wp_appI rfl _ _ rfl w _ _ rfl (hI.out.kept0 ((Fr.refl _ _).alloc _)) (by have := frh.out.size; simp; omega) wr.heap.size 1 i rfl (cell_new1 _ _ _) (by omega) ?_ (frh.out.alloc _); intro v' w' hI' _ f')
          | go_in)
        exact ⟨⟨i + 1, by go_num, by omega, by omega, by show Ints _ _ _ (str t x (i + 1)); rw [HS.out]; exact hI', f'⟩, by simp [RowKit.intOf]; omega⟩
    · obtain rfl : i = y := by omega
      go_wp2
      go_ret
      exact ⟨⟨_, rfl, hI.out⟩, frh.out⟩
theorem anc_len (t : List Nd) : ∀ i, (anc t i).length ≤ i := by
  intro i
  induction i using Nat.strongRecOn with
  | _ i ih =>
    rw [anc]
    split
    · rename_i c
      have := ih (par t i).toNat (by omega)
      rw [List.length_cons]
      omega
    · exact Nat.zero_le _
set_option maxHeartbeats 4000000 in
set_option maxRecDepth 100000 in
theorem ancestors_any (w : World) (b off c : Nat) (t : List Nd) (hN : NodesIn w b off t) (hl : t.length ≤ 16384) (k : Nat) (hk : k < t.length) (hO : ∀ j, j ≤ k → Ord t j) :
    Calls Tryz.prog 28 #[.slice (some ⟨b, off, none⟩) t.length c, .int .i64 (k : Int)] w fun e w' => (∃ v, e = .returned v ∧ Ints w w' v (anc t k)) ∧ Fr [] w w' := by
  have HN := Hid.mk hN
  have HO := Hid.mk hO
  obtain ⟨c0, c1, c2, c3⟩ := hN k hk
  have hk' : (k : Int) < (t.length : Int) := by omega
  have hk0 : (0 : Int) ≤ (k : Int) := by omega
  have H0 : Hid (anc t k = ancI t (par t k)) := anc_eq (hO k (Nat.le_refl _)).2.1
  have hlen := anc_len t k
  have hp1 : par t k < (k : Int) := (hO k (Nat.le_refl _)).2.1
  obtain ⟨AN, HAN⟩ : ∃ A, Hid (anc t k = A) := ⟨_, rfl⟩
  rw [HAN.out] at hlen ⊢
  replace H0 : Hid (ancI t (par t k) = AN) := H0.out.symm.trans HAN.out
  generalize par t k = P0 at c3 H0 hp1
  clear hN hO c0 c1 c2
  go_enter Tryz.func28, Tryz.ntmps28
  go_wp2
  go_loopw [5, 6] (fun s5 s6 wr => ∃ (u : Int) (l : List Nat), s6 = .int .i64 u ∧ u < (k : Int) ∧ Hid (l ++ ancI t u = AN) ∧ Hid (Ints w wr s5 l) ∧ Hid (Fr [] w wr)) (fun _ s6 _ => (RowKit.intOf s6 + 1).toNat)
  case atStart => exact ⟨P0, [], rfl, hp1, H0.out, Ints.nil _ _, Fr.refl _ _⟩
  case round =>
    obtain ⟨u, l, rfl, hu, hL, hI, frh⟩ := hrel
    by_cases h0 : u < 0
    · have h0' : ¬ (0 : Int) ≤ u := by omega
      have e := hL.out
      rw [ancI_neg t u h0, List.append_nil] at e
      subst e
      go_wp2
      go_ret
      exact ⟨⟨_, rfl, hI.out⟩, frh.out⟩
    · have h0' : (0 : Int) ≤ u := by omega
      obtain ⟨m, rfl⟩ : ∃ m : Nat, u = (m : Int) := ⟨u.toNat, by omega⟩
      have hm : (m : Int) < (t.length : Int) := by omega
      have om := HO.out m (by omega)
      have hL' : Hid ((l ++ [m]) ++ ancI t (par t m) = AN) := by
        show _ = _
        rw [← hL.out, ancI_nat, anc_eq om.2.1, List.append_assoc]
        rfl
      have hpm := om.2.1
      have hll : l.length ≤ AN.length := by rw [← hL.out, List.length_append]; omega
      obtain ⟨ad, cap, rfl, _⟩ := hI.out.shape
      obtain ⟨d0, d1, d2, d3⟩ := (HN.out.kept frh.out (by simp)) m (by omega)
      have hpar := d3
      obtain ⟨p, hp⟩ : ∃ p, par t m = p := ⟨_, rfl⟩
      rw [hp] at hL' hpm
      have HP := Hid.mk hp
      clear d0 d1 d2 d3 om hp hpar hL
      go_wp2_with (first
        | (refine wp_appI rfl _ _ rfl w _ _ rfl (hI.out.kept0 ((Fr.refl _ _).alloc _)) (by have := frh.out.size; simp; omega) wr.heap.size 1 m rfl (cell_new1 _ _ _) (by omega) ?_ (frh.out.alloc _); intro v' w' hI' _ f'; obtain ⟨d0, d1, d2, d3⟩ := (HN.out.kept f' (by simp)) m (by omega); rw [HP.out] at d3; clear d0 d1 d2)
        | go_in)
      exact ⟨⟨p, l ++ [m], rfl, by omega, hL', hI', f'⟩, by simp [RowKit.intOf]; omega⟩

def precTo (t : List Nd) (k i : Nat) : List Nat := (List.range' i (k - i)).reverse.filter fun j => decide (j ∉ anc t k) && nat3 t j
theorem precTo_end (t : List Nd) (k : Nat) : precTo t k k = [] := by
  unfold precTo
  rw [Nat.sub_self]
  rfl
theorem precTo_zero (t : List Nd) (k : Nat) : precTo t k 0 = prec t k := by
  unfold precTo prec
  rw [Nat.sub_zero, List.range_eq_range']
theorem precTo_step (t : List Nd) {k i : Nat} (h : i < k) : precTo t k i = precTo t k (i + 1) ++ (if i ∉ anc t k ∧ knd t i ≠ 3 then [i] else []) := by
  unfold precTo
  rw [show k - i = (k - (i + 1)) + 1 by omega, List.range'_succ, List.reverse_cons, List.filter_append]
  congr 1
  by_cases h1 : i ∉ anc t k
  · by_cases h2 : knd t i ≠ 3
    · rw [if_pos ⟨h1, h2⟩]; simp [nat3, h1, h2]
    · rw [if_neg (fun x => h2 x.2)]; simp [nat3, h2]
  · rw [if_neg (fun x => h1 x.1)]; simp [h1]
theorem precTo_len (t : List Nd) (k i : Nat) : (precTo t k i).length ≤ k := by
  have : (precTo t k i).length ≤ ((List.range' i (k - i)).reverse).length := List.length_filter_le _ _
  rw [List.length_reverse, List.length_range'] at this
  omega
set_option maxHeartbeats 8000000 in
set_option maxRecDepth 100000 in
theorem preceding_any (w : World) (b off c : Nat) (t : List Nd) (hN : NodesIn w b off t) (hl : t.length ≤ 16384) (k : Nat) (hk : k < t.length) (hO : ∀ j, j ≤ k → Ord t j) :
    Calls Tryz.prog 32 #[.slice (some ⟨b, off, none⟩) t.length c, .int .i64 (k : Int)] w fun e w' => (∃ v, e = .returned v ∧ Ints w w' v (prec t k)) ∧ Fr [] w w' := by
  have HN := Hid.mk hN
  have HO := Hid.mk hO
  obtain ⟨c0, c1, c2, c3⟩ := hN k hk
  have hk' : (k : Int) < (t.length : Int) := by omega
  have hk0 : (0 : Int) ≤ (k : Int) := by omega
  have H0 : Hid (∀ a, a < k → (a ∈ anc t k ↔ a ∈ ancI t (par t k))) := fun a _ => by rw [anc_eq (hO k (Nat.le_refl _)).2.1]
  have hp1 : par t k < (k : Int) := (hO k (Nat.le_refl _)).2.1
  rw [← precTo_zero]
  generalize par t k = P0 at c3 H0 hp1
  clear hN hO c0 c1 c2
  go_enter Tryz.func32, Tryz.ntmps32
  go_wp2
  go_loopw [5, 6, 7] (fun s5 s6 s7 wr => ∃ (u : Int) (i : Nat), s6 = .int .i64 u ∧ s7 = .int .i64 ((i : Int) - 1) ∧ u < (i : Int) ∧ i ≤ k ∧ Hid (∀ a, a < i → (a ∈ anc t k ↔ a ∈ ancI t u)) ∧ Hid (Ints w wr s5 (precTo t k i)) ∧ Hid (Fr [] w wr)) (fun _ _ s7 _ => (RowKit.intOf s7 + 1).toNat)
  case atStart => exact ⟨P0, k, rfl, rfl, hp1, Nat.le_refl _, H0, (by show Ints _ _ _ (precTo t k k); rw [precTo_end]; exact Ints.nil _ _), Fr.refl _ _⟩
  case round =>
    obtain ⟨u, i, rfl, rfl, hu, hik, hA, hI, frh⟩ := hrel
    by_cases h0 : i = 0
    · subst h0
      go_wp2
      go_ret
      exact ⟨⟨_, rfl, hI.out⟩, frh.out⟩
    · obtain ⟨m, rfl⟩ : ∃ m, i = m + 1 := ⟨i - 1, by omega⟩
      have e1 : ((m + 1 : Nat) : Int) - 1 = (m : Int) := by omega
      rw [e1]
      have hm0 : (0 : Int) ≤ (m : Int) := by omega
      have hml : (m : Int) < (t.length : Int) := by omega
      obtain ⟨hS1, hS2⟩ := prec_step HO.out (i := m) (by omega) (u := u) (by omega) (fun a ha => hA.out a (by omega))
      have hst := precTo_step t (k := k) (i := m) (by omega)
      have hlen := precTo_len t k (m + 1)
      obtain ⟨c0, c1, c2, c3⟩ := (HN.out.kept frh.out (by simp)) m (by omega)
      obtain ⟨ad, cap, rfl, _⟩ := hI.out.shape
      by_cases hum : u = (m : Int)
      · obtain ⟨q1, q2, q3⟩ := hS1 hum
        rw [if_neg (fun x => x.1 q1), List.append_nil] at hst
        have HST := Hid.mk hst
        have HQ := Hid.mk q3
        generalize hp : par t m = p at c3 q2 HQ
        have hub : ((m : Int) == u) = true := by rw [beq_iff_eq]; omega
        clear hS1 hS2 hst q1 q3 c0 c1 c2 hum hp
        go_wp2
        exact ⟨⟨p, m, rfl, rfl, q2, by omega, HQ, by show Ints _ _ _ (precTo t k m); rw [HST.out]; exact hI.out, frh⟩, by simp [RowKit.intOf]⟩
      · have q1 := hS2 hum
        have hub : ((m : Int) == u) = false := by rw [beq_eq_false_iff_ne]; omega
        by_cases hk3 : knd t m = 3
        · rw [if_neg (by simp [hk3]), List.append_nil] at hst
          have HST := Hid.mk hst
          rw [hk3] at c0
          clear hS1 hS2 hst q1 c1 c2 c3 hk3
          go_wp2
          exact ⟨⟨u, m, rfl, rfl, by omega, by omega, fun a ha => hA.out a (by omega), by show Ints _ _ _ (precTo t k m); rw [HST.out]; exact hI.out, frh⟩, by simp [RowKit.intOf]⟩
        · rw [if_pos ⟨q1, hk3⟩] at hst
          have HST := Hid.mk hst
          have hkb : ((((knd t m : Nat)) : Int) != 3) = true := by rw [bne_iff_ne]; omega
          generalize knd t m = K at c0 hkb
          clear hS1 hS2 hst q1 c1 c2 c3 hk3
          go_wp2_with (first
            | (refine wp_appI rfl _ _ rfl w _ _ rfl (hI.out.kept0 ((Fr.refl _ _).alloc _)) (by have := frh.out.size; simp; omega) wr.heap.size 1 m rfl (cell_new1 _ _ _) (by omega) ?_ (frh.out.alloc _); intro v' w' hI' _ f')
            | go_in)
          exact ⟨⟨u, m, rfl, rfl, by omega, by omega, fun a ha => hA.out a (by omega), by show Ints _ _ _ (precTo t k m); rw [HST.out]; exact hI', f'⟩, by simp [RowKit.intOf]⟩
end Go.Proofs.YtdfgmdddnehocabGreatDoor
