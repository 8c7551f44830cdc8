/-
  Go: oneself and ancestors, oneself and descendants; every axis.
-/
import Derived.Test.YtdfgmdddnehocabGreatDoorTParts
namespace Go.Proofs.YtdfgmdddnehocabGreatDoor
open Go.RowKit Go.Maps Go.Lib

set_option maxHeartbeats 4000000 in
theorem Go_ancself (w : World) (b off c : Nat) (t : List Nd) (k : Nat) (A : At w b off c t k) :
    Calls Tryz.prog 11 #[.slice (some ⟨b, off, none⟩) t.length c, .int .i64 (k : Int), .int .u8 12] w fun e w' => (∃ v, e = .returned v ∧ Ints w w' v (k :: anc t k)) ∧ Fr [] w w' := by
  have hal := anc_len t k
  have hal2 : (anc t k).length ≤ 16384 := by have := A.lt; have := A.len; omega
  have HA := Hid.mk A
  clear A
  go_enter Tryz.func11, Tryz.ntmps11
  go_wp2_with (first
    | (go_at_call 18; refine (HA.out.has _ (Fr.refl _ _)).mono ?_; rintro e w5 ⟨rfl, f5⟩)
    | fail)
  refine (ancestors_any _ b off c t (HA.out.nodes.kept (f5.alloc _) (by simp)) HA.out.len k HA.out.lt (fun j hj => (HA.out.good j (by have := HA.out.lt; omega)).1)).mono ?_
  rintro e w7 ⟨⟨v, rfl, hv⟩, f7⟩
  obtain ⟨adv, capv, rfl, _⟩ := hv.shape
  have h1 := (ints_one f5 k).kept0 f7
  obtain ⟨lz, hlz⟩ : ∃ lz, (anc t k).length = lz := ⟨_, rfl⟩
  have HLZ := Hid.mk hlz
  rw [hlz] at hv hal2 ⊢
  have HV := Hid.mk hv
  have HO := Hid.mk h1
  clear hv h1 hlz
  go_wp2_with (first
    | (refine wp_appIs rfl _ _ rfl w (.slice (some ⟨w5.heap.size, 0, none⟩) 1 1) [k] rfl HO.out ((f5.alloc _).trans f7) _ (.slice adv lz capv) (anc t k) rfl HV.out (by rw [HLZ.out]; simp; omega) ?_; intro v8 w8 h8 fr8 f8)
    | fail)
  go_ret
  exact ⟨⟨v8, rfl, h8⟩, fr8⟩
set_option maxHeartbeats 4000000 in
theorem Go_descself (w : World) (b off c : Nat) (t : List Nd) (k : Nat) (A : At w b off c t k) :
    Calls Tryz.prog 11 #[.slice (some ⟨b, off, none⟩) t.length c, .int .i64 (k : Int), .int .u8 11] w fun e w' => (∃ v, e = .returned v ∧ Ints w w' v (k :: str t (k + 1) (endOf t k))) ∧ Fr [] w w' := by
  have hEl := end_len t k A.lt
  have hEg := (endOf_is (t := t) (k := (k : Int)) (by omega) (by have := A.lt; omega)).gt
  obtain ⟨E, hE⟩ : ∃ E, endOf t k = E := ⟨_, rfl⟩
  rw [hE] at hEl hEg ⊢
  have hal2 : (str t (k + 1) E).length ≤ 16384 := by
    have h1 : (str t (k + 1) E).length ≤ (List.range' (k + 1) (E - (k + 1))).length := List.length_filter_le _ _
    rw [List.length_range'] at h1
    have := A.len
    omega
  have HE := Hid.mk hE
  have hk2 : (k : Int) ≤ 16384 := by have h1 := A.lt; have h2 := A.len; omega
  have HA := Hid.mk A
  clear A hE
  go_enter Tryz.func11, Tryz.ntmps11
  go_wp2_with (first
    | (go_at_call 18; refine (HA.out.has _ (Fr.refl _ _)).mono ?_; rintro e w5 ⟨rfl, f5⟩)
    | fail)
  refine (end_any _ b off c t (HA.out.nodes.kept (f5.alloc _) (by simp)) HA.out.len k HA.out.lt).mono ?_
  rw [HE.out]
  rintro e w6 ⟨rfl, f6⟩
  go_wp2_with fail
  refine (stretch_any _ b off c t (HA.out.nodes.kept ((f5.alloc _).trans f6) (by simp)) HA.out.len (k + 1) E hEl (by omega)).mono ?_
  rintro e w7 ⟨⟨v, rfl, hv⟩, f7⟩
  obtain ⟨adv, capv, rfl, _⟩ := hv.shape
  have h1 := ((ints_one f5 k).kept0 f6).kept0 f7
  obtain ⟨lz, hlz⟩ : ∃ lz, (str t (k + 1) E).length = lz := ⟨_, rfl⟩
  have HLZ := Hid.mk hlz
  rw [hlz] at hv hal2 ⊢
  have HV := Hid.mk hv
  have HO := Hid.mk h1
  clear hv h1 hlz
  go_wp2_with (first
    | (refine wp_appIs rfl _ _ rfl w (.slice (some ⟨w5.heap.size, 0, none⟩) 1 1) [k] rfl HO.out (((f5.alloc _).trans f6).trans f7) _ (.slice adv lz capv) (str t (k + 1) E) rfl HV.out (by rw [HLZ.out]; simp; omega) ?_; intro v8 w8 h8 fr8 f8)
    | fail)
  go_ret
  exact ⟨⟨v8, rfl, h8⟩, fr8⟩
theorem Go_no (w : World) (L : LaidW w) (ad : Option Addr) (n c : Nat) (t : List Nd) (hn : t.length = n) (hN : NodesAt w ad t) (hS : Sane t) (k : Int) (ax : Int) (hh : hasB t k = false) :
    Calls Tryz.prog 11 #[.slice ad n c, .int .i64 k, .int .u8 ax] w fun e w' => (∃ v, e = .returned v ∧ Ints w w' v []) ∧ Fr [] w w' := by
  have cH := has_any w L ad c n t hn hN hS k
  rw [hh] at cH
  have CH := Hid.mk cH
  clear cH hn hN hS L hh
  go_enter Tryz.func11, Tryz.ntmps11
  go_wp2_with (go_at_call 18; refine CH.out.mono ?_; rintro e w5 ⟨rfl, f5⟩)
  go_ret
  exact ⟨⟨_, rfl, Ints.nil _ _⟩, f5⟩
set_option maxHeartbeats 4000000 in
theorem Go_other (w : World) (b off c : Nat) (t : List Nd) (k : Nat) (A : At w b off c t k) (ax : Int) (h : ∀ i : Nat, 1 ≤ i → i ≤ 12 → ax ≠ (i : Int)) :
    Calls Tryz.prog 11 #[.slice (some ⟨b, off, none⟩) t.length c, .int .i64 (k : Int), .int .u8 ax] w fun e w' => (∃ v, e = .returned v ∧ Ints w w' v []) ∧ Fr [] w w' := by
  have b1 : (ax == 1) = false := by rw [beq_eq_false_iff_ne]; exact h 1 (by omega) (by omega)
  have b2 : (ax == 2) = false := by rw [beq_eq_false_iff_ne]; exact h 2 (by omega) (by omega)
  have b3 : (ax == 3) = false := by rw [beq_eq_false_iff_ne]; exact h 3 (by omega) (by omega)
  have b4 : (ax == 4) = false := by rw [beq_eq_false_iff_ne]; exact h 4 (by omega) (by omega)
  have b5 : (ax == 5) = false := by rw [beq_eq_false_iff_ne]; exact h 5 (by omega) (by omega)
  have b6 : (ax == 6) = false := by rw [beq_eq_false_iff_ne]; exact h 6 (by omega) (by omega)
  have b7 : (ax == 7) = false := by rw [beq_eq_false_iff_ne]; exact h 7 (by omega) (by omega)
  have b8 : (ax == 8) = false := by rw [beq_eq_false_iff_ne]; exact h 8 (by omega) (by omega)
  have b9 : (ax == 9) = false := by rw [beq_eq_false_iff_ne]; exact h 9 (by omega) (by omega)
  have b10 : (ax == 10) = false := by rw [beq_eq_false_iff_ne]; exact h 10 (by omega) (by omega)
  have b11 : (ax == 11) = false := by rw [beq_eq_false_iff_ne]; exact h 11 (by omega) (by omega)
  have b12 : (ax == 12) = false := by rw [beq_eq_false_iff_ne]; exact h 12 (by omega) (by omega)
  have HA := Hid.mk A
  clear A h
  go_enter Tryz.func11, Tryz.ntmps11
  go_wp2_with (go_at_call 18; refine (HA.out.has _ (Fr.refl _ _)).mono ?_; rintro e w5 ⟨rfl, f5⟩)
  go_ret
  exact ⟨⟨_, rfl, Ints.nil _ _⟩, f5⟩

/-- Where an axis goes. -/
def goA (t : List Nd) (k : Nat) : Nat → List Nat
  | 1 => kidsL t k
  | 2 => str t (k + 1) (endOf t k)
  | 3 => (anc t k).take 1
  | 4 => anc t k
  | 5 => sibBehind t k
  | 6 => (sibAhead t k).reverse
  | 7 => str t (endOf t k) t.length
  | 8 => prec t k
  | 9 => attrsL k (attrEnds t k)
  | 10 => [k]
  | 11 => k :: str t (k + 1) (endOf t k)
  | 12 => k :: anc t k
  | _ => []
def goL (t : List Nd) (k : Int) (ax : Nat) : List Nat := if hasB t k = true then goA t k.toNat ax else []
theorem Go_any (w : World) (L : LaidW w) (ad : Option Addr) (n c : Nat) (t : List Nd) (hn : t.length = n) (hN : NodesAt w ad t) (hS : Sane t) (k : Int) (ax : Nat) :
    Calls Tryz.prog 11 #[.slice ad n c, .int .i64 k, .int .u8 (ax : Int)] w fun e w' => (∃ v, e = .returned v ∧ Ints w w' v (goL t k ax)) ∧ Fr [] w w' := by
  unfold goL
  cases hh : hasB t k with
  | false =>
    rw [if_neg (by decide)]
    exact Go_no w L ad n c t hn hN hS k ax hh
  | true =>
    rw [if_pos rfl]
    have h := hh
    unfold hasB at h
    rw [Bool.and_eq_true, decide_eq_true_eq] at h
    obtain ⟨m, rfl⟩ : ∃ m : Nat, k = (m : Int) := ⟨k.toNat, by omega⟩
    rw [Int.toNat_natCast]
    obtain ⟨b, off, rfl, hI⟩ := hN.in (by omega)
    subst hn
    have A : At w b off c t m := At.mk' L hI hS hh
    by_cases hx : 1 ≤ ax ∧ ax ≤ 12
    · rcases (by omega : ax = 1 ∨ ax = 2 ∨ ax = 3 ∨ ax = 4 ∨ ax = 5 ∨ ax = 6 ∨ ax = 7 ∨ ax = 8 ∨ ax = 9 ∨ ax = 10 ∨ ax = 11 ∨ ax = 12) with rfl | rfl | rfl | rfl | rfl | rfl | rfl | rfl | rfl | rfl | rfl | rfl
      · exact Go_child w b off c t m A
      · exact Go_desc w b off c t m A
      · exact Go_parent w b off c t m A
      · exact Go_anc w b off c t m A
      · exact Go_fsib w b off c t m A
      · exact Go_psib w b off c t m A
      · exact Go_foll' w b off c t m A
      · exact Go_prec w b off c t m A
      · exact Go_attr w b off c t m A
      · exact Go_self w b off c t m A
      · exact Go_descself w b off c t m A
      · exact Go_ancself w b off c t m A
    · have e : goA t m ax = [] := by
        unfold goA
        split <;> first | rfl | omega
      rw [e]
      exact Go_other w b off c t m A ax (fun i h1 h2 he => hx (by omega))
end Go.Proofs.YtdfgmdddnehocabGreatDoor
