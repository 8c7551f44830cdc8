/-
  What a Name, a Value, a place is.
-/
import Derived.Test.YtdfgmdddnehocabGreatDoorTFold
namespace Go.Proofs.YtdfgmdddnehocabGreatDoor
open Go.RowKit Go.Maps Go.Lib

def nmIs (l : List UInt8) : Nat := if l = [] then 1 else if nameB l = false then 8 else if xmlB l then 4 else 2
def vlIs (l : List UInt8) : Nat := if l = [] then 1 else if 65536 < l.length ∨ textsB l = false then 16 else 2 + (if has2 45 45 l = true ∨ l.getLast? = some 45 then 4 else 0) + (if has2 63 62 l = true ∨ blankB (l.take 1) = true then 8 else 0)
def plIs (t : List Nd) (p : Int) : Nat := if p < 0 then 1 else if knd t p.toNat = 1 then 2 else if knd t p.toNat = 2 then 4 else 8

/-- What lies in memory when a call begins. -/
structure LaidT (w : World) : Prop where
  chars : LaidC w
  folds : Folds w
  most : ∃ m : Int, w.cell? ⟨0, 0, none⟩ = some (.int .i64 m)
theorem LaidT.kept {w w' : World} (h : LaidT w) (f : Fr [] w w') : LaidT w' :=
  ⟨h.chars.kept f, h.folds.kept f, h.most.imp fun _ e => cell_fr f (by simp) e⟩

theorem bl_nil_of {s : ByteArray} (h : s.size = 0) : bl s = [] := List.eq_nil_of_length_eq_zero (by rw [bl_length]; exact h)
theorem bl_ne {s : ByteArray} (h : 0 < s.size) : ¬ bl s = [] := fun e => by rw [← bl_length, e] at h; exact absurd h (by simp)
theorem name_len {l : List UInt8} (h : nameB l = true) : l.length ≤ 100 := by
  unfold nameB at h
  rw [Bool.and_eq_true] at h
  exact of_decide_eq_true h.1

set_option maxHeartbeats 2000000 in
theorem nameIs_any (w : World) (L : LaidT w) (s : ByteArray) :
    Calls Tryz.prog 95 #[.string s] w fun e w' => e = .returned (.int .u8 (nmIs (bl s) : Nat)) ∧ Fr [] w w' := by
  have cN := name_any w L.chars s
  unfold nmIs
  by_cases h0 : s.size = 0
  · rw [if_pos (bl_nil_of h0)]
    have he := isEmpty_yes h0
    clear cN L
    go_enter Tryz.func95, Tryz.ntmps95
    go_wp2
    go_ret
    exact ⟨rfl, Fr.refl _ _⟩
  · rw [if_neg (bl_ne (by omega))]
    have he := isEmpty_no (s := s) (by omega)
    cases hn : nameB (bl s) with
    | false =>
      rw [hn] at cN
      have CN := Hid.mk cN
      rw [if_pos rfl]
      clear cN L hn
      go_enter Tryz.func95, Tryz.ntmps95
      go_wp2_with (go_at_call 101; refine CN.out.mono ?_; rintro e w5 ⟨rfl, f5⟩)
      go_ret
      exact ⟨rfl, f5⟩
    | true =>
      rw [hn] at cN
      rw [if_neg (by decide)]
      have hl := name_len hn
      rw [bl_length] at hl
      have CN := Hid.mk cN
      have HL := Hid.mk L
      cases hx : xmlB (bl s) with
      | true =>
        have HX := Hid.mk hx
        rw [if_pos rfl]
        clear cN L hn hx
        go_enter Tryz.func95, Tryz.ntmps95
        go_wp2_with (first
          | (go_at_call 101; refine CN.out.mono ?_; rintro e w5 ⟨rfl, f5⟩)
          | (go_at_call 102; refine (fold_any _ (HL.out.folds.kept f5) s hl).mono ?_; rw [HX.out]; rintro e w6 ⟨rfl, f6⟩))
        go_ret
        exact ⟨rfl, f5.trans f6⟩
      | false =>
        have HX := Hid.mk hx
        rw [if_neg (by decide)]
        clear cN L hn hx
        go_enter Tryz.func95, Tryz.ntmps95
        go_wp2_with (first
          | (go_at_call 101; refine CN.out.mono ?_; rintro e w5 ⟨rfl, f5⟩)
          | (go_at_call 102; refine (fold_any _ (HL.out.folds.kept f5) s hl).mono ?_; rw [HX.out]; rintro e w6 ⟨rfl, f6⟩))
        go_ret
        exact ⟨rfl, f5.trans f6⟩

theorem placeIs_any (w : World) (b off c : Nat) (t : List Nd) (hN : NodesIn w b off t) (p : Int) (hp : p < t.length) :
    Calls Tryz.prog 97 #[.slice (some ⟨b, off, none⟩) t.length c, .int .i64 p] w fun e w' => e = .returned (.int .u8 (plIs t p : Nat)) ∧ Fr [] w w' := by
  unfold plIs
  by_cases h0 : p < 0
  · rw [if_pos h0]
    clear hN
    go_enter Tryz.func97, Tryz.ntmps97
    go_wp2
    go_ret
    exact ⟨rfl, Fr.refl _ _⟩
  · rw [if_neg h0]
    obtain ⟨m, rfl⟩ : ∃ m : Nat, p = (m : Int) := ⟨p.toNat, by omega⟩
    obtain ⟨c0, c1, c2, c3⟩ := hN m (by omega)
    rw [Int.toNat_natCast]
    have hm0 : (0 : Int) ≤ (m : Int) := by omega
    generalize knd t m = K at c0 ⊢
    clear c1 c2 c3 hN
    by_cases k1 : K = 1
    · subst k1
      rw [if_pos rfl]
      go_enter Tryz.func97, Tryz.ntmps97
      go_wp2
      go_ret
      exact ⟨rfl, Fr.refl _ _⟩
    · rw [if_neg k1]
      have k1b : ((K : Int) == 1) = false := by rw [beq_eq_false_iff_ne]; omega
      by_cases k2 : K = 2
      · subst k2
        rw [if_pos rfl]
        go_enter Tryz.func97, Tryz.ntmps97
        go_wp2
        go_ret
        exact ⟨rfl, Fr.refl _ _⟩
      · rw [if_neg k2]
        have k2b : ((K : Int) == 2) = false := by rw [beq_eq_false_iff_ne]; omega
        go_enter Tryz.func97, Tryz.ntmps97
        go_wp2
        go_ret
        exact ⟨rfl, Fr.refl _ _⟩
end Go.Proofs.YtdfgmdddnehocabGreatDoor
