/-
  Labels: kidStep.
-/
import Derived.Test.YtddcilmeignlmaaGreatDoorFmt
import Derived.Test.YtddcilmeignlmaaGreatDoorShelf
namespace Go.Proofs.YtddcilmeignlmaaGreatDoor
open Go.RowKit Go.Maps Go.Lib

theorem fr_below {w w' : World} (h : Below w.heap.size w w') : Fr [] w w' := ⟨h.os, h.tape, h.output, h.size, fun k hk _ => h.block k hk⟩

theorem repeat_txt (c : Nat) : Lib.repeatL [(48 : UInt8)] c = txt (List.replicate c false) := by
  induction c with
  | zero => rfl
  | succ c ih => simp [Lib.repeatL, List.replicate_succ, txt] at ih ⊢ <;> simp_all [chr]

theorem repeat0 (w : World) (c : Nat) (hc : c ≤ 1000) : Calls Tryz.prog 70 #[.string ⟨#[48]⟩, .int .i64 (c : Int)] w fun e w' => e = .returned (.string (mkS (txt (List.replicate c false)))) ∧ Fr [] w w' := by
  refine (Tryz.strings_Repeat ⟨#[48]⟩ c w (by omega) (by show 1 * c ≤ _; omega)).mono ?_
  rintro e w' ⟨rfl, b⟩
  refine ⟨?_, fr_below b⟩
  rw [← repeat_txt]
  rfl

/-- Bits without the noughts at their end. -/
def trimS (s : List Bool) : List Bool := (s.reverse.dropWhile (fun b => !b)).reverse

theorem trimS_le (s : List Bool) : (trimS s).length ≤ s.length := by
  unfold trimS
  rw [List.length_reverse]
  have := (List.dropWhile_sublist (fun b => !b) (l := s.reverse)).length_le
  rwa [List.length_reverse] at this
theorem trim_txt (s : List Bool) : Lib.trimRightB (txt s) 48 = txt (trimS s) := by
  unfold Lib.trimRightB trimS txt
  rw [← List.map_reverse, List.map_reverse (l := List.dropWhile _ _)]
  congr 1
  generalize s.reverse = r
  induction r with
  | nil => rfl
  | cons b r ih =>
    cases b
    · simpa [List.dropWhile, chr] using ih
    · simp [List.dropWhile, chr]
theorem trim0 (w : World) (s : List Bool) (hs : s.length ≤ 1000) : Calls Tryz.prog 71 #[.string (mkS (txt s)), .string ⟨#[48]⟩] w fun e w' => e = .returned (.string (mkS (txt (trimS s)))) ∧ w' = w := by
  refine (Tryz.strings_TrimRight_one (mkS (txt s)) 48 (by decide) w (by rw [mkS_size, txt_length]; omega)).mono ?_
  rintro e w' ⟨rfl, rfl⟩
  refine ⟨?_, rfl⟩
  rw [← trim_txt]
  rfl
theorem top_one {i j k : Nat} (h : i / 2 ^ j < 2 ∧ (j = 0 ∨ 2 ^ j ≤ i)) (g : i / 2 ^ k < 2 ∧ (k = 0 ∨ 2 ^ k ≤ i)) : j = k := by
  have key : ∀ a b : Nat, i / 2 ^ a < 2 → (b = 0 ∨ 2 ^ b ≤ i) → ¬ a < b := fun a b h1 h2 hab => by
    rcases h2 with e | e
    · omega
    · have h3 : 2 ^ (a + 1) ≤ 2 ^ b := Nat.pow_le_pow_right (by omega) hab
      have h4 : 2 ≤ i / 2 ^ a := (Nat.le_div_iff_mul_le (Nat.two_pow_pos a)).2 (by rw [Nat.pow_succ] at h3; omega)
      omega
  have h1 := key j k h.1 g.2
  have h2 := key k j g.1 h.2
  omega

set_option maxHeartbeats 1000000 in
set_option maxRecDepth 100000 in
theorem kidStep_any (w : World) (h : Laid w) (i wide j c : Nat) (hi : i ≤ 16384) (hw : c + (j + 1) = wide) (hw2 : wide ≤ 1000) (hj : i / 2 ^ j < 2 ∧ (j = 0 ∨ 2 ^ j ≤ i)) :
    Calls Tryz.prog 49 #[.int .i64 (i : Int), .int .i64 (wide : Int)] w fun e w' => e = .returned (.string (mkS (txt (List.replicate c false ++ trimS (lowB i (j + 1)))))) ∧ Fr [] w w' := by
  have hb := binary_any w h i hi
  have HJ : Hid (i / 2 ^ j < 2 ∧ (j = 0 ∨ 2 ^ j ≤ i)) := hj
  have HC : Hid (c ≤ 1000) := (by omega : c ≤ 1000)
  obtain ⟨J, hJ⟩ : ∃ J, j + 1 = J := ⟨_, rfl⟩
  have hwi : (wide : Int) - (J : Int) = (c : Int) := by omega
  have hw3 : (wide : Int) ≤ 1000 := by omega
  have hJ3 : (J : Int) ≤ 1000 := by omega
  have hc0 : (0 : Int) ≤ (c : Int) := by omega
  have HJJ : Hid (j + 1 = J) := hJ
  have hl1 : (lowB i J).length ≤ 1000 := by rw [lowB_len]; omega
  have hsz : (mkS (txt (lowB i J))).size = J := by rw [mkS_size, txt_length, lowB_len]
  have happ : mkS (txt (List.replicate c false)) ++ mkS (txt (trimS (lowB i J))) = mkS (txt (List.replicate c false ++ trimS (lowB i J))) := by
    apply toList_inj
    simp [ByteArray.toList_eq, mkS, txt]
  have hno : ¬ 9223372036854775807 < (mkS (txt (List.replicate c false))).size + (mkS (txt (trimS (lowB i J)))).size := by
    have h1 := trimS_le (lowB i J)
    rw [mkS_size, mkS_size, txt_length, txt_length, List.length_replicate]
    omega
  rw [hJ]
  clear hj hw hJ h hi hw2
  go_enter Tryz.func49, Tryz.ntmps49
  go_wp2_with fail
  refine hb.mono ?_
  rintro e w1 ⟨k, rfl, h1, h2, f1⟩
  have hk := top_one HJ.out ⟨h1, h2⟩
  rw [← hk, HJJ.out]
  clear h1 h2 hk hb
  go_wp2_with fail
  refine (repeat0 _ c HC.out).mono ?_
  rintro e w2 ⟨rfl, f2⟩
  go_wp2_with fail
  refine (trim0 _ _ hl1).mono ?_
  rintro e w3 ⟨rfl, rfl⟩
  go_wp2_with fail
  go_ret
  exact ⟨rfl, f1.trans f2⟩

end Go.Proofs.YtddcilmeignlmaaGreatDoor
