/-
  CharsNumbers.
-/
import Derived.Test.YtmhfbkafcpceiaaDoorCLaw1
namespace Go.Proofs.YtmhfbkafcpceiaaDoor
open Go.RowKit Go.Maps
set_option linter.unusedVariables false
set_option linter.unusedSimpArgs false

def endsL : List Int := [0, 9, 10, 13, 32, 45, 46, 48, 57, 58, 65, 90, 95, 97, 122, 127, 183, 192, 214, 215, 216, 246, 247, 248, 767, 768, 879, 880, 893, 894, 895, 8191, 8204, 8205, 8255, 8256, 8304, 8591, 11264, 12271, 12289, 55295, 55296, 57343, 57344, 63744, 64975, 65008, 65533, 65536, 983039, 1114111, -2147483648, 2147483647]
def endsA : Array Value := (endsL.map fun z => Value.int .i32 z).toArray
def oddL : List ByteArray := [⟨#[128]⟩, ⟨#[192, 128]⟩, ⟨#[193, 191]⟩, ⟨#[194]⟩, ⟨#[194, 32]⟩, ⟨#[224, 128, 128]⟩, ⟨#[224, 159, 191]⟩, ⟨#[224, 160]⟩, ⟨#[237, 160, 128]⟩, ⟨#[239, 191, 190]⟩, ⟨#[239, 191, 191]⟩, ⟨#[240, 128, 128, 128]⟩, ⟨#[240, 143, 191, 191]⟩, ⟨#[244, 144, 128, 128]⟩, ⟨#[245, 128, 128, 128]⟩, ⟨#[255]⟩, ⟨#[97, 255]⟩, ⟨#[0]⟩, ⟨#[11]⟩, ⟨#[31]⟩]
def oddA : Array Value := (oddL.map fun z => Value.string z).toArray
theorem bl_app3 (a b : ByteArray) : bl (a ++ b) = bl a ++ bl b := by
  unfold bl
  rw [ByteArray.data_append, Array.toList_append]
theorem enc_size3 (r : Int) : (Utf8.encode r).size ≤ 4 := encL_len r
theorem size_app (a b : ByteArray) : (a ++ b).size = a.size + b.size := by rw [← bl_length, bl_app3, List.length_append, bl_length, bl_length]
def oddOk (l : List UInt8) : Bool := decide (l.length ≤ 4) && !textsB l && !textsB ([97, 98] ++ l ++ [99]) && !nameB l && !nameB ([97] ++ l) && !blankB l
theorem odd_all : (oddL.all fun o => oddOk (bl o)) = true := by decide +kernel
theorem odd_at (j : Nat) (h : j < 20) : ∃ o : ByteArray, oddL[j]? = some o ∧ oddOk (bl o) = true := by
  have hl : j < oddL.length := h
  exact ⟨oddL[j], List.getElem?_eq_getElem hl, List.all_eq_true.1 odd_all _ (List.getElem_mem hl)⟩
theorem ends_at (j : Nat) (h : j < 54) : ∃ x : Int, endsA[j]? = some (.int .i32 x) := by
  have hl : j < endsL.length := h
  refine ⟨endsL[j], ?_⟩
  unfold endsA
  rw [List.getElem?_toArray, List.getElem?_map, List.getElem?_eq_getElem hl]
  rfl
theorem row_cell {w : World} {b j : Nat} {A : Array Value} {t : TypeId} {v : Value} (h : w.heap[b]? = some (.cells A t)) (hv : A[j]? = some v) : w.cell? ⟨b, j, none⟩ = some v := by
  rw [cell_of_row w b j _ _ _ h]
  exact hv
theorem aS (x : ByteArray) : Hid ((⟨#[97]⟩ ++ x : ByteArray).size = x.size + 1) := by
  show _ = _
  rw [size_app, Nat.add_comm]
  rfl

theorem long_ex (w : World) : ∃ lg : ByteArray, (Calls Tryd.prog 21 #[.string ⟨#[97]⟩, .int .i64 100] w fun e w' => e = .returned (.string lg) ∧ Fr [] w w') ∧ bl lg = List.replicate 100 97 := by
  refine ⟨_, (Tryd.strings_Repeat ⟨#[97]⟩ 100 w (by omega) (by decide)).mono fun e w' ⟨h1, h2⟩ => ⟨h1, below_fr h2⟩, ?_⟩
  decide +kernel
def wideL : List UInt8 := (List.replicate 50 [195, 169]).flatten
theorem wide_ex (w : World) : ∃ lg : ByteArray, (Calls Tryd.prog 21 #[.string ⟨#[195, 169]⟩, .int .i64 50] w fun e w' => e = .returned (.string lg) ∧ Fr [] w w') ∧ bl lg = wideL := by
  refine ⟨_, (Tryd.strings_Repeat ⟨#[195, 169]⟩ 50 w (by omega) (by decide)).mono fun e w' ⟨h1, h2⟩ => ⟨h1, below_fr h2⟩, ?_⟩
  decide +kernel
theorem ln1 : nameB (List.replicate 100 97) = true := by decide +kernel
theorem ln2 : nameB (List.replicate 100 97 ++ [97]) = false := by decide +kernel
theorem ln3 : nameB wideL = true := by decide +kernel
theorem ln4 : nameB (wideL ++ [195, 169]) = false := by decide +kernel
theorem ln5 : textsB (wideL ++ List.replicate 100 97) = true := by decide +kernel

set_option maxHeartbeats 8000000 in
set_option maxRecDepth 100000 in
theorem charsNumbers_law (w : World) (L : LaidC w) : Calls Tryd.prog 5 #[] w fun e w' => e = .returned (.bool true) ∧ Fr [] w w' := by
  have HL : Hid (LaidC w) := L
  clear L
  go_enter Tryd.func5, Tryd.ntmps5
  go_wp2_with fail
  generalize hw1 : World.alloc w _ = w1
  have hB : w1.heap[w.heap.size]? = some (.cells endsA 21) := by rw [← hw1]; exact heap_alloc_new w _
  have g1 : Fr [] w w1 := by rw [← hw1]; exact (Fr.refl _ _).alloc _
  clear hw1
  obtain ⟨b, HBb⟩ : ∃ b, Hid (w.heap.size = b) := ⟨_, rfl⟩
  rw [HBb.out] at hB
  rw [HBb.out]
  have HB := Hid.mk hB
  clear hB
  go_loopw [2] (fun i wr => ∃ j : Nat, j ≤ 54 ∧ i = .int .i64 j ∧ Fr [] w1 wr) (fun i _ => 54 - (intOf i).toNat)
  case atStart => exact ⟨0, by omega, rfl, Fr.refl _ _⟩
  case round =>
    obtain ⟨j, hj, rfl, fr⟩ := hrel
    have FR := Hid.mk fr
    clear fr
    by_cases hlt : j < 54
    · have hlt' : (j : Int) < 54 := by omega
      have hj0 : (0 : Int) ≤ (j : Int) := by omega
      obtain ⟨x, hx⟩ := ends_at j hlt
      have HX := Hid.mk hx
      clear hx
      go_wp2_with fail
      go_loopw [3] (fun d wq => ∃ k : Nat, k ≤ 3 ∧ d = .int .i32 ((k : Int) - 1) ∧ Fr [] w1 wq) (fun d _ => 3 - (intOf d + 1).toNat)
      case atStart => exact ⟨0, by omega, rfl, FR.out⟩
      case round =>
        obtain ⟨k, hk, rfl, fr2⟩ := hrel
        have g2 := g1.trans fr2
        by_cases hk3 : k < 3
        · have hk1 : (k : Int) - 1 ≤ 1 := by omega
          have q := row_cell (HB.out |> fun h => fr2.same (by simp) h) HX.out
          have zA : ∀ r, (ByteArray.mk #[97]).size + (Utf8.encode r).size ≤ 9223372036854775807 := fun r => by have := enc_size3 r; have e : (ByteArray.mk #[97]).size = 1 := rfl; omega
          have zB : ∀ r, (Utf8.encode r).size + (ByteArray.mk #[128]).size ≤ 9223372036854775807 := fun r => by have := enc_size3 r; have e : (ByteArray.mk #[128]).size = 1 := rfl; omega
          have zC : ∀ r, ¬ 9223372036854775807 < 1 + (Utf8.encode r).size := fun r => by have := enc_size3 r; omega
          have zD : ∀ r, ¬ 9223372036854775807 < (Utf8.encode r).size + 1 := fun r => by have := enc_size3 r; omega
          have fr2h := Hid.mk fr2
          clear fr2
          have g3 := Fr.refl [] wr
          go_wp2_with (first
            | (go_at_call 3; refine (charsRunes_law _ (HL.out.kept (g2.trans g3)) _).mono ?_; rintro e w5 ⟨rfl, f5⟩; replace g3 := g3.trans f5; clear f5)
            | (go_at_call 4; refine (charsTexts_law _ (HL.out.kept (g2.trans g3)) _).mono ?_; rintro e w5 ⟨rfl, f5⟩; replace g3 := g3.trans f5; clear f5))
          exact ⟨⟨k + 1, by omega, by show Value.int .i32 (k : Int) = Value.int .i32 (((k + 1 : Nat) : Int) - 1); congr 1; omega, fr2h.out.trans g3⟩, by simp [intOf]; omega⟩
        · obtain rfl : k = 3 := by omega
          go_wp2_with fail
          exact ⟨⟨j + 1, by omega, by go_num, fr2⟩, by simp [intOf]; omega⟩
    · obtain rfl : j = 54 := by omega
      simp only [show ((54 : Nat) : Int) = 54 from rfl]
      go_wp2_with fail
      generalize hw2 : World.alloc wr _ = w2
      have hO : w2.heap[wr.heap.size]? = some (.cells oddA 9) := by rw [← hw2]; exact heap_alloc_new wr _
      have g2 : Fr [] w w2 := by rw [← hw2]; exact (g1.trans FR.out).alloc _
      clear hw2
      obtain ⟨c, HCc⟩ : ∃ c, Hid (wr.heap.size = c) := ⟨_, rfl⟩
      rw [HCc.out] at hO
      rw [HCc.out]
      have HO := Hid.mk hO
      clear hO
      go_loopw [6] (fun i wq => ∃ j : Nat, j ≤ 20 ∧ i = .int .i64 j ∧ Fr [] w2 wq) (fun i _ => 20 - (intOf i).toNat)
      case atStart => exact ⟨0, by omega, rfl, Fr.refl _ _⟩
      case round =>
        obtain ⟨j, hj, rfl, fr⟩ := hrel
        by_cases hlt : j < 20
        · have hlt' : (j : Int) < 20 := by omega
          have hj0 : (0 : Int) ≤ (j : Int) := by omega
          obtain ⟨o, ho, hok⟩ := odd_at j hlt
          have q0 : oddA[j]? = some (.string o) := by
            unfold oddA
            rw [List.getElem?_toArray, List.getElem?_map, ho]
            rfl
          have HQ := Hid.mk q0
          unfold oddOk at hok
          simp only [Bool.and_eq_true, Bool.not_eq_true', decide_eq_true_eq, bl_length] at hok
          obtain ⟨⟨⟨⟨⟨hs5, o1⟩, o2⟩, o3⟩, o4⟩, o5⟩ := hok
          have hs4 : o.size ≤ 4 := of_decide_eq_true hs5
          clear hs5
          have o2' : textsB (bl (ByteArray.mk #[97, 98] ++ o ++ ByteArray.mk #[99])) = false := by rw [bl_app3, bl_app3]; exact o2
          have o4' : nameB (bl (ByteArray.mk #[97] ++ o)) = false := by rw [bl_app3]; exact o4
          have zA : (ByteArray.mk #[97, 98]).size + o.size ≤ 9223372036854775807 := by have e : (ByteArray.mk #[97, 98]).size = 2 := rfl; omega
          have zB : (ByteArray.mk #[97, 98] ++ o).size + (ByteArray.mk #[99]).size ≤ 9223372036854775807 := by
            rw [size_app]
            have e : (ByteArray.mk #[97, 98]).size = 2 := rfl
            have e' : (ByteArray.mk #[99]).size = 1 := rfl
            omega
          have zC : ¬ 9223372036854775807 < 2 + o.size := by omega
          have zD : ¬ 9223372036854775807 < 2 + o.size + 1 := by omega
          have zE : ¬ 9223372036854775807 < (ByteArray.mk #[97, 98] ++ o).size + 1 := by
            rw [size_app]
            have e : (ByteArray.mk #[97, 98]).size = 2 := rfl
            omega
          have zF : ¬ 9223372036854775807 < 1 + o.size := by omega
          have zG : (ByteArray.mk #[97]).size + o.size ≤ 9223372036854775807 := by have e : (ByteArray.mk #[97]).size = 1 := rfl; omega
          have Z1 : Hid (o.size < 140737488355328) := by show _ < _; omega
          have Z2 : Hid ((ByteArray.mk #[97, 98] ++ o ++ ByteArray.mk #[99]).size < 140737488355328) := by
            show _ < _
            rw [size_app, size_app]
            have e : (ByteArray.mk #[97, 98]).size = 2 := rfl
            have e' : (ByteArray.mk #[99]).size = 1 := rfl
            omega
          clear o2 o4 ho q0 hs4
          have q := row_cell (fr.same (by simp) HO.out) HQ.out
          have frh := Hid.mk fr
          clear fr
          have G := Hid.mk (g2.trans frh.out)
          have g3 := Fr.refl [] wr
          have HK : Hid (∀ w', Fr [] wr w' → w'.cell? ⟨c, j, none⟩ = some (.string o)) := fun w' f => cell_fr f (by simp) q
          go_wp2_with (first
            | (go_at_call 17; refine (texts_any _ (HL.out.kept (G.out.trans g3)) _ (by first | exact Z1.out | exact Z2.out)).mono ?_; rintro e w5 ⟨rfl, f5⟩; replace g3 := g3.trans f5; clear f5; replace q := HK.out _ g3)
            | (go_at_call 15; refine (name_any _ (HL.out.kept (G.out.trans g3)) _).mono ?_; rintro e w5 ⟨rfl, f5⟩; replace g3 := g3.trans f5; clear f5; replace q := HK.out _ g3)
            | (go_at_call 19; refine (blank_any _ _ Z1.out).mono ?_; rintro e w5 ⟨rfl, f5⟩; replace g3 := g3.trans f5; clear f5; replace q := HK.out _ g3))
          exact ⟨⟨j + 1, by omega, by go_num, frh.out.trans g3⟩, by simp [intOf]; omega⟩
        · obtain rfl : j = 20 := by omega
          have G := Hid.mk (g2.trans fr)
          clear fr
          simp only [show ((20 : Nat) : Int) = 20 from rfl]
          go_wp2_with fail
          obtain ⟨lg, cl, hl⟩ := long_ex wr
          refine cl.mono ?_
          clear cl
          rintro e w5 ⟨rfl, f5⟩
          have G2 := Hid.mk (G.out.trans f5)
          clear f5
          go_wp2_with fail
          obtain ⟨wd, cw, hd⟩ := wide_ex w5
          refine cw.mono ?_
          clear cw
          rintro e w6 ⟨rfl, f6⟩
          have g3 := G2.out.trans f6
          clear f6
          have s1 : lg.size = 100 := by rw [← bl_length, hl]; rfl
          have s2 : wd.size = 100 := by rw [← bl_length, hd]; rfl
          have n1 : nameB (bl lg) = true := by rw [hl]; exact ln1
          have n2 : nameB (bl (lg ++ ByteArray.mk #[97])) = false := by rw [bl_app3, hl]; exact ln2
          have n3 : nameB (bl wd) = true := by rw [hd]; exact ln3
          have n4 : nameB (bl (wd ++ ByteArray.mk #[195, 169])) = false := by rw [bl_app3, hd]; exact ln4
          have n5 : textsB (bl (wd ++ lg)) = true := by rw [bl_app3, hd, hl]; exact ln5
          have z5 : Hid ((wd ++ lg).size < 140737488355328) := by show _ < _; rw [size_app, s1, s2]; omega
          clear hl hd
          go_wp2_with (first
            | (go_at_call 15; refine (name_any _ (HL.out.kept g3) _).mono ?_; rintro e w7 ⟨rfl, f7⟩; replace g3 := g3.trans f7; clear f7)
            | (go_at_call 17; refine (texts_any _ (HL.out.kept g3) _ z5.out).mono ?_; rintro e w7 ⟨rfl, f7⟩; replace g3 := g3.trans f7; clear f7)
            | (go_at_call 14; refine (awake_any _ (HL.out.kept g3)).mono ?_; rintro e w7 ⟨rfl, f7⟩; replace g3 := g3.trans f7; clear f7))
          go_ret
          exact ⟨rfl, g3⟩
end Go.Proofs.YtmhfbkafcpceiaaDoor
