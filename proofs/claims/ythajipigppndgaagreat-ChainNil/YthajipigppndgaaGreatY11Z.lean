/-
  A device is wiped.
-/
import Derived.Test.YthajipigppndgaaGreatY10Z
namespace Go.Proofs.YthajipigppndgaaGreat
open Go.RowKit Go.Maps
def arr3 (p q r : Int) : Nat → Array Value
  | 0 => #[.int .i64 0, .int .i64 0, .int .i64 0]
  | 1 => #[.int .i64 p, .int .i64 0, .int .i64 0]
  | 2 => #[.int .i64 p, .int .i64 q, .int .i64 0]
  | _ => #[.int .i64 p, .int .i64 q, .int .i64 r]
theorem mayBe_no (w : World) (p q r : Int) (hp : p < 1) : Calls Tryz.prog 185 #[.agg #[.int .i64 p, .int .i64 q, .int .i64 r]] w fun e w' => e = .returned (.bool false) ∧ Fr [] w w' := by
  have n0 : ¬ (1 : Int) ≤ p := by omega
  go_enter Tryz.func185, Tryz.ntmps185
  go_wp2
  go_ret
  exact ⟨rfl, (Fr.refl [] w).alloc _⟩
set_option maxHeartbeats 2000000 in
set_option maxRecDepth 100000 in
theorem stand_no2 (w : World) (g c : Nat) (l : List UInt8) (hl : l.length = 512) (hb : Blk w g l) (hc : 512 ≤ c) (k : Int) (p q r : Int) (hp : numL l 0 = p) (hq : numL l 1 = q) (hr : numL l 2 = r) (hz0 : p = -9223372036854775808) :
    Calls Tryz.prog 241 #[.slice (some ⟨g, 0, none⟩) 512 c, .int .i64 k] w fun e w' => e = .returned (.agg (mV ⟨0, 0, 0⟩)) ∧ Fr [] w w' := by
  have HL := hidI hl
  have f1 : Fr [] w (w.alloc (.cells #[.int .i64 0, .int .i64 0, .int .i64 0] 159)) := (Fr.refl [] w).alloc _
  have hM := heap_alloc_new w (.cells #[.int .i64 0, .int .i64 0, .int .i64 0] 159)
  have hs1 : (w.alloc (.cells #[.int .i64 0, .int .i64 0, .int .i64 0] 159)).heap.size = w.heap.size + 1 := by simp
  obtain ⟨w1, hw1⟩ : ∃ w1, w.alloc (.cells #[.int .i64 0, .int .i64 0, .int .i64 0] 159) = w1 := ⟨_, rfl⟩
  rw [hw1] at f1 hM hs1
  have f2 : Fr [] w1 (w1.alloc (.cells #[.int .i64 0, .int .i64 0, .int .i64 0] 318)) := (Fr.refl [] w1).alloc _
  have hA := heap_alloc_new w1 (.cells #[.int .i64 0, .int .i64 0, .int .i64 0] 318)
  obtain ⟨w2, hw2⟩ : ∃ w2, w1.alloc (.cells #[.int .i64 0, .int .i64 0, .int .i64 0] 318) = w2 := ⟨_, rfl⟩
  rw [hw2] at f2 hA
  rw [hs1] at hA
  have hM2 := f2.same (by simp) hM
  have hgs : g < w.heap.size := (Array.getElem?_eq_some_iff.1 hb).1
  have HB : Hid (∀ wr, Fr [w.heap.size + 1] w2 wr → ∀ j, BytesAt wr (some ⟨g, 4 + 8 * j, none⟩) (l.drop (4 + 8 * j))) := hidI (fun wr f j => by
    have h1 : Blk wr g l := f.same (by simp; omega) ((f1.trans f2).same (by simp) hb)
    have h2 := h1.bytes.sub (4 + 8 * j) 512
    rw [Nat.zero_add, List.take_of_length_le (by rw [List.length_drop]; omega)] at h2
    exact h2)
  have HZ := hidI hz0
  clear hz0
  have HP := hidI hp
  have HQ := hidI hq
  have HRR := hidI hr
  have cc : (512 : Int) ≤ (c : Int) := by omega
  have c4 : ¬ c = 4 := by omega
  clear hl hp hq hr
  go_enter Tryz.func241, Tryz.ntmps241
  go_wp2_with fail
  go_loopw [6, 14] (fun s6 s14 wr => ∃ j : Nat, ∃ C, s14 = .int .i64 (j : Int) ∧ j ≤ 3 ∧ s6 = .slice (some ⟨g, 4 + 8 * j, none⟩) (508 - 8 * j) C ∧ Hid (C = c - (4 + 8 * j)) ∧ Hid (wr.heap[w.heap.size + 1]? = some (.cells (arr3 p q r j) 318) ∧ Fr [w.heap.size + 1] w2 wr)) (fun _ i _ => 3 - (intOf i).toNat)
  case atStart => exact ⟨0, c - 4, rfl, by omega, rfl, hidI rfl, hidI ⟨hA, Fr.refl _ _⟩⟩
  case round =>
    obtain ⟨j, C, rfl, hj, rfl, hC, HR⟩ := hrel
    by_cases hlt : j < 3
    · have q8 : (8 : Int) ≤ (C : Int) := by have := hC.out; omega
      have q9 : ¬ C = 8 := by have := hC.out; omega
      rcases (by omega : j = 0 ∨ j = 1 ∨ j = 2) with rfl | rfl | rfl
      · have H0 : wr.heap[w.heap.size + 1]? = some (.cells #[.int .i64 0, .int .i64 0, .int .i64 0] 318) := HR.out.1
        have a0 := cell_of_row wr (w.heap.size + 1) 0 _ _ _ H0
        have z0 := frozen_of_row wr (w.heap.size + 1) 0 _ _ H0
        have A2 : (wr.setCell ⟨w.heap.size + 1, 0, none⟩ (.int .i64 p)).heap[w.heap.size + 1]? = some (.cells #[.int .i64 p, .int .i64 0, .int .i64 0] 318) := by
          rw [heap_setCell_same wr _ 0 _ _ _ H0]
          rfl
        have F2 := HR.out.2.trans (fr_set wr (w.heap.size + 1) 0 (.int .i64 p))
        have HG : Hid (Calls Tryz.prog 269 #[.slice (some ⟨g, 4, none⟩) 508 C] wr fun e w' => e = .returned (.tuple #[.int .i64 p, .int .i64 8, .bool true]) ∧ w' = wr) := hidI (by
          have h1 := getNum wr g C l 0 (by omega) HL.out (HB.out wr HR.out.2 0)
          rw [HP.out] at h1
          exact h1)
        have HX := hidI (⟨A2, F2⟩ : _ ∧ _)
        clear A2 F2 H0
        go_wp2_with (go_at_call 269; refine HG.out.mono ?_; rintro e w5 ⟨rfl, hz⟩; rw [hz]; clear hz)
        exact ⟨⟨1, C - 8, rfl, by omega, rfl, hidI (by have := hC.out; omega), HX⟩, by simp [intOf]⟩
      · have H0 : wr.heap[w.heap.size + 1]? = some (.cells #[.int .i64 p, .int .i64 0, .int .i64 0] 318) := HR.out.1
        have a0 := cell_of_row wr (w.heap.size + 1) 1 _ _ _ H0
        have z0 := frozen_of_row wr (w.heap.size + 1) 1 _ _ H0
        have A2 : (wr.setCell ⟨w.heap.size + 1, 1, none⟩ (.int .i64 q)).heap[w.heap.size + 1]? = some (.cells #[.int .i64 p, .int .i64 q, .int .i64 0] 318) := by
          rw [heap_setCell_same wr _ 1 _ _ _ H0]
          rfl
        have F2 := HR.out.2.trans (fr_set wr (w.heap.size + 1) 1 (.int .i64 q))
        have HG : Hid (Calls Tryz.prog 269 #[.slice (some ⟨g, 12, none⟩) 500 C] wr fun e w' => e = .returned (.tuple #[.int .i64 q, .int .i64 8, .bool true]) ∧ w' = wr) := hidI (by
          have h1 := getNum wr g C l 1 (by omega) HL.out (HB.out wr HR.out.2 1)
          rw [HQ.out] at h1
          exact h1)
        have HX := hidI (⟨A2, F2⟩ : _ ∧ _)
        clear A2 F2 H0
        go_wp2_with (go_at_call 269; refine HG.out.mono ?_; rintro e w5 ⟨rfl, hz⟩; rw [hz]; clear hz)
        exact ⟨⟨2, C - 8, rfl, by omega, rfl, hidI (by have := hC.out; omega), HX⟩, by simp [intOf]⟩
      · have H0 : wr.heap[w.heap.size + 1]? = some (.cells #[.int .i64 p, .int .i64 q, .int .i64 0] 318) := HR.out.1
        have a0 := cell_of_row wr (w.heap.size + 1) 2 _ _ _ H0
        have z0 := frozen_of_row wr (w.heap.size + 1) 2 _ _ H0
        have A2 : (wr.setCell ⟨w.heap.size + 1, 2, none⟩ (.int .i64 r)).heap[w.heap.size + 1]? = some (.cells #[.int .i64 p, .int .i64 q, .int .i64 r] 318) := by
          rw [heap_setCell_same wr _ 2 _ _ _ H0]
          rfl
        have F2 := HR.out.2.trans (fr_set wr (w.heap.size + 1) 2 (.int .i64 r))
        have HG : Hid (Calls Tryz.prog 269 #[.slice (some ⟨g, 20, none⟩) 492 C] wr fun e w' => e = .returned (.tuple #[.int .i64 r, .int .i64 8, .bool true]) ∧ w' = wr) := hidI (by
          have h1 := getNum wr g C l 2 (by omega) HL.out (HB.out wr HR.out.2 2)
          rw [HRR.out] at h1
          exact h1)
        have HX := hidI (⟨A2, F2⟩ : _ ∧ _)
        clear A2 F2 H0
        go_wp2_with (go_at_call 269; refine HG.out.mono ?_; rintro e w5 ⟨rfl, hz⟩; rw [hz]; clear hz)
        exact ⟨⟨3, C - 8, rfl, by omega, rfl, hidI (by have := hC.out; omega), HX⟩, by simp [intOf]⟩
    · obtain rfl : j = 3 := by omega
      have HA3 : wr.heap[w.heap.size + 1]? = some (.cells #[.int .i64 p, .int .i64 q, .int .i64 r] 318) := HR.out.1
      have x0 := cell_of_row wr (w.heap.size + 1) 0 _ _ _ HA3
      have x1 := cell_of_row wr (w.heap.size + 1) 1 _ _ _ HA3
      have x2 := cell_of_row wr (w.heap.size + 1) 2 _ _ _ HA3
      have MR := hidI (HR.out.2.same (by simp) hM2)
      have FW : Fr [] w wr := (f1.trans f2).then HR.out.2 (fun i hi e => by simp at e; omega)
      clear HA3
      have f3 : Fr [] wr (wr.alloc (.cells #[.int .i64 p, .int .i64 q, .int .i64 r] 159)) := (Fr.refl [] wr).alloc _
      have HN := hidI (mayBe_no (wr.alloc (.cells #[.int .i64 p, .int .i64 q, .int .i64 r] 159)) p q r (by rw [HZ.out]; omega))
      have G3 := hidI f3
      have GW := hidI FW
      have hws : Hid (w.heap.size < wr.heap.size) := hidI (Array.getElem?_eq_some_iff.1 MR.out).1
      clear FW f3
      go_wp2_with first
        | (refine wp_storeM rfl _ _ rfl w.heap.size ⟨0, 0, 0⟩ ⟨0, 0, 0⟩ rfl rfl RM.out ?_; intro w7 r7 f7)
        | (go_at_call 185; refine HN.out.mono ?_; rintro e w6 ⟨rfl, g6⟩; have RM := hidI (g6.same (by simp) (G3.out.same (by simp) MR.out)); have GQ := hidI (GW.out.trans (G3.out.trans g6)); clear g6)
      exact bodyPost_ret (resM Tryz.results241 _ _ _ ⟨0, 0, 0⟩ rfl r7) rfl ⟨rfl, GQ.out.then f7 (fun i hi e => by simp at e; omega)⟩
set_option maxHeartbeats 2000000 in
set_option maxRecDepth 100000 in
theorem stand_yes2 (w : World) (g c : Nat) (l : List UInt8) (hl : l.length = 512) (hb : Blk w g l) (hc : 512 ≤ c) (k : Int) (p q r : Int) (hp : numL l 0 = p) (hq : numL l 1 = q) (hr : numL l 2 = r) (hm : MOk ⟨p, q, r⟩) (hlm : l = mBytes ⟨p, q, r⟩) (hk : k = p % 2) :
    Calls Tryz.prog 241 #[.slice (some ⟨g, 0, none⟩) 512 c, .int .i64 k] w fun e w' => e = .returned (.agg (mV ⟨p, q, r⟩)) ∧ Fr [] w w' := by
  have HL := hidI hl
  have f1 : Fr [] w (w.alloc (.cells #[.int .i64 0, .int .i64 0, .int .i64 0] 159)) := (Fr.refl [] w).alloc _
  have hM := heap_alloc_new w (.cells #[.int .i64 0, .int .i64 0, .int .i64 0] 159)
  have hs1 : (w.alloc (.cells #[.int .i64 0, .int .i64 0, .int .i64 0] 159)).heap.size = w.heap.size + 1 := by simp
  obtain ⟨w1, hw1⟩ : ∃ w1, w.alloc (.cells #[.int .i64 0, .int .i64 0, .int .i64 0] 159) = w1 := ⟨_, rfl⟩
  rw [hw1] at f1 hM hs1
  have f2 : Fr [] w1 (w1.alloc (.cells #[.int .i64 0, .int .i64 0, .int .i64 0] 318)) := (Fr.refl [] w1).alloc _
  have hA := heap_alloc_new w1 (.cells #[.int .i64 0, .int .i64 0, .int .i64 0] 318)
  obtain ⟨w2, hw2⟩ : ∃ w2, w1.alloc (.cells #[.int .i64 0, .int .i64 0, .int .i64 0] 318) = w2 := ⟨_, rfl⟩
  rw [hw2] at f2 hA
  rw [hs1] at hA
  have hM2 := f2.same (by simp) hM
  have hgs : g < w.heap.size := (Array.getElem?_eq_some_iff.1 hb).1
  have HB : Hid (∀ wr, Fr [w.heap.size + 1] w2 wr → ∀ j, BytesAt wr (some ⟨g, 4 + 8 * j, none⟩) (l.drop (4 + 8 * j))) := hidI (fun wr f j => by
    have h1 : Blk wr g l := f.same (by simp; omega) ((f1.trans f2).same (by simp) hb)
    have h2 := h1.bytes.sub (4 + 8 * j) 512
    rw [Nat.zero_add, List.take_of_length_le (by rw [List.length_drop]; omega)] at h2
    exact h2)
  have HM := hidI hm
  have HLM := hidI hlm
  have HK := hidI hk
  clear hm hlm hk
  have HP := hidI hp
  have HQ := hidI hq
  have HRR := hidI hr
  have cc : (512 : Int) ≤ (c : Int) := by omega
  have c4 : ¬ c = 4 := by omega
  clear hl hp hq hr
  go_enter Tryz.func241, Tryz.ntmps241
  go_wp2_with fail
  go_loopw [6, 14] (fun s6 s14 wr => ∃ j : Nat, ∃ C, s14 = .int .i64 (j : Int) ∧ j ≤ 3 ∧ s6 = .slice (some ⟨g, 4 + 8 * j, none⟩) (508 - 8 * j) C ∧ Hid (C = c - (4 + 8 * j)) ∧ Hid (wr.heap[w.heap.size + 1]? = some (.cells (arr3 p q r j) 318) ∧ Fr [w.heap.size + 1] w2 wr)) (fun _ i _ => 3 - (intOf i).toNat)
  case atStart => exact ⟨0, c - 4, rfl, by omega, rfl, hidI rfl, hidI ⟨hA, Fr.refl _ _⟩⟩
  case round =>
    obtain ⟨j, C, rfl, hj, rfl, hC, HR⟩ := hrel
    by_cases hlt : j < 3
    · have q8 : (8 : Int) ≤ (C : Int) := by have := hC.out; omega
      have q9 : ¬ C = 8 := by have := hC.out; omega
      rcases (by omega : j = 0 ∨ j = 1 ∨ j = 2) with rfl | rfl | rfl
      · have H0 : wr.heap[w.heap.size + 1]? = some (.cells #[.int .i64 0, .int .i64 0, .int .i64 0] 318) := HR.out.1
        have a0 := cell_of_row wr (w.heap.size + 1) 0 _ _ _ H0
        have z0 := frozen_of_row wr (w.heap.size + 1) 0 _ _ H0
        have A2 : (wr.setCell ⟨w.heap.size + 1, 0, none⟩ (.int .i64 p)).heap[w.heap.size + 1]? = some (.cells #[.int .i64 p, .int .i64 0, .int .i64 0] 318) := by
          rw [heap_setCell_same wr _ 0 _ _ _ H0]
          rfl
        have F2 := HR.out.2.trans (fr_set wr (w.heap.size + 1) 0 (.int .i64 p))
        have HG : Hid (Calls Tryz.prog 269 #[.slice (some ⟨g, 4, none⟩) 508 C] wr fun e w' => e = .returned (.tuple #[.int .i64 p, .int .i64 8, .bool true]) ∧ w' = wr) := hidI (by
          have h1 := getNum wr g C l 0 (by omega) HL.out (HB.out wr HR.out.2 0)
          rw [HP.out] at h1
          exact h1)
        have HX := hidI (⟨A2, F2⟩ : _ ∧ _)
        clear A2 F2 H0
        go_wp2_with (go_at_call 269; refine HG.out.mono ?_; rintro e w5 ⟨rfl, hz⟩; rw [hz]; clear hz)
        exact ⟨⟨1, C - 8, rfl, by omega, rfl, hidI (by have := hC.out; omega), HX⟩, by simp [intOf]⟩
      · have H0 : wr.heap[w.heap.size + 1]? = some (.cells #[.int .i64 p, .int .i64 0, .int .i64 0] 318) := HR.out.1
        have a0 := cell_of_row wr (w.heap.size + 1) 1 _ _ _ H0
        have z0 := frozen_of_row wr (w.heap.size + 1) 1 _ _ H0
        have A2 : (wr.setCell ⟨w.heap.size + 1, 1, none⟩ (.int .i64 q)).heap[w.heap.size + 1]? = some (.cells #[.int .i64 p, .int .i64 q, .int .i64 0] 318) := by
          rw [heap_setCell_same wr _ 1 _ _ _ H0]
          rfl
        have F2 := HR.out.2.trans (fr_set wr (w.heap.size + 1) 1 (.int .i64 q))
        have HG : Hid (Calls Tryz.prog 269 #[.slice (some ⟨g, 12, none⟩) 500 C] wr fun e w' => e = .returned (.tuple #[.int .i64 q, .int .i64 8, .bool true]) ∧ w' = wr) := hidI (by
          have h1 := getNum wr g C l 1 (by omega) HL.out (HB.out wr HR.out.2 1)
          rw [HQ.out] at h1
          exact h1)
        have HX := hidI (⟨A2, F2⟩ : _ ∧ _)
        clear A2 F2 H0
        go_wp2_with (go_at_call 269; refine HG.out.mono ?_; rintro e w5 ⟨rfl, hz⟩; rw [hz]; clear hz)
        exact ⟨⟨2, C - 8, rfl, by omega, rfl, hidI (by have := hC.out; omega), HX⟩, by simp [intOf]⟩
      · have H0 : wr.heap[w.heap.size + 1]? = some (.cells #[.int .i64 p, .int .i64 q, .int .i64 0] 318) := HR.out.1
        have a0 := cell_of_row wr (w.heap.size + 1) 2 _ _ _ H0
        have z0 := frozen_of_row wr (w.heap.size + 1) 2 _ _ H0
        have A2 : (wr.setCell ⟨w.heap.size + 1, 2, none⟩ (.int .i64 r)).heap[w.heap.size + 1]? = some (.cells #[.int .i64 p, .int .i64 q, .int .i64 r] 318) := by
          rw [heap_setCell_same wr _ 2 _ _ _ H0]
          rfl
        have F2 := HR.out.2.trans (fr_set wr (w.heap.size + 1) 2 (.int .i64 r))
        have HG : Hid (Calls Tryz.prog 269 #[.slice (some ⟨g, 20, none⟩) 492 C] wr fun e w' => e = .returned (.tuple #[.int .i64 r, .int .i64 8, .bool true]) ∧ w' = wr) := hidI (by
          have h1 := getNum wr g C l 2 (by omega) HL.out (HB.out wr HR.out.2 2)
          rw [HRR.out] at h1
          exact h1)
        have HX := hidI (⟨A2, F2⟩ : _ ∧ _)
        clear A2 F2 H0
        go_wp2_with (go_at_call 269; refine HG.out.mono ?_; rintro e w5 ⟨rfl, hz⟩; rw [hz]; clear hz)
        exact ⟨⟨3, C - 8, rfl, by omega, rfl, hidI (by have := hC.out; omega), HX⟩, by simp [intOf]⟩
    · obtain rfl : j = 3 := by omega
      have HA3 : wr.heap[w.heap.size + 1]? = some (.cells #[.int .i64 p, .int .i64 q, .int .i64 r] 318) := HR.out.1
      have x0 := cell_of_row wr (w.heap.size + 1) 0 _ _ _ HA3
      have x1 := cell_of_row wr (w.heap.size + 1) 1 _ _ _ HA3
      have x2 := cell_of_row wr (w.heap.size + 1) 2 _ _ _ HA3
      have MR := hidI (HR.out.2.same (by simp) hM2)
      have FW : Fr [] w wr := (f1.trans f2).then HR.out.2 (fun i hi e => by simp at e; omega)
      clear HA3
      have hk2 := HK.out
      subst hk2
      have f3 : Fr [] wr (wr.alloc (.cells #[.int .i64 p, .int .i64 q, .int .i64 r] 159)) := (Fr.refl [] wr).alloc _
      have T0 := heap_alloc_new wr (.cells #[.int .i64 p, .int .i64 q, .int .i64 r] 159)
      have G3 := hidI f3
      have GW := hidI FW
      clear FW f3
      go_wp2_with fail
      refine (mayBe_any _ ⟨p, q, r⟩ HM.out).mono ?_
      rintro e w6 ⟨rfl, g6⟩
      have T6 := g6.same (by simp) T0
      have c60 := cell_of_row w6 wr.heap.size 0 _ _ _ T6
      have c61 := cell_of_row w6 wr.heap.size 1 _ _ _ T6
      have c62 := cell_of_row w6 wr.heap.size 2 _ _ _ T6
      go_wp2_with fail
      refine (mblock_any _ ⟨p, q, r⟩ HM.out).mono ?_
      rintro e w7 ⟨rfl, g7⟩
      have T7 := g7.same (by simp) T6
      have c70 := cell_of_row w7 wr.heap.size 0 _ _ _ T7
      have c71 := cell_of_row w7 wr.heap.size 1 _ _ _ T7
      have c72 := cell_of_row w7 wr.heap.size 2 _ _ _ T7
      go_wp2_with fail
      refine (laid_any _ ⟨p, q, r⟩ HM.out).mono ?_
      rintro e w8 ⟨gg, rfl, b8, hgg, g8⟩
      have T8 := g8.same (by simp) T7
      have c80 := cell_of_row w8 wr.heap.size 0 _ _ _ T8
      have c81 := cell_of_row w8 wr.heap.size 1 _ _ _ T8
      have c82 := cell_of_row w8 wr.heap.size 2 _ _ _ T8
      have GQ := hidI (GW.out.trans (G3.out.trans (g6.trans (g7.trans g8))))
      have RM := hidI (g8.same (by simp) (g7.same (by simp) (g6.same (by simp) (G3.out.same (by simp) MR.out))))
      have b9 : Blk w8 g l := GQ.out.same (by simp) hb
      have B8 : Blk w8 gg l := by rw [HLM.out]; exact b8
      go_wp2_with fail
      refine (bytesEq_same _ _ _ _ _ _ l HL.out (by omega) b9.bytes B8.bytes).mono ?_
      rintro e w9 ⟨rfl, hz⟩
      rw [hz]
      clear hz
      go_wp2_with (refine wp_storeM rfl _ _ rfl w.heap.size ⟨0, 0, 0⟩ ⟨p, q, r⟩ rfl rfl RM.out ?_; intro w10 r10 f10)
      exact bodyPost_ret (resM Tryz.results241 _ _ _ ⟨p, q, r⟩ rfl r10) rfl ⟨rfl, GQ.out.then f10 (fun i hi e => by simp at e; omega)⟩
end Go.Proofs.YthajipigppndgaaGreat

namespace Go.Proofs.YthajipigppndgaaGreat
open Go.RowKit Go.Maps

theorem num_key8 (l : List UInt8) (j : Nat) (n : Int) (h : (l.drop (4 + 8 * j)).take 8 = key8 n) (h0 : -9223372036854775808 ≤ n) (h1 : n < 9223372036854775808) : numL l j = n := by
  unfold numL
  rw [h]
  unfold key8
  rw [ofBe_be, Nat.mod_eq_of_lt (by omega)]
  omega
theorem drop_app_len {α : Type} (a b : List α) (n : Nat) (h : a.length = n) : (a ++ b).drop n = b := by
  subst h
  exact List.drop_left
theorem take_app_len {α : Type} (a b : List α) (n : Nat) (h : a.length = n) : (a ++ b).take n = a := by
  subst h
  exact List.take_left
theorem num_mBytes (m : Mst) (h : MOk m) : numL (mBytes m) 0 = m.seq ∧ numL (mBytes m) 1 = m.turn ∧ numL (mBytes m) 2 = m.old := by
  obtain ⟨s0, s1, t0, t1, o0, o1⟩ := h
  refine ⟨num_key8 _ 0 _ ?_ (by omega) (by omega), num_key8 _ 1 _ ?_ (by omega) (by omega), num_key8 _ 2 _ ?_ (by omega) (by omega)⟩
  · have e : mBytes m = [80, 77, 48, 49] ++ (key8 m.seq ++ (key8 m.turn ++ (key8 m.old ++ (beK 4 (crc (mHead m)) ++ zs 480)))) := by simp only [mBytes, mHead, List.append_assoc]
    rw [e, drop_app_len _ _ (4 + 8 * 0) rfl, take_app_len _ _ _ (key8_length _)]
  · have e : mBytes m = ([80, 77, 48, 49] ++ key8 m.seq) ++ (key8 m.turn ++ (key8 m.old ++ (beK 4 (crc (mHead m)) ++ zs 480))) := by simp only [mBytes, mHead, List.append_assoc]
    rw [e, drop_app_len _ _ _ (by simp [key8_length]), take_app_len _ _ _ (key8_length _)]
  · have e : mBytes m = ([80, 77, 48, 49] ++ key8 m.seq ++ key8 m.turn) ++ (key8 m.old ++ (beK 4 (crc (mHead m)) ++ zs 480)) := by simp only [mBytes, mHead, List.append_assoc]
    rw [e, drop_app_len _ _ _ (by simp [key8_length]), take_app_len _ _ _ (key8_length _)]
theorem num_zs : numL (zs 512) 0 = -9223372036854775808 := by
  have h : ((zs 512).drop (4 + 8 * 0)).take 8 = be 8 0 := by decide
  unfold numL
  rw [h, ofBe_be]
  rfl
/-- What stands in a block: a master, or none. -/
inductive Stands : List UInt8 → Int → Mst → Prop
  | one (m : Mst) (h : MOk m) : Stands (mBytes m) (m.seq % 2) m
  | none (k : Int) : Stands (zs 512) k ⟨0, 0, 0⟩
theorem standing_any (w : World) (g c : Nat) (l : List UInt8) (k : Int) (m : Mst) (h : Stands l k m) (hb : Blk w g l) (hc : 512 ≤ c) :
    Calls Tryz.prog 241 #[.slice (some ⟨g, 0, none⟩) 512 c, .int .i64 k] w fun e w' => e = .returned (.agg (mV m)) ∧ Fr [] w w' := by
  cases h with
  | one m h =>
    obtain ⟨e0, e1, e2⟩ := num_mBytes m h
    obtain ⟨p, q, r⟩ := m
    exact stand_yes2 w g c _ (mBytes_length _) hb hc _ p q r e0 e1 e2 h rfl rfl
  | none => exact stand_no2 w g c _ (zs_length _) hb hc _ _ _ _ num_zs rfl rfl rfl
end Go.Proofs.YthajipigppndgaaGreat

namespace Go.Proofs.YthajipigppndgaaGreat
open Go.RowKit Go.Maps

theorem resM2 {fn : Func} {p q : Tmp} (h : fn.results = #[.cell p 159, .tmp q]) (tmps : Array Value) (w : World) (b : Nat) (m : Mst) (hp : tmps.getD p undef = .pointer (some ⟨b, 0, none⟩)) (hg : MBox w b m) :
    (results fn tmps).run Tryz.prog w = .ok (.tuple #[.agg (mV m), tmps.getD q undef]) w := by
  have hl := run_loadVar_row w b 159 159 #[.int .i64 m.seq, .int .i64 m.turn, .int .i64 m.old] (0, 0) _ hg Tryz.underlying159 rfl (by rw [sizeM]; rfl)
  have hp2 : tmps[p]?.getD undef = .pointer (some ⟨b, 0, none⟩) := by simpa using hp
  simp only [results, h]
  simp [hp2, asAddr, hl]
  rfl
/-- The later of two masters. -/
def later (a b : Mst) : Mst := if a.seq < b.seq then b else a
def bestM (m0 m1 : Mst) : Nat → Mst
  | 0 => ⟨0, 0, 0⟩
  | 1 => later ⟨0, 0, 0⟩ m0
  | _ => later (later ⟨0, 0, 0⟩ m0) m1
set_option maxHeartbeats 2000000 in
set_option maxRecDepth 100000 in
theorem mread_any (w : World) (d bs bo : Nat) (nb a : Int) (S O : Dv.Tab) (hd : Dv.Dev w d bs bo nb a false S O) (hn : 2 ≤ nb) (m0 m1 m : Mst) (h0 : Stands (Dv.latest S O 0) 0 m0) (h1 : Stands (Dv.latest S O 1) 1 m1) (hm : MOk m)
    (hmm : m = bestM m0 m1 2) :
    Calls Tryz.prog 181 #[.pointer (some ⟨d, 0, none⟩)] w fun e w' => e = .returned (.tuple #[.agg (mV m), .int .i64 0]) ∧ Fr [] w w' := by
  have f1 : Fr [] w (w.alloc (.cells #[.int .i64 0, .int .i64 0, .int .i64 0] 159)) := (Fr.refl [] w).alloc _
  have hM := heap_alloc_new w (.cells #[.int .i64 0, .int .i64 0, .int .i64 0] 159)
  have hs1 : (w.alloc (.cells #[.int .i64 0, .int .i64 0, .int .i64 0] 159)).heap.size = w.heap.size + 1 := by simp
  obtain ⟨w1, hw1⟩ : ∃ w1, w.alloc (.cells #[.int .i64 0, .int .i64 0, .int .i64 0] 159) = w1 := ⟨_, rfl⟩
  rw [hw1] at f1 hM hs1
  have f2 : Fr [] w1 (w1.alloc (.cells #[.int .i64 0, .int .i64 0, .int .i64 0] 159)) := (Fr.refl [] w1).alloc _
  have hA := heap_alloc_new w1 (.cells #[.int .i64 0, .int .i64 0, .int .i64 0] 159)
  obtain ⟨w2, hw2⟩ : ∃ w2, w1.alloc (.cells #[.int .i64 0, .int .i64 0, .int .i64 0] 159) = w2 := ⟨_, rfl⟩
  rw [hw2] at f2 hA
  rw [hs1] at hA
  have hM2 := f2.same (by simp) hM
  have HD := hidI hd
  have D1 := hidI (dev_kept hd f1 (by simp) (by simp) (by simp))
  have z0 : ¬ nb = 0 := by omega
  have H0 := hidI h0
  have H1 := hidI h1
  have HM := hidI hm
  have HMM := hidI hmm
  clear hm hmm h0 h1
  go_enter Tryz.func181, Tryz.ntmps181
  go_wp2_with (go_at_call 120; refine (Dv.blocks_dev D1.out).mono ?_; rintro e w3 ⟨rfl, hz⟩; rw [hz]; clear hz)
  go_loopw [13] (fun s13 wr => ∃ j : Nat, s13 = .int .i64 (j : Int) ∧ j ≤ 2 ∧ Hid (MBox wr (w.heap.size + 1) (bestM m0 m1 j) ∧ Fr [w.heap.size + 1] w2 wr)) (fun i _ => 2 - (intOf i).toNat)
  case atStart => exact ⟨0, rfl, by omega, hidI ⟨hA, Fr.refl _ _⟩⟩
  case round =>
    obtain ⟨j, rfl, hj, HR⟩ := hrel
    have FW := hidI (((f1.trans f2).then HR.out.2 (fun i hi e => by simp at e; omega)) : Fr [] w wr)
    have MR := hidI (HR.out.2.same (by simp) hM2)
    by_cases hlt : j < 2
    · obtain ⟨mj, HS⟩ : ∃ mj, Hid (Stands (Dv.latest S O (j : Int)) (j : Int) mj ∧ later (bestM m0 m1 j) mj = bestM m0 m1 (j + 1)) := by
        rcases (by omega : j = 0 ∨ j = 1) with rfl | rfl
        · exact ⟨m0, hidI ⟨H0.out, rfl⟩⟩
        · exact ⟨m1, hidI ⟨H1.out, rfl⟩⟩
      obtain ⟨L, hL⟩ : ∃ L, bestM m0 m1 j = L := ⟨_, rfl⟩
      have HX := hidI (⟨HR.out, hL⟩ : _ ∧ _)
      rw [hL] at HS
      have L0 : MBox wr (w.heap.size + 1) L := by rw [← hL]; exact HR.out.1
      clear hL
      obtain ⟨x, y, z⟩ := L
      obtain ⟨p, q, r⟩ := mj
      go_wp2_with fail
      refine (dread (dev_kept HD.out FW.out (by simp) (by simp) (by simp)) (j : Int) (by omega) (by omega)).mono ?_
      rintro e w4 ⟨g, rfl, b4, hg, g4⟩
      go_wp2_with fail
      refine (standing_any w4 g 512 _ _ _ HS.out.1 b4 (by omega)).mono ?_
      rintro e w5 ⟨rfl, g5⟩
      have f6 : Fr [] w5 (w5.alloc (.cells #[.int .i64 p, .int .i64 q, .int .i64 r] 159)) := (Fr.refl [] w5).alloc _
      have L6 := f6.same (by simp) (g5.same (by simp) (g4.same (by simp) L0))
      have c60 := cell_of_row _ (w.heap.size + 1) 0 _ _ _ L6
      have G6 := hidI (HR.out.2.trans ((g4.trans (g5.trans f6)).mono (by simp)))
      simp only [mV]
      by_cases hpx : x < p
      · go_wp2_with (refine wp_storeM rfl _ _ rfl (w.heap.size + 1) ⟨x, y, z⟩ ⟨p, q, r⟩ rfl rfl L6 ?_; intro w7 r7 f7)
        exact ⟨⟨_, _, _, _, _, _, ⟨j + 1, rfl, by omega, hidI ⟨by rw [← HS.out.2]; unfold later; rw [if_pos hpx]; exact r7, G6.out.trans f7⟩⟩, rfl, rfl, rfl, rfl, rfl, rfl⟩, by simp [intOf]; omega⟩
      · go_wp2_with fail
        exact ⟨⟨_, _, _, _, _, _, ⟨j + 1, rfl, by omega, hidI ⟨by rw [← HS.out.2]; unfold later; rw [if_neg (Int.not_lt.2 hpx)]; exact L6, G6.out⟩⟩, rfl, rfl, rfl, rfl, rfl, rfl⟩, by simp [intOf]; omega⟩
    · obtain rfl : j = 2 := by omega
      have hmm := HMM.out
      have L0 : MBox wr (w.heap.size + 1) m := by rw [hmm]; exact HR.out.1
      have hmk := HM.out
      clear hmm HMM
      obtain ⟨x, y, z⟩ := m
      have c0 := cell_of_row _ (w.heap.size + 1) 0 _ _ _ L0
      have c1 := cell_of_row _ (w.heap.size + 1) 1 _ _ _ L0
      have c2 := cell_of_row _ (w.heap.size + 1) 2 _ _ _ L0
      have n0 : ¬ x = 0 := by have := hmk.s0; dsimp only at this; omega
      clear hmk
      go_wp2_with (refine wp_storeM rfl _ _ rfl w.heap.size ⟨0, 0, 0⟩ ⟨x, y, z⟩ rfl rfl MR.out ?_; intro w7 r7 f7)
      exact bodyPost_ret (resM2 Tryz.results181 _ _ _ ⟨x, y, z⟩ rfl r7) rfl ⟨rfl, FW.out.then f7 (fun i hi e => by simp at e; omega)⟩
end Go.Proofs.YthajipigppndgaaGreat

namespace Go.Proofs.YthajipigppndgaaGreat
open Go.RowKit Go.Maps

theorem src_blk {w : World} {g : Nat} {l : List UInt8} (h : Blk w g l) : Dv.Src w g 0 l := by
  intro j v hv
  obtain ⟨b, off, e, hc⟩ := h.bytes j v hv
  cases e
  exact hc

set_option maxRecDepth 100000 in
theorem mw2_any (w : World) (d bs bo : Nat) (nb : Int) (S O : Dv.Tab) (hd : Dv.Dev w d bs bo nb 0 false S O) (x : Nat) (t : TypeId) (hx : w.heap[x]? = some (.cells #[.pointer (some ⟨d, 0, none⟩)] t)) :
    Calls Tryz.prog 189 #[.pointer (some ⟨x, 0, none⟩)] w fun e w' => e = .returned (.int .i64 0) ∧ Dv.Dev w' d bs bo nb 0 false (Dv.over S O) Dv.Tab.none ∧ Fr [d, bs, bo] w w' := by
  have c0 := cell_of_row w x 0 _ _ _ hx
  go_enter Tryz.func189, Tryz.ntmps189
  go_wp2_with (go_at_call 104; refine (Dv.sync_dev hd rfl).mono ?_; rintro e w3 ⟨rfl, D3, f3⟩)
  go_ret
  exact ⟨rfl, D3, fr_dv f3⟩
set_option maxRecDepth 100000 in
theorem mw1_any (w : World) (d bs bo : Nat) (nb : Int) (S O : Dv.Tab) (hd : Dv.Dev w d bs bo nb 0 false S O) (hn : 2 ≤ nb) (x y : Nat) (t : TypeId) (hx : w.heap[x]? = some (.cells #[.pointer (some ⟨d, 0, none⟩)] t)) (m : Mst) (hm : MOk m) (hy : MBox w y m) (nx : x ∉ [d, bo]) (ny : y ∉ [d, bo]) :
    Calls Tryz.prog 186 #[.pointer (some ⟨x, 0, none⟩), .pointer (some ⟨y, 0, none⟩)] w fun e w' => e = .returned (.int .i64 0) ∧ Dv.Dev w' d bs bo nb 0 false S (O.put (m.seq % 2) (mBytes m)) ∧ Fr [d, bo] w w' := by
  have HD := hidI hd
  have HL1 := hidI (fun (w' : World) (_ : Fr [] w w') => laid_any w' m hm)
  have HB1 := hidI (fun (w' : World) (_ : Fr [] w w') => mblock_any w' m hm)
  have SK := hidI (fun (w' : World) (f : Fr [d, bo] w w') => (⟨cell_of_row w' x 0 _ _ _ (f.same nx hx), cell_of_row w' y 0 _ _ _ (f.same ny hy), cell_of_row w' y 1 _ _ _ (f.same ny hy), cell_of_row w' y 2 _ _ _ (f.same ny hy)⟩ : w'.cell? ⟨x, 0, none⟩ = some (.pointer (some ⟨d, 0, none⟩)) ∧ w'.cell? ⟨y, 0, none⟩ = some (.int .i64 m.seq) ∧ w'.cell? ⟨y, 1, none⟩ = some (.int .i64 m.turn) ∧ w'.cell? ⟨y, 2, none⟩ = some (.int .i64 m.old)))
  have gg : Fr [] w w.drew := (Fr.refl [] w).drew
  have k0 : 0 ≤ m.seq % 2 := by omega
  have k1 : m.seq % 2 < nb := by omega
  clear hd hm hx hy
  go_enter Tryz.func186, Tryz.ntmps186
  go_wp2_with fail
  go_region_held3 (fun w' => w'.cell? ⟨x, 0, none⟩ = some (.pointer (some ⟨d, 0, none⟩)) ∧ w'.cell? ⟨y, 0, none⟩ = some (.int .i64 m.seq) ∧ w'.cell? ⟨y, 1, none⟩ = some (.int .i64 m.turn) ∧ w'.cell? ⟨y, 2, none⟩ = some (.int .i64 m.old)) (first | exact SK.out _ (gg.mono (by simp)) | exact SK.out _ g6) ((first
    | (go_at_call 187; refine (HB1.out _ gg).mono ?_; rintro e w4 ⟨rfl, f4⟩; replace gg := gg.trans f4; first | (replace bb : Blk _ _ _ := f4.same (by simp) bb) | skip)
    | (go_at_call 188; refine (HL1.out _ gg).mono ?_; rintro e w4 ⟨g5, rfl, bb, hg5, f4⟩; replace gg := gg.trans f4)
    | (go_at_call 102; refine (Dv.write_dev (dev_kept HD.out gg (by simp) (by simp) (by simp)) (m.seq % 2) k0 k1 _ 0 512 (mBytes m) (mBytes_length m) (src_blk bb)).mono ?_; rintro e w5 ⟨rfl, D5, f5⟩; have g6 := (gg.mono (M := [d, bo]) (by simp)).trans (fr_dv f5))))
  all_goals
    go_wp2_with fail
    go_ret
    exact ⟨rfl, D5, g6⟩
end Go.Proofs.YthajipigppndgaaGreat

namespace Go.Proofs.YthajipigppndgaaGreat
open Go.RowKit Go.Maps

def flW (B : Nat) : List (FuncId × List Value) := [(186, [.pointer (some ⟨B, 0, none⟩), .pointer (some ⟨B + 1, 0, none⟩)]), (189, [.pointer (some ⟨B, 0, none⟩)])]
def WrI (wt : World) (d bs bo : Nat) (nb : Int) (S O : Dv.Tab) (m : Mst) : Nat → World → Prop
  | 0 => fun w' => Dv.Dev w' d bs bo nb 0 false S O ∧ Fr [d, bs, bo] wt w'
  | 1 => fun w' => Dv.Dev w' d bs bo nb 0 false S (O.put (m.seq % 2) (mBytes m)) ∧ Fr [d, bs, bo] wt w'
  | _ => fun w' => Dv.Dev w' d bs bo nb 0 false (Dv.over S (O.put (m.seq % 2) (mBytes m))) Dv.Tab.none ∧ Fr [d, bs, bo] wt w'
theorem WrI.fr {wt : World} {d bs bo : Nat} {nb : Int} {S O : Dv.Tab} {m : Mst} : ∀ {i : Nat} {w' : World}, WrI wt d bs bo nb S O m i w' → Fr [d, bs, bo] wt w'
  | 0, _, h => h.2
  | 1, _, h => h.2
  | _ + 2, _, h => h.2
theorem enW (w : World) (B : Nat) : ∀ (i : Nat) (p : FuncId × List Value), (flW B)[i]? = some p → (callFunc p.1 p.2.toArray).run Tryz.prog w = .ok (.enter p.1 p.2.toArray) w
  | 0, p, h => by cases h; go_simp
  | 1, p, h => by cases h; go_simp
  | n + 2, p, h => by simp [flW] at h
set_option maxRecDepth 100000 in
theorem mw_any (w : World) (d bs bo : Nat) (nb : Int) (S O : Dv.Tab) (hd : Dv.Dev w d bs bo nb 0 false S O) (hn : 24 ≤ nb) (m : Mst) (hm : MOk m) :
    Calls Tryz.prog 115 #[.pointer (some ⟨d, 0, none⟩), .agg (mV m)] w fun e w' => e = .returned (.int .i64 0) ∧ Dv.Dev w' d bs bo nb 0 false (Dv.over S (O.put (m.seq % 2) (mBytes m))) Dv.Tab.none ∧ Fr [d, bs, bo] w w' := by
  have HM := hidI hm
  clear hm
  have z0 : ¬ nb = 0 := by omega
  have z1 : ¬ nb < 24 := by omega
  unfold mV
  have HD := hidI hd
  have s1 : (w.alloc (.cells #[.pointer (some ⟨d, 0, none⟩)] 33)).heap.size = w.heap.size + 1 := by simp
  have bx := (((Fr.refl [] (w.alloc (.cells #[.pointer (some ⟨d, 0, none⟩)] 33))).alloc (.cells #[.int .i64 m.seq, .int .i64 m.turn, .int .i64 m.old] 159))).same (by simp) (heap_alloc_new w (.cells #[.pointer (some ⟨d, 0, none⟩)] 33))
  have by' := heap_alloc_new (w.alloc (.cells #[.pointer (some ⟨d, 0, none⟩)] 33)) (.cells #[.int .i64 m.seq, .int .i64 m.turn, .int .i64 m.old] 159)
  rw [s1] at by'
  have f1 : Fr [] w ((w.alloc (.cells #[.pointer (some ⟨d, 0, none⟩)] 33)).alloc (.cells #[.int .i64 m.seq, .int .i64 m.turn, .int .i64 m.old] 159)) := ((Fr.refl [] w).alloc _).alloc _
  obtain ⟨w1, hw1⟩ : ∃ w1, (w.alloc (.cells #[.pointer (some ⟨d, 0, none⟩)] 33)).alloc (.cells #[.int .i64 m.seq, .int .i64 m.turn, .int .i64 m.old] 159) = w1 := ⟨_, rfl⟩
  rw [hw1] at f1 bx by'
  have D1 := hidI (dev_kept hd f1 (by simp) (by simp) (by simp))
  have x0 := cell_of_row w1 w.heap.size 0 _ _ _ bx
  have y0 := cell_of_row w1 (w.heap.size + 1) 0 _ _ _ by'
  have y1 := cell_of_row w1 (w.heap.size + 1) 1 _ _ _ by'
  have y2 := cell_of_row w1 (w.heap.size + 1) 2 _ _ _ by'
  go_enter Tryz.func115, Tryz.ntmps115
  go_wp2_with (go_at_call 120; refine (Dv.blocks_dev D1.out).mono ?_; rintro e w3 ⟨rfl, hz⟩; rw [hz]; clear hz)
  refine (mayBe_any w1 m HM.out).mono ?_
  rintro e w4 ⟨rfl, g4⟩
  have bx4 := g4.same (by simp) bx
  have by4 := g4.same (by simp) by'
  have f4 := f1.trans g4
  have D4 := hidI (dev_kept HD.out f4 (by simp) (by simp) (by simp))
  have x4 := cell_of_row w4 w.heap.size 0 _ _ _ bx4
  go_wp2_with (go_at_call 120; refine (Dv.blocks_dev D4.out).mono ?_; rintro e w3 ⟨rfl, hz⟩; rw [hz]; clear hz)
  have hfl := heap_alloc_new w4 (.cells #[.func (.func 186) #[] #[.pointer (some ⟨w.heap.size, 0, none⟩), .pointer (some ⟨w.heap.size + 1, 0, none⟩)], .func (.func 189) #[] #[.pointer (some ⟨w.heap.size, 0, none⟩)]] 53)
  have f5 : Fr [] w4 (w4.alloc (.cells #[.func (.func 186) #[] #[.pointer (some ⟨w.heap.size, 0, none⟩), .pointer (some ⟨w.heap.size + 1, 0, none⟩)], .func (.func 189) #[] #[.pointer (some ⟨w.heap.size, 0, none⟩)]] 53)) := (Fr.refl [] w4).alloc _
  obtain ⟨wt, hwt⟩ : ∃ wt, w4.alloc (.cells #[.func (.func 186) #[] #[.pointer (some ⟨w.heap.size, 0, none⟩), .pointer (some ⟨w.heap.size + 1, 0, none⟩)], .func (.func 189) #[] #[.pointer (some ⟨w.heap.size, 0, none⟩)]] 53) = wt := ⟨_, rfl⟩
  rw [hwt] at hfl f5 ⊢
  have bx5 := f5.same (by simp) bx4
  have by5 := f5.same (by simp) by4
  have f6 := f4.trans f5
  have le4 : w.heap.size ≤ w4.heap.size := f4.size
  have hout : ∀ k, w.heap.size ≤ k → k ∉ [d, bs, bo] := by
    intro k hk hm
    have h1 : d < w.heap.size := (Array.getElem?_eq_some_iff.1 HD.out.cells).1
    have h2 : bs < w.heap.size := by
      obtain ⟨D', ⟨es, clock, hb, _⟩, _⟩ := HD.out.safe
      exact (Array.getElem?_eq_some_iff.1 hb).1
    have h3 : bo < w.heap.size := by
      obtain ⟨D', ⟨es, clock, hb, _⟩, _⟩ := HD.out.opn
      exact (Array.getElem?_eq_some_iff.1 hb).1
    simp at hm
    omega
  refine (inTurn_ok wt (some ⟨w4.heap.size, 0, none⟩) 2 2 (flW w.heap.size) rfl (by omega) (WrI wt d bs bo nb S O m) ⟨dev_kept HD.out f6 (by simp) (by simp) (by simp), Fr.refl _ _⟩ ?_ (fun i p hp w' => enW w' _ i p hp) ?_).mono ?_
  · intro i w' hI j p hp
    have h3 := hI.fr.same (hout w4.heap.size le4) hfl
    refine ⟨_, rfl, ?_⟩
    rw [cell_of_row w' _ j _ _ _ h3]
    match j, hp with
    | 0, hp => cases hp; rfl
    | 1, hp => cases hp; rfl
    | n + 2, hp => simp [flW] at hp
  · intro i p hp w' hI
    have hx7 := hI.fr.same (hout _ (Nat.le_refl _)) bx5
    have hy7 := hI.fr.same (hout _ (Nat.le_succ _)) by5
    match i, hp, hI with
    | 0, hp, hI =>
      cases hp
      refine (mw1_any w' d bs bo nb S O hI.1 (by omega) w.heap.size (w.heap.size + 1) _ hx7 m HM.out hy7 (fun h => hout _ (Nat.le_refl _) (by simp at h ⊢; omega)) (fun h => hout _ (Nat.le_succ _) (by simp at h ⊢; omega))).mono ?_
      rintro e w9 ⟨rfl, D9, f9⟩
      exact ⟨rfl, D9, hI.2.trans (f9.mono (by intro k _ hk; simp at hk ⊢; omega))⟩
    | 1, hp, hI =>
      cases hp
      refine (mw2_any w' d bs bo nb _ _ hI.1 w.heap.size _ hx7).mono ?_
      rintro e w9 ⟨rfl, D9, f9⟩
      exact ⟨rfl, D9, hI.2.trans f9⟩
    | n + 2, hp, hI => simp [flW] at hp
  rintro e w9 ⟨rfl, hI⟩
  go_wp2_with fail
  go_ret
  exact ⟨rfl, hI.1, (f6.mono (by simp)).trans hI.2⟩
end Go.Proofs.YthajipigppndgaaGreat

namespace Go.Proofs.YthajipigppndgaaGreat
open Go.RowKit Go.Maps

section
variable {ops : Array Oper} {rest : List Oper} {o : Oper} {a : Act} {w : World} {Q : Exit → Act → World → Prop}
set_option maxRecDepth 100000 in
theorem wp_make55 (hgd : o.guard = none) (x y : Operand) (ho : o.op = .makeSlice 26 x y) (hx : a.eval x = .int .i64 512) (hy : a.eval y = .int .i64 512)
    (h : ∀ w' g, w.heap.size ≤ g → Blk w' g (zs 512) → Fr [] w w' → wpList Tryz.prog ops Q rest (a.put o.dst (.slice (some ⟨g, 0, none⟩) 512 512)) w') : wpList Tryz.prog ops Q (o :: rest) a w :=
  wpList_plain hgd fun K hK => by
    obtain ⟨i, hi, hz, hs, hb⟩ := info5'
    have hrun := run_makeSlice (P := Tryz.prog) w 26 5 i (.int .u8 0) Tryz.underlying26 hi hz .i64 .i64 (512 : Int) (512 : Int) (by omega) (by omega) (by rw [hs]; decide) (by rw [hb]; decide) (by omega)
    have e1 : (512 : Int).toNat * 1 = 512 := rfl
    rw [hs, e1, arr_zeros] at hrun
    unfold Oper.wp execOp
    simp [ho, hx, hy, hrun, Result.andThen]
    exact hK _ _ (h _ _ (Nat.le_refl _) (heap_alloc_new w _) ((Fr.refl _ _).alloc _))
end
set_option maxHeartbeats 2000000 in
set_option maxRecDepth 100000 in
theorem wipe_any (w : World) (d bs bo : Nat) (nb : Int) (S O : Dv.Tab) (hd : Dv.Dev w d bs bo nb 0 false S O) (hn : 0 ≤ nb) (hn2 : nb ≤ 1000000) :
    Calls Tryz.prog 122 #[.pointer (some ⟨d, 0, none⟩)] w fun e w' => e = .returned (.int .i64 0) ∧ (∃ O', (∀ k : Int, 0 ≤ k → k < nb → O' k = some (zs 512)) ∧ Dv.Dev w' d bs bo nb 0 false S O') ∧ Fr [d, bo] w w' := by
  have HD := hidI hd
  go_enter Tryz.func122, Tryz.ntmps122
  go_wp2_with first
    | (refine wp_make55 rfl _ _ rfl rfl rfl ?_; intro w2 g hg b2 f2; have D2 := hidI (dev_kept HD.out f2 (by simp) (by simp) (by simp)))
    | (go_at_call 120; refine (Dv.blocks_dev D2.out).mono ?_; rintro e w3 ⟨rfl, hz⟩; rw [hz]; clear hz)
  have gd : g ∉ [d, bo] := by
    intro hm
    have h1 : d < w.heap.size := (Array.getElem?_eq_some_iff.1 HD.out.cells).1
    have h3 : bo < w.heap.size := by
      obtain ⟨D', ⟨es, clock, hb, _⟩, _⟩ := HD.out.opn
      exact (Array.getElem?_eq_some_iff.1 hb).1
    simp at hm
    omega
  have F2 := hidI (f2.mono (M := [d, bo]) (by simp))
  go_loopw [9] (fun s9 wr => ∃ j : Nat, s9 = .int .i64 (j : Int) ∧ (j : Int) ≤ nb ∧ Hid ((∃ O', (∀ k : Int, 0 ≤ k → k < (j : Int) → O' k = some (zs 512)) ∧ Dv.Dev wr d bs bo nb 0 false S O') ∧ Fr [d, bo] w2 wr)) (fun i _ => nb.toNat - (intOf i).toNat)
  case atStart => exact ⟨0, rfl, by omega, hidI ⟨⟨O, fun k h1 h2 => absurd h2 (by omega), D2.out⟩, Fr.refl _ _⟩⟩
  case round =>
    obtain ⟨j, rfl, hj, HR⟩ := hrel
    by_cases hlt : (j : Int) < nb
    · obtain ⟨⟨O', hO', D'⟩, FR⟩ := HR.out
      have HO := hidI hO'
      clear hO'
      have b3 : Blk wr g (zs 512) := FR.same gd b2
      go_wp2_with (go_at_call 102; refine (Dv.write_dev D' (j : Int) (by omega) hlt g 0 512 (zs 512) (zs_length 512) (src_blk b3)).mono ?_; rintro e w5 ⟨rfl, D5, f5⟩; rw [show Dv.told (Dv.crash 0) = 0 from rfl])
      refine ⟨⟨j + 1, rfl, by omega, hidI ⟨⟨O'.put (j : Int) (zs 512), ?_, D5⟩, FR.trans (fr_dv f5)⟩⟩, by simp [intOf]; omega⟩
      intro k k0 k1
      by_cases hk : k = (j : Int)
      · simp [Dv.Tab.put, hk]
      · simp only [Dv.Tab.put, if_neg hk]
        exact HO.out k k0 (by omega)
    · obtain rfl : (j : Int) = nb := by omega
      go_wp2_with fail
      go_ret
      exact ⟨rfl, HR.out.1, F2.out.trans HR.out.2⟩
end Go.Proofs.YthajipigppndgaaGreat

