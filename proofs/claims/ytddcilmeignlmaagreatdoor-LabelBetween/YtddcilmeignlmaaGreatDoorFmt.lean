/-
  strconv.FormatInt at base 2.
-/
import Derived.Test.YtddcilmeignlmaaGreatDoorTz
import Derived.Lib.Zigzag
namespace Go.Proofs.YtddcilmeignlmaaGreatDoor
open Go.RowKit Go.Maps Go.Lib

/-- A block of 65 bytes. -/
def A65 (w : World) (g : Nat) (l : List UInt8) : Prop := w.heap[g]? = some (.cells (arr l) 242)
theorem zero65 : Tryz.zeroCells242 = arr (List.replicate 65 0) := by kernel_rfl

theorem A65.cell {w : World} {g : Nat} {l : List UInt8} (h : A65 w g l) (j : Nat) (hj : j < l.length) : w.cell? ⟨g, j, none⟩ = some (.int .u8 (byteAt l j).toNat) := by
  rw [cell_of_row w g j _ _ _ h, arr_at, List.getElem?_eq_getElem hj, byteAt_lt hj]; rfl
theorem A65.frozen {w : World} {g : Nat} {l : List UInt8} (h : A65 w g l) (j : Nat) : w.frozen? ⟨g, j, none⟩ = false := frozen_of_row w g j _ _ h
theorem A65.set {w : World} {g : Nat} {l : List UInt8} (h : A65 w g l) (j : Nat) (b : UInt8) : A65 (w.setCell ⟨g, j, none⟩ (.int .u8 b.toNat)) g (l.set j b) := by
  have := heap_setCell_same w g j _ _ (.int .u8 b.toNat) h
  unfold A65
  rw [this]
  simp [arr, List.map_set]
theorem A65.bytes {w : World} {g : Nat} {l : List UInt8} (h : A65 w g l) (k : Nat) : BytesAt w (some ⟨g, k, none⟩) (l.drop k) := by
  intro j v hv
  refine ⟨g, k, rfl, ?_⟩
  rw [cell_of_row w g (k + j) _ _ _ h, ← hv, Array.getElem?_toList, arr_at, arr_at, List.getElem?_drop]

theorem slice65 (W : World) (g I K : Nat) (h : I + K = 65) (hK : K ≠ 0) : (Instr.sliceAt 242 (.pointer (some ⟨g, 0, none⟩)) (some (.int .i64 (I : Int))) none none).run Tryz.prog W = .ok (.slice (some ⟨g, I, none⟩) K K) W := by
  obtain ⟨i, hi, hz, hsz, hb⟩ := info5'
  have h1 : Tryz.prog.arrayLen 242 = 65 := by kernel_rfl
  have h2 : Tryz.prog.elem 242 = 5 := by kernel_rfl
  rw [run_sliceAt_array_l W 242 ⟨g, 0, none⟩ (by kernel_rfl) .i64 (I : Int) (by omega) (by rw [h1]; omega), h1, h2]
  have h3 : (sizeOf 5).run Tryz.prog W = .ok 1 W := by simp [sizeOf, typeInfo, hi, hsz]
  rw [h3]
  simp only [Result.andThen, slicedAt, Int.toNat_natCast]
  rw [if_neg (by omega), show 65 - I = K from by omega]
  simp [Addr.add]
  intro e
  exact e.symm

/-- The lowest bits of a number, the highest of them first. -/
def lowB (n : Nat) : Nat → List Bool
  | 0 => []
  | j + 1 => decide (n / 2 ^ j % 2 = 1) :: lowB n j
theorem lowB_len (n : Nat) : ∀ j, (lowB n j).length = j
  | 0 => rfl
  | j + 1 => by simp [lowB, lowB_len n j]

/-- What the loop has written. -/
structure FTo (n : Nat) (cur : List UInt8) (j : Nat) : Prop where
  len : cur.length = 65
  low : cur.drop (65 - j) = txt (lowB n j)
  most : j = 0 ∨ 2 ^ j ≤ n
theorem FTo.step {n : Nat} {cur : List UInt8} {j : Nat} (h : FTo n cur j) (hj : j < 65) (h2 : 2 ≤ n / 2 ^ j) : FTo n (cur.set (64 - j) (chr (decide (n / 2 ^ j % 2 = 1)))) (j + 1) := by
  refine ⟨by rw [List.length_set]; exact h.len, ?_, Or.inr ?_⟩
  · rw [show 65 - (j + 1) = 64 - j from by omega]
    have hl := h.len
    rw [List.drop_eq_getElem_cons (by rw [List.length_set]; omega), List.getElem_set_self, List.drop_set_of_lt (by omega), show 64 - j + 1 = 65 - j from by omega, h.low]
    rfl
  · have := (Nat.le_div_iff_mul_le (Nat.two_pow_pos j)).1 h2
    rw [Nat.pow_succ]
    omega
theorem FTo.le {n : Nat} {cur : List UInt8} {j : Nat} (h : FTo n cur j) (hn : n ≤ 16384) : j ≤ 14 := by
  rcases h.most with e | e
  · omega
  · rcases Nat.lt_or_ge 14 j with h' | h'
    · have : 2 ^ 15 ≤ 2 ^ j := Nat.pow_le_pow_right (by omega) h'
      omega
    · exact h'

set_option maxHeartbeats 1000000 in
set_option maxRecDepth 100000 in
theorem formatBits_two (w : World) (h : Laid w) (n : Nat) (hn : n ≤ 16384) :
    Calls Tryz.prog 130 #[.slice none 0 0, .int .u64 (n : Int), .int .i64 2, .bool false, .bool false] w fun e w' => ∃ j, e = .returned (.tuple #[.slice none 0 0, .string (mkS (txt (lowB n (j + 1))))]) ∧ n / 2 ^ j < 2 ∧ (j = 0 ∨ 2 ^ j ≤ n) ∧ Fr [] w w' := by
  have hn0 : (0 : Int) ≤ (n : Int) := by omega
  have hn1 : (n : Int) ≤ 16384 := by omega
  have f0 : Fr [] w (w.alloc (.cells Tryz.zeroCells242 242)) := (Fr.refl _ _).alloc _
  have hA : A65 (w.alloc (.cells Tryz.zeroCells242 242)) w.heap.size (List.replicate 65 0) := by
    unfold A65
    rw [heap_alloc_new, zero65]
  have ht := tz_two _ (h.kept f0)
  have hp := pow2_two (w.alloc (.cells Tryz.zeroCells242 242))
  go_enter Tryz.func130, Tryz.ntmps130
  go_wp2_with fail
  refine hp.mono ?_
  rintro e w1 ⟨rfl, rfl⟩
  clear hp
  go_wp2_with fail
  refine ht.mono ?_
  rintro e w1 ⟨rfl, rfl⟩
  clear ht
  go_wp2_with fail
  generalize w.alloc (.cells Tryz.zeroCells242 242) = w2 at f0 hA ⊢
  obtain ⟨g, hg⟩ : ∃ g, g = w.heap.size := ⟨_, rfl⟩
  rw [← hg] at hA ⊢
  have hgw : w.heap.size ≤ g := by omega
  clear hg
  go_loopw [1, 13] (fun v1 v13 wr => ∃ (j U I : Nat) (cur : List UInt8), U = n / 2 ^ j ∧ I + j = 65 ∧ v1 = .int .u64 (U : Nat) ∧ v13 = .int .i64 (I : Nat) ∧ FTo n cur j ∧ A65 wr g cur ∧ Fr [g] w2 wr) (fun v1 _ _ => (intOf v1).toNat)
  case atStart => exact ⟨0, n, 65, _, by simp, rfl, rfl, rfl, ⟨by simp, by simp [lowB, txt], Or.inl rfl⟩, hA, Fr.refl _ _⟩
  case round =>
    obtain ⟨j, U, I, cur, hU, hI, rfl, rfl, F, Ar, fr⟩ := hrel
    have hj := F.le hn
    have HU : Hid (U = n / 2 ^ j) := hU
    have HF : Hid (FTo n cur j) := F
    have hUn : U ≤ 16384 := by rw [hU]; exact Nat.le_trans (Nat.div_le_self _ _) hn
    have hU0 : (0 : Int) ≤ (U : Int) := by omega
    have hU1 : (U : Int) ≤ 16384 := by omega
    obtain ⟨I', hI'⟩ : ∃ I', I = I' + 1 := ⟨I - 1, by omega⟩
    have hIs : (I : Int) - 1 = (I' : Int) := by omega
    have hI0 : (0 : Int) ≤ (I' : Int) := by omega
    have hI1 : (I' : Int) < 65 := by omega
    have hI2 : I' = 64 - j := by omega
    have HI : Hid (I' = 64 - j) := hI2
    have hIl : I' < cur.length := by rw [F.len]; omega
    have qc := Ar.cell I' hIl
    have qf := Ar.frozen I'
    clear hU F hI2
    by_cases h2 : 2 ≤ U
    · have h2' : (2 : Int) ≤ (U : Int) := by omega
      obtain ⟨q, hq⟩ : ∃ q, U / 2 = q := ⟨_, rfl⟩
      have hq' : (U : Int) / 2 = (q : Int) := by omega
      have hq0 : (0 : Int) ≤ (q : Int) := by omega
      have hand := u64_and1 (U : Int) hU0 (by omega)
      have HQ : Hid (q = n / 2 ^ (j + 1)) := (by rw [Nat.pow_succ, ← Nat.div_div_eq_div_mul, ← HU.out, hq] : q = n / 2 ^ (j + 1))
      have HS : Hid (FTo n (cur.set I' (chr (decide (U % 2 = 1)))) (j + 1)) := (by
        have := HF.out.step (by omega) (by rw [← HU.out]; exact h2)
        rw [← HU.out, ← HI.out] at this
        exact this : FTo n (cur.set I' (chr (decide (U % 2 = 1)))) (j + 1))
      have hqU : q < U := by omega
      clear hq
      rcases Nat.mod_two_eq_zero_or_one U with e | e
      · have hm : (U : Int) % 2 = 0 := by omega
        rw [hm] at hand
        have HS' : Hid (FTo n (cur.set I' 48) (j + 1)) := (by have := HS.out; rw [e] at this; exact this : FTo n (cur.set I' 48) (j + 1))
        clear hm HS e
        have AS : A65 (wr.setCell ⟨g, I', none⟩ (.int .u8 48)) g (cur.set I' 48) := Ar.set I' 48
        have fS : Fr [g] w2 (wr.setCell ⟨g, I', none⟩ (.int .u8 48)) := fr.setCell _ _ (by simp)
        go_wp2_with fail
        exact ⟨⟨j + 1, q, I', cur.set I' 48, HQ.out, by omega, rfl, rfl, HS'.out, AS, fS⟩, by simp [intOf]; omega⟩
      · have hm : (U : Int) % 2 = 1 := by omega
        rw [hm] at hand
        have HS' : Hid (FTo n (cur.set I' 49) (j + 1)) := (by have := HS.out; rw [e] at this; exact this : FTo n (cur.set I' 49) (j + 1))
        clear hm HS e
        have AS : A65 (wr.setCell ⟨g, I', none⟩ (.int .u8 49)) g (cur.set I' 49) := Ar.set I' 49
        have fS : Fr [g] w2 (wr.setCell ⟨g, I', none⟩ (.int .u8 49)) := fr.setCell _ _ (by simp)
        go_wp2_with fail
        exact ⟨⟨j + 1, q, I', cur.set I' 49, HQ.out, by omega, rfl, rfl, HS'.out, AS, fS⟩, by simp [intOf]; omega⟩
    · have hd : U = 0 ∨ U = 1 := by omega
      have HL : Hid (U < 2) := (by omega : U < 2)
      have HD : ∀ b : Bool, decide (U % 2 = 1) = b → Hid ((cur.set I' (chr b)).drop I' = txt (lowB n (j + 1))) := fun b hb => (by
        have hl := HF.out.len
        have h1 := HF.out.low
        rw [List.drop_eq_getElem_cons (by rw [List.length_set]; omega), List.getElem_set_self, List.drop_set_of_lt (by omega), show I' + 1 = 65 - j from by have := HI.out; omega, h1]
        rw [← hb]
        show _ = chr (decide (n / 2 ^ j % 2 = 1)) :: txt (lowB n j)
        rw [← HU.out] : (cur.set I' (chr b)).drop I' = txt (lowB n (j + 1)))
      rcases hd with e | e
      · subst e
        have HD' := HD false rfl
        clear HD h2
        have AS : A65 (wr.setCell ⟨g, I', none⟩ (.int .u8 48)) g (cur.set I' 48) := Ar.set I' 48
        have fS : Fr [g] w2 (wr.setCell ⟨g, I', none⟩ (.int .u8 48)) := fr.setCell _ _ (by simp)
        have hbs := AS.bytes I'
        rw [show (48 : UInt8) = chr false from rfl, HD'.out] at hbs
        have hln : (txt (lowB n (j + 1))).length = j + 1 := by rw [txt_length, lowB_len]
        have hsl := fun W => slice65 W g I' (j + 1) (by omega) (by omega)
        go_wp2_with (refine wp_conv rfl _ rfl (txt (lowB n (j + 1))) _ (j + 1) (j + 1) rfl hln hbs (fun _ => Or.inr ⟨_, _, rfl⟩) ?_)
        go_ret2
        exact ⟨j, rfl, by rw [← HU.out]; exact HL.out, HF.out.most, (f0.then fS (fun i hi hm => by simp at hm; omega))⟩
      · subst e
        have HD' := HD true rfl
        clear HD h2
        have AS : A65 (wr.setCell ⟨g, I', none⟩ (.int .u8 49)) g (cur.set I' 49) := Ar.set I' 49
        have fS : Fr [g] w2 (wr.setCell ⟨g, I', none⟩ (.int .u8 49)) := fr.setCell _ _ (by simp)
        have hbs := AS.bytes I'
        rw [show (49 : UInt8) = chr true from rfl, HD'.out] at hbs
        have hln : (txt (lowB n (j + 1))).length = j + 1 := by rw [txt_length, lowB_len]
        have hsl := fun W => slice65 W g I' (j + 1) (by omega) (by omega)
        go_wp2_with (refine wp_conv rfl _ rfl (txt (lowB n (j + 1))) _ (j + 1) (j + 1) rfl hln hbs (fun _ => Or.inr ⟨_, _, rfl⟩) ?_)
        go_ret2
        exact ⟨j, rfl, by rw [← HU.out]; exact HL.out, HF.out.most, (f0.then fS (fun i hi hm => by simp at hm; omega))⟩

set_option maxHeartbeats 1000000 in
set_option maxRecDepth 100000 in
theorem formatIntx_two (w : World) (h : Laid w) (n : Nat) (hn : n ≤ 16384) :
    Calls Tryz.prog 94 #[.int .i64 (n : Int), .int .i64 2] w fun e w' => ∃ j, e = .returned (.string (mkS (txt (lowB n (j + 1))))) ∧ n / 2 ^ j < 2 ∧ (j = 0 ∨ 2 ^ j ≤ n) ∧ Fr [] w w' := by
  have hn0 : (0 : Int) ≤ (n : Int) := by omega
  have hn1 : (n : Int) ≤ 16384 := by omega
  have hb := formatBits_two w h n hn
  have hdn : decide ((n : Int) < 0) = false := by simp
  go_enter Tryz.func94, Tryz.ntmps94
  go_wp2_with fail
  refine hb.mono ?_
  rintro e w1 ⟨j, rfl, hj, hm, f1⟩
  have HM : Hid (n / 2 ^ j < 2 ∧ (j = 0 ∨ 2 ^ j ≤ n)) := ⟨hj, hm⟩
  clear hj hm hb
  go_wp2_with fail
  go_ret
  exact ⟨j, rfl, HM.out.1, HM.out.2, f1⟩

set_option maxHeartbeats 1000000 in
set_option maxRecDepth 100000 in
theorem formatInt_two (w : World) (h : Laid w) (n : Nat) (hn : n ≤ 16384) :
    Calls Tryz.prog 69 #[.int .i64 (n : Int), .int .i64 2] w fun e w' => ∃ j, e = .returned (.string (mkS (txt (lowB n (j + 1))))) ∧ n / 2 ^ j < 2 ∧ (j = 0 ∨ 2 ^ j ≤ n) ∧ Fr [] w w' := by
  have hb := formatIntx_two w h n hn
  go_enter Tryz.func69, Tryz.ntmps69
  go_wp2_with fail
  refine hb.mono ?_
  rintro e w1 ⟨j, rfl, hj, hm, f1⟩
  have HM : Hid (n / 2 ^ j < 2 ∧ (j = 0 ∨ 2 ^ j ≤ n)) := ⟨hj, hm⟩
  clear hj hm hb
  go_wp2_with fail
  go_ret
  exact ⟨j, rfl, HM.out.1, HM.out.2, f1⟩

set_option maxHeartbeats 1000000 in
set_option maxRecDepth 100000 in
theorem binary_any (w : World) (h : Laid w) (n : Nat) (hn : n ≤ 16384) :
    Calls Tryz.prog 48 #[.int .i64 (n : Int)] w fun e w' => ∃ j, e = .returned (.string (mkS (txt (lowB n (j + 1))))) ∧ n / 2 ^ j < 2 ∧ (j = 0 ∨ 2 ^ j ≤ n) ∧ Fr [] w w' := by
  have hb := formatInt_two w h n hn
  have hn0 : (0 : Int) ≤ (n : Int) := by omega
  have hn1 : (n : Int) ≤ 16384 := by omega
  go_enter Tryz.func48, Tryz.ntmps48
  go_wp2_with fail
  refine hb.mono ?_
  rintro e w1 ⟨j, rfl, hj, hm, f1⟩
  have HM : Hid (n / 2 ^ j < 2 ∧ (j = 0 ∨ 2 ^ j ≤ n)) := ⟨hj, hm⟩
  clear hj hm hb
  go_wp2_with fail
  go_ret
  exact ⟨j, rfl, HM.out.1, HM.out.2, f1⟩

end Go.Proofs.YtddcilmeignlmaaGreatDoor
