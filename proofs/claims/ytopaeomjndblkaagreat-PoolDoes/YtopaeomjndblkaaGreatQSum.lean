/-
  The sum of two rows: the program's sum.
-/
import Derived.Test.YtopaeomjndblkaaGreatQTake
namespace Go.Proofs.YtopaeomjndblkaaGreat
open Go.RowKit Go.Maps

theorem hidI {P : Prop} (h : P) : Hid P := h
def preS (l1 l2 : List UInt8) (j : Nat) : List UInt8 := if j = 0 then [] else if j = 1 then l1 else l1 ++ l2

theorem ofI32 (a : Nat) (h : a < 4294967296) : (BitVec.ofInt 32 (a : Int)).toNat = a := by
  rw [BitVec.ofInt_natCast, BitVec.toNat_ofNat]; exact Nat.mod_eq_of_lt (by omega)
theorem xor32 (a b : Nat) (ha : a < 4294967296) (hb : b < 4294967296) : bits .xor .u32 (a : Int) (b : Int) = ((a ^^^ b : Nat) : Int) := by
  have hx : a ^^^ b < 2 ^ 32 := Nat.xor_lt_two_pow (by omega) (by omega)
  show IntKind.u32.wrap ((BitVec.ofInt 32 (a : Int) ^^^ BitVec.ofInt 32 (b : Int)).toNat : Int) = _
  rw [BitVec.toNat_xor, ofI32 a ha, ofI32 b hb]
  simp [IntKind.wrap, IntKind.signed, IntKind.bits]
  omega
theorem and32 (a b : Nat) (ha : a < 4294967296) (hb : b < 4294967296) : bits .and .u32 (a : Int) (b : Int) = ((a &&& b : Nat) : Int) := by
  have hx : a &&& b < 2 ^ 32 := Nat.and_lt_two_pow _ (by omega)
  show IntKind.u32.wrap ((BitVec.ofInt 32 (a : Int) &&& BitVec.ofInt 32 (b : Int)).toNat : Int) = _
  rw [BitVec.toNat_and, ofI32 a ha, ofI32 b hb]
  simp [IntKind.wrap, IntKind.signed, IntKind.bits]
  omega
theorem cstep (D : Nat) (hD : D < 4294967296) : bits .xor .u32 ((D : Int) / 2) (bits .and .u32 3988292384 (-bits .and .u32 (D : Int) 1 % 4294967296)) = ((cbit D : Nat) : Int) := by
  have e1 : bits .and .u32 (D : Int) 1 = ((D % 2 : Nat) : Int) := by
    have := and32 D 1 hD (by omega)
    rw [Nat.and_one_is_mod] at this
    exact this
  have e0 : (D : Int) / 2 = ((D / 2 : Nat) : Int) := by omega
  rw [e1, e0]
  unfold cbit
  rcases (by omega : D % 2 = 0 ∨ D % 2 = 1) with h | h
  · rw [h, if_neg (by omega)]
    have e2 : bits .and .u32 3988292384 (-((0 : Nat) : Int) % 4294967296) = ((0 : Nat) : Int) := by
      have := and32 3988292384 0 (by omega) (by omega)
      rw [Nat.and_zero] at this
      exact this
    rw [e2, xor32 _ _ (by omega) (by omega), Nat.xor_zero]
  · rw [h, if_pos rfl]
    have e2 : bits .and .u32 3988292384 (-((1 : Nat) : Int) % 4294967296) = ((3988292384 : Nat) : Int) := by
      have := and32 3988292384 4294967295 (by omega) (by omega)
      rw [show (3988292384 &&& 4294967295 : Nat) = 3988292384 by decide] at this
      exact this
    rw [e2, xor32 _ _ (by omega) (by omega)]

set_option maxHeartbeats 2000000 in
set_option maxRecDepth 100000 in
theorem sum_any (w : World) (g c n1 c1 n2 c2 : Nat) (a1 a2 : Option Addr) (l1 l2 : List UInt8) (hg : w.heap[g]? = some (.cells #[.slice a1 n1 c1, .slice a2 n2 c2] 37)) (hl1 : l1.length = n1) (hl2 : l2.length = n2) (hb1 : BytesAt w a1 l1) (hb2 : BytesAt w a2 l2) (hm1 : n1 ≤ 1000000) (hm2 : n2 ≤ 1000000) :
    Calls Tryz.prog 259 #[.slice (some ⟨g, 0, none⟩) 2 c] w fun e w' => e = .returned (.int .u32 (crc (l1 ++ l2))) ∧ w' = w := by
  have HL1 : Hid (l1.length = n1) := hl1
  have HL2 : Hid (l2.length = n2) := hl2
  clear hl1 hl2
  go_enter Tryz.func259, Tryz.ntmps259
  go_wp2
  go_loop [3, 10] (fun v i => ∃ j : Nat, j ≤ 2 ∧ i = .int .i64 j ∧ v = .int .u32 (crcL 4294967295 (preS l1 l2 j) : Nat)) (fun _ i => 2 - (intOf i).toNat)
  case atStart => exact ⟨0, by omega, rfl, by simp [preS, crcL_nil]⟩
  case round =>
    obtain ⟨j, hj, rfl, rfl⟩ := hrel
    by_cases hlt : j < 2
    · have hlt' : (j : Int) < 2 := by omega
      obtain ⟨ad, n, cc, l, hcell, HL, hb, hm, HP⟩ : ∃ ad n cc l, w.cell? ⟨g, j, none⟩ = some (.slice ad n cc) ∧ Hid (l.length = n) ∧ BytesAt w ad l ∧ n ≤ 1000000 ∧ Hid (preS l1 l2 (j + 1) = preS l1 l2 j ++ l) := by
        rcases (by omega : j = 0 ∨ j = 1) with rfl | rfl
        · exact ⟨a1, n1, c1, l1, cell_of_row w g 0 _ _ _ hg, HL1, hb1, hm1, (by simp [preS] : preS l1 l2 1 = preS l1 l2 0 ++ l1)⟩
        · exact ⟨a2, n2, c2, l2, cell_of_row w g 1 _ _ _ hg, HL2, hb2, hm2, (by simp [preS] : preS l1 l2 2 = preS l1 l2 1 ++ l2)⟩
      obtain ⟨C0, HC0, hC0⟩ : ∃ C0 : Nat, Hid (crcL 4294967295 (preS l1 l2 j) = C0) ∧ C0 < 4294967296 := ⟨_, rfl, crcL_lt (by omega) _⟩
      rw [HC0.out]
      have hn0 : (0 : Int) ≤ (n : Int) := by omega
      go_wp2
      go_loop [3, 16] (fun v i => ∃ k : Nat, k ≤ n ∧ i = .int .i64 k ∧ v = .int .u32 (crcL C0 (l.take k) : Nat)) (fun _ i => n - (intOf i).toNat)
      case atStart => exact ⟨0, by omega, rfl, by simp [crcL_nil]⟩
      case round =>
        obtain ⟨k, hk, rfl, rfl⟩ := hrel
        by_cases hkl : k < n
        · have hkl' : (k : Int) < n := by omega
          have gk : k < l.length := by rw [HL.out]; omega
          obtain ⟨b1, o1, e1, q1⟩ := hb k (.int .u8 l[k].toNat) (by simp [arr, gk])
          subst e1
          obtain ⟨x, HX⟩ : ∃ x : Int, Hid ((l[k].toNat : Int) = x) := ⟨(l[k].toNat : Int), rfl⟩
          rw [HX.out] at q1
          obtain ⟨C, HC, hC⟩ : ∃ C : Nat, Hid (crcL C0 (l.take k) = C) ∧ C < 4294967296 := ⟨_, rfl, crcL_lt hC0 _⟩
          rw [HC.out]
          go_wp2
          go_loop [3, 24] (fun v i => ∃ m : Nat, m ≤ 8 ∧ i = .int .i64 m ∧ v = .int .u32 (cbits m (C ^^^ l[k].toNat) : Nat)) (fun _ i => 8 - (intOf i).toNat)
          case atStart =>
            refine ⟨0, by omega, rfl, ?_⟩
            have hxl := l[k].toNat_lt
            rw [← HX.out, Int.emod_eq_of_lt (by omega) (by omega), xor32 _ _ hC (by omega)]
            rfl
          case round =>
            obtain ⟨m, hm, rfl, rfl⟩ := hrel
            obtain ⟨D, HD, hD⟩ : ∃ D : Nat, Hid (cbits m (C ^^^ l[k].toNat) = D) ∧ D < 4294967296 := ⟨_, hidI rfl, cbits_lt (xor8_lt hC _) _⟩
            rw [HD.out]
            by_cases hm8 : m < 8
            · have hm8' : (m : Int) < 8 := by omega
              go_wp2
              refine ⟨⟨m + 1, by omega, by go_num, ?_⟩, by simp [intOf]; omega⟩
              rw [cstep D hD, ← HD.out]
              rfl
            · obtain rfl : m = 8 := by omega
              go_wp2
              refine ⟨⟨k + 1, by omega, by go_num, ?_⟩, by simp [intOf]; omega⟩
              rw [List.take_succ_eq_append_getElem gk, crcL_snoc, HC.out, ← HD.out]
              rfl
        · obtain rfl : k = n := by omega
          have HT : Hid (l.take k = l) := List.take_of_length_le (by rw [HL.out]; omega)
          go_wp2
          refine ⟨⟨j + 1, by omega, by go_num, ?_⟩, by simp [intOf]; omega⟩
          rw [HP.out, crcL_app, HC0.out, HT.out]
    · obtain rfl : j = 2 := by omega
      go_wp2
      go_ret
      refine ⟨ret_int ?_, rfl⟩
      have hlast := crcL_lt (c := 4294967295) (by omega) (l1 ++ l2)
      rw [show preS l1 l2 2 = l1 ++ l2 by simp [preS], show IntKind.u32.max = ((4294967295 : Nat) : Int) from rfl, xor32 _ _ (by omega) hlast, Nat.xor_comm]
      rfl

end Go.Proofs.YtopaeomjndblkaaGreat
