/-
  A book's space: may it be changed, and has it a head?
-/
import Derived.Test.YtopaeomjndblkaaGreatY43Z
import Derived.BigQuiet
import Derived.Lib.BufferWrite
namespace Go.Proofs.YtopaeomjndblkaaGreat
open Go.RowKit Go.Maps

set_option maxHeartbeats 2000000 in
set_option maxRecDepth 100000 in
theorem book_ok (w : World) (bl sp : Int) (hbl : (Lit.int .i64 bl).wf = true) (hs0 : 0 ≤ sp) (hs1 : sp ≤ 1000) : ∃ nb : Nat, 24 ≤ nb ∧ (nb : Int) ≤ 24 + sp ∧ (nb : Int) = 24 + bl % (sp + 1) ∧ Calls Tryz.prog 66 #[.int .i64 bl, .int .i64 sp] w fun e w' => ∃ bp, e = .returned (.pointer (some ⟨bp, 0, none⟩)) ∧ Hid (∃ b, Ab w w' bp b [] ∧ Fresh b nb 8 3 m321) := by
  obtain ⟨k, hk0, hk, HP⟩ := pick_in w bl (sp + 1) hbl (by omega) (by omega)
  obtain ⟨nb, hnb⟩ : ∃ nb : Nat, 24 + (k : Int) = (nb : Int) := ⟨24 + k, by omega⟩
  refine ⟨nb, by omega, by omega, by rw [hk0]; omega, ?_⟩
  clear hk0
  have HP' := hidI HP
  have e0 : IntKind.i64.wrap (sp + 1) = sp + 1 := wrapI _ (by omega) (by omega)
  have e1 : IntKind.i64.wrap (24 + (k : Int)) = (nb : Int) := by rw [wrapI _ (by omega) (by omega)]; exact hnb
  have n0 : 24 ≤ nb := by omega
  have n1 : nb ≤ 1024 := by omega
  clear HP hnb hbl
  go_enter Tryz.func66, Tryz.ntmps66
  go_wp2_with (go_at_call 40; refine HP'.out.mono ?_; rintro e wz ⟨rfl, hz⟩; rw [hz]; clear hz)
  refine (Dv.new_dev (nb : Int) w (by omega) (by omega)).mono ?_
  rintro e w1 ⟨rfl, D1, f1⟩
  have f1' : Fr [] w w1 := fr_dv f1
  have D1' := hidI D1
  clear D1 f1
  go_wp2_with fail
  refine (format_any w1 _ _ _ (nb : Int) _ _ D1'.out (by omega) (by omega)).mono ?_
  rintro e w2 ⟨rfl, ⟨O', hO, D2⟩, f2⟩
  have HO := hidI hO
  have D2' : Hid (Dv.Dev w2 (w.heap.size + 2) w.heap.size (w.heap.size + 1) (nb : Int) 0 false (fmS O') Dv.Tab.none) := hidI D2
  clear hO D2
  go_wp2_with fail
  refine (ropen_fresh nb D2'.out HO.out n0 (by omega)).mono ?_
  rintro e w3 ⟨bp, rfl, H3⟩
  have f4 : Fr [] w3 (w3.alloc (.cells #[.int .i64 0, .int .i64 0, .int .i64 0, .int .i64 0] 108)) := (Fr.refl [] w3).alloc _
  dsimp only
  go_wp2_with fail
  go_ret
  refine ⟨bp, rfl, hidI ?_⟩
  obtain ⟨b, hb, B, fr, nw, f3⟩ := H3.out
  have F2 : Fr [] w w2 := f1'.then f2 (fun i hi hm => by simp at hm; omega)
  have F3 : Fr [] w w3 := F2.then f3 (fun i hi hm => by simp at hm; omega)
  refine ⟨b, ⟨B.quiet f4, F3.trans f4, fun k hk => ?_, hb, fun p hp => nomatch hp⟩, fr⟩
  have l2 := F2.size
  rcases nw k hk with h | h
  · simp at h
    omega
  · omega
end Go.Proofs.YtopaeomjndblkaaGreat

namespace Go.Proofs.YtopaeomjndblkaaGreat
open Go.RowKit Go.Maps
theorem smade_no (w : World) (v : Value) (h : NoBook w v) : Calls Tryz.prog 162 #[v] w fun e w' => e = .returned (.bool false) ∧ w' = w := by
  go_enter Tryz.func162, Tryz.ntmps162
  go_wp2_with (go_at_call 24; refine (bpages_no _ _ h).mono ?_; rintro e wz ⟨rfl, hz⟩; rw [hz]; clear hz)
  go_ret
  exact ⟨rfl, rfl⟩
theorem swithin_no (w : World) (v : Value) (h : NoBook w v) : Calls Tryz.prog 154 #[v] w fun e w' => e = .returned (.int .i64 1) ∧ w' = w := by
  go_enter Tryz.func154, Tryz.ntmps154
  go_wp2_with (go_at_call 162; refine (smade_no _ _ h).mono ?_; rintro e wz ⟨rfl, hz⟩; rw [hz]; clear hz)
  go_ret
  exact ⟨rfl, rfl⟩
theorem shead_no (w : World) (v : Value) (h : NoBook w v) : Calls Tryz.prog 151 #[v] w fun e w' => e = .returned (.tuple #[.slice none 0 0, .int .i64 1]) ∧ w' = w := by
  go_enter Tryz.func151, Tryz.ntmps151
  go_wp2_with (go_at_call 28; refine (bpage_no _ _ h _).mono ?_; rintro e wz ⟨rfl, hz⟩; rw [hz]; clear hz)
  go_ret2
  exact ⟨rfl, rfl⟩
theorem sformat_no (w : World) (v : Value) (h : NoBook w v) : Calls Tryz.prog 67 #[v] w fun e w' => e = .returned (.int .i64 1) ∧ w' = w := by
  go_enter Tryz.func67, Tryz.ntmps67
  go_wp2_with (go_at_call 154; refine (swithin_no _ _ h).mono ?_; rintro e wz ⟨rfl, hz⟩; rw [hz]; clear hz)
  go_ret
  exact ⟨rfl, rfl⟩
theorem stake_no (w : World) (v : Value) (h : NoBook w v) : Calls Tryz.prog 62 #[v] w fun e w' => e = .returned (.tuple #[.int .i64 0, .int .i64 1]) ∧ w' = w := by
  go_enter Tryz.func62, Tryz.ntmps62
  go_wp2_with (go_at_call 154; refine (swithin_no _ _ h).mono ?_; rintro e wz ⟨rfl, hz⟩; rw [hz]; clear hz)
  go_ret2
  exact ⟨rfl, rfl⟩
theorem sgive_no (w : World) (v : Value) (h : NoBook w v) (k : Int) : Calls Tryz.prog 63 #[v, .int .i64 k] w fun e w' => e = .returned (.int .i64 1) ∧ w' = w := by
  go_enter Tryz.func63, Tryz.ntmps63
  go_wp2_with (go_at_call 154; refine (swithin_no _ _ h).mono ?_; rintro e wz ⟨rfl, hz⟩; rw [hz]; clear hz)
  go_ret
  exact ⟨rfl, rfl⟩
theorem sfree_no (w : World) (v : Value) (h : NoBook w v) : Calls Tryz.prog 61 #[v] w fun e w' => e = .returned (.tuple #[.int .i64 0, .int .i64 1]) ∧ w' = w := by
  go_enter Tryz.func61, Tryz.ntmps61
  go_wp2_with (go_at_call 151; refine (shead_no _ _ h).mono ?_; rintro e wz ⟨rfl, hz⟩; rw [hz]; clear hz)
  go_ret2
  exact ⟨rfl, rfl⟩
theorem staken_no (w : World) (v : Value) (h : NoBook w v) (k : Int) : Calls Tryz.prog 147 #[v, .int .i64 k] w fun e w' => e = .returned (.tuple #[.bool false, .int .i64 1]) ∧ w' = w := by
  go_enter Tryz.func147, Tryz.ntmps147
  go_wp2_with (go_at_call 151; refine (shead_no _ _ h).mono ?_; rintro e wz ⟨rfl, hz⟩; rw [hz]; clear hz)
  go_ret2
  exact ⟨rfl, rfl⟩
theorem sroot_no (w : World) (v : Value) (h : NoBook w v) (k : Int) : Calls Tryz.prog 65 #[v, .int .i64 k] w fun e w' => e = .returned (.tuple #[.int .i64 0, .int .i64 1]) ∧ w' = w := by
  go_enter Tryz.func65, Tryz.ntmps65
  go_wp2_with (go_at_call 162; refine (smade_no _ _ h).mono ?_; rintro e wz ⟨rfl, hz⟩; rw [hz]; clear hz)
  go_ret2
  exact ⟨rfl, rfl⟩
theorem ssetRoot_no (w : World) (v : Value) (h : NoBook w v) (k l : Int) : Calls Tryz.prog 64 #[v, .int .i64 k, .int .i64 l] w fun e w' => e = .returned (.int .i64 1) ∧ w' = w := by
  go_enter Tryz.func64, Tryz.ntmps64
  go_wp2_with (go_at_call 154; refine (swithin_no _ _ h).mono ?_; rintro e wz ⟨rfl, hz⟩; rw [hz]; clear hz)
  go_ret
  exact ⟨rfl, rfl⟩
set_option maxRecDepth 100000 in
set_option maxHeartbeats 2000000 in
theorem snone_ok (w : World) (v : Value) (h : NoBook w v) (k : Int) : Calls Tryz.prog 59 #[v, .int .i64 k] w fun e w' => e = .returned (.bool true) ∧ w' = w := by
  go_enter Tryz.func59, Tryz.ntmps59
  go_wp2_with (first | (go_at_call 62; refine (stake_no _ _ h).mono ?_; rintro e wz ⟨rfl, hz⟩; rw [hz]; clear hz) | (go_at_call 61; refine (sfree_no _ _ h).mono ?_; rintro e wz ⟨rfl, hz⟩; rw [hz]; clear hz) | (go_at_call 147; refine (staken_no _ _ h _).mono ?_; rintro e wz ⟨rfl, hz⟩; rw [hz]; clear hz) | (go_at_call 65; refine (sroot_no _ _ h _).mono ?_; rintro e wz ⟨rfl, hz⟩; rw [hz]; clear hz) | (go_at_call 67; refine (sformat_no _ _ h).mono ?_; rintro e wz ⟨rfl, hz⟩; rw [hz]; clear hz) | (go_at_call 63; refine (sgive_no _ _ h _).mono ?_; rintro e wz ⟨rfl, hz⟩; rw [hz]; clear hz) | (go_at_call 64; refine (ssetRoot_no _ _ h _ _).mono ?_; rintro e wz ⟨rfl, hz⟩; rw [hz]; clear hz))
  go_ret
  exact ⟨rfl, rfl⟩
end Go.Proofs.YtopaeomjndblkaaGreat

namespace Go.Proofs.YtopaeomjndblkaaGreat
open Go.RowKit Go.Maps

def ownN (n : Nat) : Nat := 1 + (n + 4095) / 4096
theorem sown_any (w : World) (n : Nat) (hn : n ≤ 1000000) : Calls Tryz.prog 158 #[.int .i64 (n : Int)] w fun e w' => e = .returned (.int .i64 (ownN n : Int)) ∧ w' = w := by
  have d0 : Int.tdiv ((n : Int) + 4096 - 1) 4096 = (((n + 4095) / 4096 : Nat) : Int) := by
    rw [Int.tdiv_eq_ediv_of_nonneg (by omega)]; omega
  have d1 : (n + 4095) / 4096 ≤ 1000000 := by omega
  obtain ⟨q, HQ⟩ : ∃ q, Hid ((n + 4095) / 4096 = q) := ⟨_, hidI rfl⟩
  rw [HQ.out] at d0 d1
  go_enter Tryz.func158, Tryz.ntmps158
  go_wp2
  go_ret
  refine ⟨ret_int ?_, rfl⟩
  have := HQ.out
  unfold ownN
  omega
theorem sfits_any (w : World) (n : Nat) (hn : n ≤ 1000000) (h : 3 ≤ n) : Calls Tryz.prog 164 #[.int .i64 (n : Int)] w fun e w' => e = .returned (.bool true) ∧ w' = w := by
  have h1 : ((ownN n : Nat) : Int) < n := by unfold ownN; omega
  go_enter Tryz.func164, Tryz.ntmps164
  go_wp2_with (go_at_call 158; refine (sown_any _ _ hn).mono ?_; rintro e wz ⟨rfl, hz⟩; rw [hz]; clear hz)
  go_ret
  exact ⟨rfl, rfl⟩
theorem srootAt_any (w : World) (k : Nat) (hk : k < 8) : Calls Tryz.prog 161 #[.int .i64 (k : Int)] w fun e w' => e = .returned (.int .i64 ((8 + 4 * k : Nat) : Int)) ∧ w' = w := by
  go_enter Tryz.func161, Tryz.ntmps161
  go_wp2
  go_ret
  exact ⟨ret_int (by omega), rfl⟩
theorem splace_any (w : World) (k : Nat) (hk : k ≤ 1000000) : Calls Tryz.prog 219 #[.int .i64 (k : Int)] w fun e w' => e = .returned (.tuple #[.int .i64 ((1 + k / 4096 : Nat) : Int), .int .i64 ((k % 4096 / 8 : Nat) : Int), .int .u8 ((2 ^ (k % 8) : Nat) : Int)]) ∧ Fr [] w w' := by
  have d0 : Int.tdiv (k : Int) 4096 = ((k / 4096 : Nat) : Int) := by
    rw [Int.tdiv_eq_ediv_of_nonneg (by omega)]; omega
  have d1 : Int.tmod (k : Int) 4096 = ((k % 4096 : Nat) : Int) := by
    rw [Int.tmod_eq_emod_of_nonneg (by omega)]; omega
  have d2 : Int.tdiv ((k % 4096 : Nat) : Int) 8 = ((k % 4096 / 8 : Nat) : Int) := by
    rw [Int.tdiv_eq_ediv_of_nonneg (by omega)]; omega
  have d3 : Int.tmod (k : Int) 8 = ((k % 8 : Nat) : Int) := by
    rw [Int.tmod_eq_emod_of_nonneg (by omega)]; omega
  obtain ⟨q0, H0⟩ : ∃ q, Hid (k / 4096 = q) := ⟨_, hidI rfl⟩
  obtain ⟨q1, H1⟩ : ∃ q, Hid (k % 4096 = q) := ⟨_, hidI rfl⟩
  obtain ⟨q2, H2⟩ : ∃ q, Hid (q1 / 8 = q) := ⟨_, hidI rfl⟩
  obtain ⟨q3, H3⟩ : ∃ q, Hid (k % 8 = q) := ⟨_, hidI rfl⟩
  have b0 : q0 ≤ 1000000 := by have := H0.out; omega
  have b1 : q1 ≤ 1000000 := by have := H1.out; omega
  have b2 : q2 ≤ 1000000 := by have := H2.out; omega
  have b3 : q3 < 8 := by have := H3.out; omega
  rw [H0.out] at d0
  rw [H1.out] at d1 d2
  rw [H2.out] at d2
  rw [H3.out] at d3
  rw [H0.out, H1.out, H2.out, H3.out]
  go_enter Tryz.func219, Tryz.ntmps219
  go_wp2_with fail
  go_quiet (fail)
  go_wp2_with fail
  go_ret3
  refine ⟨?_, (Fr.refl [] w).drewN nq⟩
  have e1 : ((1 + q0 : Nat) : Int) = 1 + (q0 : Int) := by omega
  have e2 : ((2 ^ q3 : Nat) : Int) = 2 ^ q3 % 256 := by
    have : q3 = 0 ∨ q3 = 1 ∨ q3 = 2 ∨ q3 = 3 ∨ q3 = 4 ∨ q3 = 5 ∨ q3 = 6 ∨ q3 = 7 := by omega
    rcases this with h | h | h | h | h | h | h | h <;> subst h <;> rfl
  rw [e1, e2]
  rfl
end Go.Proofs.YtopaeomjndblkaaGreat

namespace Go.Proofs.YtopaeomjndblkaaGreat
open Go.RowKit Go.Maps

def numAt (l : List UInt8) (a : Nat) : Nat := ofBe ((l.drop a).take 4)
theorem i64_or_nat (a b : Nat) (ha : a < 9223372036854775808) (hb : b < 9223372036854775808) : bits .or .i64 (a : Int) (b : Int) = ((a ||| b : Nat) : Int) := by
  have hx : a ||| b < 2 ^ 63 := Nat.or_lt_two_pow (by omega) (by omega)
  show IntKind.i64.wrap ((BitVec.ofInt 64 (a : Int) ||| BitVec.ofInt 64 (b : Int)).toNat : Int) = _
  rw [BitVec.toNat_or, ofInt_u64 a (by omega), ofInt_u64 b (by omega)]
  exact wrapI _ (by omega) (by omega)
theorem i64_or_low (A x : Nat) (hA : A < 16777216) (hx : x < 256) : bits .or .i64 ((A : Int) * 256) (x : Int) = ((256 * A + x : Nat) : Int) := by
  have e : ((A : Int) * 256) = ((A * 256 : Nat) : Int) := by omega
  rw [e, i64_or_nat _ _ (by omega) (by omega), nat_join 8 _ _ (by omega) (by omega), Nat.mul_comm]
theorem num_step (l : List UInt8) (a j : Nat) (hj : j < 4) (h : a + 4 ≤ l.length) : ofBe ((l.drop a).take (j + 1)) = 256 * ofBe ((l.drop a).take j) + (byteAt l (a + j)).toNat := by
  have g1 : j < (l.drop a).length := by simp; omega
  rw [List.take_succ_eq_append_getElem g1, ofBe_snoc, List.getElem_drop, byteAt_lt (by omega)]
set_option maxHeartbeats 1000000 in
set_option maxRecDepth 100000 in
theorem snumber_any (w : World) (g c : Nat) (l : List UInt8) (hl : l.length = 512) (hb : Blk w g l) (hc : 512 ≤ c) (hc2 : c < 4294967296) (a : Nat) (ha : a ≤ 508) :
    Calls Tryz.prog 163 #[.slice (some ⟨g, 0, none⟩) 512 c, .int .i64 (a : Int)] w fun e w' => e = .returned (.int .i64 (numAt l a : Int)) ∧ w' = w := by
  have HL : Hid (l.length = 512) := hidI hl
  clear hl
  go_enter Tryz.func163, Tryz.ntmps163
  go_wp2
  go_loopw [5, 14] (fun v i wr => ∃ j : Nat, j ≤ 4 ∧ i = .int .i64 j ∧ v = .int .i64 (ofBe ((l.drop a).take j)) ∧ wr = w) (fun _ i _ => 4 - (intOf i).toNat)
  case atStart => exact ⟨0, by omega, rfl, rfl, rfl⟩
  case round =>
    obtain ⟨j, hj, rfl, rfl, rfl⟩ := hrel
    have hA : Hid (ofBe ((l.drop a).take j) < 256 ^ j) := hidI (by
      have h1 := ofBe_lt ((l.drop a).take j)
      rw [List.length_take, List.length_drop, HL.out, Nat.min_eq_left (by omega)] at h1
      exact h1)
    by_cases hlt : j < 4
    · have hlt' : (j : Int) < 4 := by omega
      have hj0 : (0 : Int) ≤ (j : Int) := by omega
      have q1 := hb.cell (a + j) (by rw [HL.out]; omega)
      have hjn : (j : Int) < ((a + 4 - a : Nat) : Int) := by omega
      obtain ⟨x, HX⟩ : ∃ x : Nat, Hid ((byteAt l (a + j)).toNat = x) := ⟨_, hidI rfl⟩
      have hx : x < 256 := by rw [← HX.out]; exact (byteAt l (a + j)).toNat_lt
      rw [HX.out] at q1
      obtain ⟨A, HA⟩ : ∃ A : Nat, Hid (ofBe ((l.drop a).take j) = A) := ⟨_, hidI rfl⟩
      have hA2 : A < 16777216 := by
        rw [← HA.out]
        exact Nat.lt_of_lt_of_le hA.out (by
          have : 256 ^ j ≤ 256 ^ 3 := Nat.pow_le_pow_right (by omega) (by omega)
          omega)
      rw [HA.out]
      go_wp2
      refine ⟨⟨j + 1, by omega, by go_num, ?_, trivial⟩, by simp [intOf]; omega⟩
      rw [num_step l a j hlt (by rw [HL.out]; omega), HA.out, HX.out, i64_or_low A x hA2 hx]
    · obtain rfl : j = 4 := by omega
      obtain ⟨A, HA⟩ : ∃ A : Int, Hid ((ofBe ((l.drop a).take 4) : Int) = A) := ⟨_, hidI rfl⟩
      rw [HA.out]
      go_wp2
      go_ret
      exact ⟨ret_int HA.out.symm, rfl⟩

/-- A page in which a number of four bytes is put. -/
def putAt (l : List UInt8) (a n : Nat) : List UInt8 := l.take a ++ be 4 n ++ l.drop (a + 4)
theorem putAt_length (l : List UInt8) (a n : Nat) (h : a + 4 ≤ l.length) : (putAt l a n).length = l.length := by
  simp [putAt, be_length]; omega
def putK (l : List UInt8) (a n j : Nat) : List UInt8 := l.take a ++ (be 4 n).take j ++ l.drop (a + j)
theorem putK_zero (l : List UInt8) (a n : Nat) : putK l a n 0 = l := by simp [putK]
theorem putK_four (l : List UInt8) (a n : Nat) : putK l a n 4 = putAt l a n := by
  unfold putK putAt
  have e := List.take_of_length_le (show (be 4 n).length ≤ 4 by rw [be_length]; omega)
  rw [e]
theorem putK_length (l : List UInt8) (a n j : Nat) (hj : j ≤ 4) (h : a + 4 ≤ l.length) : (putK l a n j).length = l.length := by
  simp [putK, be_length]; omega
theorem putK_step (l : List UInt8) (a n j : Nat) (hj : j < 4) (h : a + 4 ≤ l.length) : (putK l a n j).set (a + j) (UInt8.ofNat (n / 256 ^ (3 - j))) = putK l a n (j + 1) := by
  have hq : (l.take a ++ (be 4 n).take j).length = a + j := by simp [be_length]; omega
  unfold putK
  rw [List.set_append_right _ _ (by omega), hq, Nat.sub_self, List.drop_eq_getElem_cons (show a + j < l.length by omega), List.set_cons_zero]
  have h4 := be_length 4 n
  have e : (be 4 n).take (j + 1) = (be 4 n).take j ++ [UInt8.ofNat (n / 256 ^ (3 - j))] := by
    rw [List.take_succ_eq_append_getElem (by omega)]
    congr 2
    have := be_at 4 n j hj
    rw [List.getElem?_eq_getElem (by omega)] at this
    exact Option.some.inj this
  rw [e]
  simp [Nat.add_assoc]
set_option maxHeartbeats 1000000 in
set_option maxRecDepth 100000 in
theorem sputNumber_any (w : World) (g c : Nat) (l : List UInt8) (hl : l.length = 512) (hb : Blk w g l) (a : Nat) (ha : a ≤ 508) (n : Nat) (_hn : n < 4294967296) :
    Calls Tryz.prog 160 #[.slice (some ⟨g, 0, none⟩) 512 c, .int .i64 (a : Int), .int .i64 (n : Int)] w fun e w' => e = .returned (.tuple #[]) ∧ Blk w' g (putAt l a n) ∧ Fr [g] w w' := by
  have HL : Hid (l.length = 512) := hidI hl
  clear hl
  go_enter Tryz.func160, Tryz.ntmps160
  go_wp2
  go_loopw [7] (fun i wr => ∃ j : Nat, j ≤ 4 ∧ i = .int .i64 j ∧ Blk wr g (putK l a n j) ∧ Fr [g] w wr) (fun i _ => 4 - (intOf i).toNat)
  case atStart => exact ⟨0, by omega, rfl, by rw [putK_zero]; exact hb, Fr.refl _ _⟩
  case round =>
    obtain ⟨j, hj, rfl, B, f⟩ := hrel
    by_cases hlt : j < 4
    · have hlt' : (j : Int) < 4 := by omega
      have hj0 : (0 : Int) ≤ (j : Int) := by omega
      have q1 := B.cell (a + j) (by rw [putK_length _ _ _ _ (by omega) (by rw [HL.out]; omega), HL.out]; omega)
      have q2 := B.frozen (a + j)
      have HB : Hid ((n : Int) / 2 ^ (8 * (3 - j)) % 256 = ((UInt8.ofNat (n / 256 ^ (3 - j))).toNat : Int)) := hidI (by
        rw [UInt8.toNat_ofNat', show (256 : Nat) ^ (3 - j) = 2 ^ (8 * (3 - j)) by rw [Nat.pow_mul]]
        simp)
      go_wp2
      refine ⟨⟨j + 1, by omega, by go_num, ?_, f.setCell _ _ (fun _ => by simp)⟩, by simp [intOf]; omega⟩
      rw [HB.out, ← putK_step l a n j hlt (by rw [HL.out]; omega)]
      exact B.set _ _
    · obtain rfl : j = 4 := by omega
      rw [putK_four] at B
      go_wp2
      go_end0
      exact ⟨rfl, B, f⟩
end Go.Proofs.YtopaeomjndblkaaGreat

namespace Go.Proofs.YtopaeomjndblkaaGreat
open Go.RowKit Go.Maps

section
variable {ops : Array Oper} {rest : List Oper} {o : Oper} {a : Act} {w : World} {Q : Exit → Act → World → Prop}
set_option maxRecDepth 100000 in
theorem wp_copyPS (hgd : o.guard = none) (x y : Operand) (ho : o.op = .call { callee := .builtin .copy, args := #[x, y], argTypes := #[37, 9] }) (g : Nat) (hx : a.eval x = .slice (some ⟨g, 0, none⟩) 512 512) (hy : a.eval y = .string { data := #[80, 83, 48, 49] }) (hf : Blk w g (zs 512))
    (h : ∀ w', Blk w' g ([80, 83, 48, 49] ++ zs 508) → Fr [g] w w' → wpList Tryz.prog ops Q rest (a.put o.dst (goInt 4)) w') : wpList Tryz.prog ops Q (o :: rest) a w :=
  wpList_plain hgd fun K hK => by
    have hrun := Go.Lib.run_copy_row_string (P := Tryz.prog) w 37 9 o.type 5 g 0 512 512 { data := #[80, 83, 48, 49] } (arr (zs 512)) 5 Tryz.underlying37 size5 hf (by decide) (by simp [arr, zs_length]; decide)
    have e1 : ((arr (zs 512)).toList.take 0 ++ Go.Lib.byteCells (ByteArray.mk #[80, 83, 48, 49]).data.toList ++ (arr (zs 512)).toList.drop (0 + (ByteArray.mk #[80, 83, 48, 49]).size)).toArray = arr ([80, 83, 48, 49] ++ zs 508) := by kernel_rfl
    have e2 : (ByteArray.mk #[80, 83, 48, 49]).size = 4 := rfl
    rw [e1, e2] at hrun
    have hF : Blk (w.setRow g (arr ([80, 83, 48, 49] ++ zs 508))) g ([80, 83, 48, 49] ++ zs 508) := setRow_heap w g _ _ _ _ hf
    have hR : Fr [g] w (w.setRow g (arr ([80, 83, 48, 49] ++ zs 508))) := ⟨rfl, rfl, rfl, by simp, fun i _ hn => setRow_other w g i _ (fun e => hn (by simp [e]))⟩
    generalize w.setRow g (arr ([80, 83, 48, 49] ++ zs 508)) = W at hrun hF hR
    unfold Oper.wp execOp
    simp [ho, resolve, invoke, builtin, hx, hy, hrun, Result.andThen]
    exact hK _ _ (h _ hF hR)
end
/-- The head of a space of n pages whose roots are 0. -/
def hd0 (n : Nat) : List UInt8 := putAt ([80, 83, 48, 49] ++ zs 508) 4 n
theorem hd0_length (n : Nat) : (hd0 n).length = 512 := by
  unfold hd0
  rw [putAt_length _ _ _ (by simp [zs_length])]
  simp [zs_length]
set_option maxHeartbeats 1000000 in
set_option maxRecDepth 100000 in
theorem snewHead_any (w : World) (n : Nat) (hn : n < 4294967296) : Calls Tryz.prog 166 #[.int .i64 (n : Int)] w fun e w' => ∃ g, e = .returned (.slice (some ⟨g, 0, none⟩) 512 512) ∧ Blk w' g (hd0 n) ∧ w.heap.size ≤ g ∧ Fr [] w w' := by
  go_enter Tryz.func166, Tryz.ntmps166
  go_wp2_with (first | (refine wp_make55 rfl _ _ rfl rfl (by rfl) ?_; intro w1 g g0 b1 f1) | (refine wp_copyPS rfl _ _ rfl g rfl rfl b1 ?_; intro w2 b2 f2) | (go_at_call 160; refine (sputNumber_any w2 g 512 _ (by simp [zs_length]) b2 4 (by omega) n hn).mono ?_; rintro e w3 ⟨rfl, b3, f3⟩))
  go_ret
  refine ⟨g, rfl, b3, g0, ?_⟩
  exact (f1.then f2 (fun i hi hm => by simp at hm; omega)).then f3 (fun i hi hm => by simp at hm; omega)

theorem bytesEq_not (w : World) (a1 a2 : Option Addr) (n c1 c2 : Nat) (l l2 : List UInt8) (h1 : l.length = n) (h2 : l2.length = n) (hn : 0 < n) (hb1 : BytesAt w a1 l) (hb2 : BytesAt w a2 l2) (hne : l ≠ l2) : Calls Tryz.prog 206 #[.slice a1 n c1, .slice a2 n c2] w fun e w' => e = .returned (.bool false) ∧ w' = w := by
  have r1 := run_conv (w := w) l a1 n c1 h1 hb1 (fun e => absurd e (by omega))
  have r2 := run_conv (w := w) l2 a2 n c2 h2 hb2 (fun e => absurd e (by omega))
  have e3 : ((mkS l).toList == (mkS l2).toList) = false := by
    rw [beq_eq_false_iff_ne]
    simpa [mkS] using hne
  go_enter Tryz.func206, Tryz.ntmps206
  go_wp2
  go_ret
  exact ⟨rfl, rfl⟩
/-- What isHead lays beside a page: a head with that page's first k roots. -/
def hdK (n : Nat) (l : List UInt8) : Nat → List UInt8
  | 0 => hd0 n
  | k + 1 => putAt (hdK n l k) (8 + 4 * k) (numAt l (8 + 4 * k))
theorem hdK_length (n : Nat) (l : List UInt8) (k : Nat) (hk : k ≤ 8) : (hdK n l k).length = 512 := by
  induction k with
  | zero => exact hd0_length n
  | succ k ih =>
    have h := ih (by omega)
    unfold hdK
    rw [putAt_length _ _ _ (by omega), h]
/-- Is a page the head of a space of n pages? -/
def IsHd (n : Nat) (l : List UInt8) : Prop := (∀ k, k < 8 → numAt l (8 + 4 * k) < n) ∧ l = hdK n l 8
set_option maxHeartbeats 1000000 in
set_option maxRecDepth 100000 in
theorem sisHead_any (w : World) (g c n : Nat) (l : List UInt8) (hl : l.length = 512) (hb : Blk w g l) (hc : 512 ≤ c) (hc2 : c < 4294967296) (hn : n ≤ 1000000) :
    Calls Tryz.prog 218 #[.slice (some ⟨g, 0, none⟩) 512 c, .int .i64 (n : Int)] w fun e w' => ∃ b : Bool, e = .returned (.bool b) ∧ (b = true ↔ IsHd n l) ∧ Fr [] w w' := by
  have HL : Hid (l.length = 512) := hidI hl
  have glt := hb.lt
  clear hl
  go_enter Tryz.func218, Tryz.ntmps218
  go_wp2_with (go_at_call 166; refine (snewHead_any w n (by omega)).mono ?_; rintro e w1 ⟨g1, rfl, b1, n1, f1⟩)
  go_loopw [10] (fun i wr => ∃ k : Nat, k ≤ 8 ∧ i = .int .i64 k ∧ Blk wr g1 (hdK n l k) ∧ Fr [] w wr ∧ (∀ j, j < k → numAt l (8 + 4 * j) < n)) (fun i _ => 8 - (intOf i).toNat)
  case atStart => exact ⟨0, by omega, rfl, b1, f1, fun j hj => absurd hj (by omega)⟩
  case round =>
    obtain ⟨k, hk, rfl, B, f, A⟩ := hrel
    have B0 := hb.kept f (by simp)
    have A' := hidI A
    clear A
    by_cases hlt : k < 8
    · have hlt' : (k : Int) < 8 := by omega
      have NX := snumber_any wr g c l HL.out B0 hc hc2 (8 + 4 * k) (by omega)
      obtain ⟨x, HX⟩ : ∃ x : Nat, Hid (numAt l (8 + 4 * k) = x) := ⟨_, hidI rfl⟩
      rw [HX.out] at NX
      by_cases hx : x < n
      · have hx' : (x : Int) < n := by omega
        have PX := sputNumber_any wr g1 512 (hdK n l k) (hdK_length n l k hk) B (8 + 4 * k) (by omega) x (by omega)
        go_wp2_with (first | (go_at_call 161; refine (srootAt_any wr k hlt).mono ?_; rintro e wz ⟨rfl, hz⟩; rw [hz]; clear hz) | (go_at_call 163; refine NX.mono ?_; rintro e wz ⟨rfl, hz⟩; rw [hz]; clear hz) | (go_at_call 160; refine PX.mono ?_; rintro e w3 ⟨rfl, b3, f3⟩))
        refine ⟨⟨k + 1, by omega, by go_num, ?_, f.then f3 (fun i hi hm => by simp at hm; omega), ?_⟩, by simp [intOf]; omega⟩
        · unfold hdK
          rw [HX.out]
          exact b3
        · intro j hj
          by_cases h : j < k
          · exact A'.out j h
          · obtain rfl : j = k := by omega
            rw [HX.out]; exact hx
      · have hx' : (n : Int) ≤ x := by omega
        go_wp2_with (first | (go_at_call 161; refine (srootAt_any wr k hlt).mono ?_; rintro e wz ⟨rfl, hz⟩; rw [hz]; clear hz) | (go_at_call 163; refine NX.mono ?_; rintro e wz ⟨rfl, hz⟩; rw [hz]; clear hz))
        go_ret
        refine ⟨false, rfl, ⟨fun h => (Bool.false_ne_true h).elim, fun h => ?_⟩, f⟩
        have := h.1 k hlt
        rw [HX.out] at this
        omega
    · obtain rfl : k = 8 := by omega
      by_cases he : l = hdK n l 8
      · have EX := bytesEq_same wr (some ⟨g, 0, none⟩) (some ⟨g1, 0, none⟩) 512 c 512 l HL.out (by omega) B0.bytes (by have := B.bytes; rw [← he] at this; exact this)
        have he' := hidI he
        clear he
        go_wp2_with (go_at_call 206; refine EX.mono ?_; rintro e wz ⟨rfl, hz⟩; rw [hz]; clear hz)
        go_ret
        exact ⟨true, rfl, ⟨fun _ => ⟨A'.out, he'.out⟩, fun _ => rfl⟩, f⟩
      · have EX := bytesEq_not wr (some ⟨g, 0, none⟩) (some ⟨g1, 0, none⟩) 512 c 512 l _ HL.out (hdK_length n l 8 (by omega)) (by omega) B0.bytes B.bytes he
        have he' := hidI he
        clear he
        go_wp2_with (go_at_call 206; refine EX.mono ?_; rintro e wz ⟨rfl, hz⟩; rw [hz]; clear hz)
        go_ret
        exact ⟨false, rfl, ⟨fun h => (Bool.false_ne_true h).elim, fun h => (he'.out h.2).elim⟩, f⟩
end Go.Proofs.YtopaeomjndblkaaGreat

namespace Go.Proofs.YtopaeomjndblkaaGreat
open Go.RowKit Go.Maps

section
variable {w0 w : World} {bp : Nat} {b : Bk} {K : List (Nat × Obj)} (h : Ab w0 w bp b K)
include h
theorem ab_pages : Calls Tryz.prog 24 #[.pointer (some ⟨bp, 0, none⟩)] w fun e w' => e = .returned (.int .i64 (b.x.pages : Int)) ∧ w' = w := by
  have h1 := bpages_any h.bk
  rw [h.ebp] at h1
  exact h1
theorem ab_in : Calls Tryz.prog 26 #[.pointer (some ⟨bp, 0, none⟩)] w fun e w' => e = .returned (.bool (b.t.st != 0)) ∧ w' = w := by
  have h1 := bkin_any h.bk.box h.bk.dl
  rw [h.ebp] at h1
  exact h1
theorem smade_any (hp : 0 < b.x.pages) : Calls Tryz.prog 162 #[.pointer (some ⟨bp, 0, none⟩)] w fun e w' => e = .returned (.bool true) ∧ w' = w := by
  have hp' : (0 : Int) < (b.x.pages : Int) := by omega
  have H := hidI h
  clear h
  go_enter Tryz.func162, Tryz.ntmps162
  go_wp2_with (go_at_call 24; refine (ab_pages H.out).mono ?_; rintro e wz ⟨rfl, hz⟩; rw [hz]; clear hz)
  go_ret
  exact ⟨rfl, rfl⟩
theorem swithin_in (hp : 0 < b.x.pages) (hs : b.t.st = 1) : Calls Tryz.prog 154 #[.pointer (some ⟨bp, 0, none⟩)] w fun e w' => e = .returned (.int .i64 0) ∧ w' = w := by
  have HI := ab_in h
  rw [hs] at HI
  have e1 : ((1 : Int) != 0) = true := rfl
  rw [e1] at HI
  have H := hidI h
  clear h hs
  go_enter Tryz.func154, Tryz.ntmps154
  go_wp2_with (first | (go_at_call 162; refine (smade_any H.out hp).mono ?_; rintro e wz ⟨rfl, hz⟩; rw [hz]; clear hz) | (go_at_call 26; refine HI.mono ?_; rintro e wz ⟨rfl, hz⟩; rw [hz]; clear hz))
  go_ret
  exact ⟨rfl, rfl⟩
theorem swithin_out (hp : 0 < b.x.pages) (hs : b.t.st = 0) : Calls Tryz.prog 154 #[.pointer (some ⟨bp, 0, none⟩)] w fun e w' => e = .returned (.int .i64 7) ∧ w' = w := by
  have HI := ab_in h
  rw [hs] at HI
  have e1 : ((0 : Int) != 0) = false := rfl
  rw [e1] at HI
  have H := hidI h
  clear h hs
  go_enter Tryz.func154, Tryz.ntmps154
  go_wp2_with (first | (go_at_call 162; refine (smade_any H.out hp).mono ?_; rintro e wz ⟨rfl, hz⟩; rw [hz]; clear hz) | (go_at_call 26; refine HI.mono ?_; rintro e wz ⟨rfl, hz⟩; rw [hz]; clear hz))
  go_ret
  exact ⟨rfl, rfl⟩
set_option maxHeartbeats 1000000 in
set_option maxRecDepth 100000 in
/-- head of a book that has one. -/
theorem shead_yes {V : Pages} (hv : Shows b.x V) (hp : 0 < b.x.pages) (hp2 : b.x.pages ≤ 1000000) (hl : (V 0).length = 512) (hd : IsHd b.x.pages (V 0)) :
    Calls Tryz.prog 151 #[.pointer (some ⟨bp, 0, none⟩)] w fun e w' => ∃ g b', e = .returned (.tuple #[.slice (some ⟨g, 0, none⟩) 512 512, .int .i64 0]) ∧ Hid (Ab w0 w' bp b' K ∧ Blk w' g (V 0) ∧ ∃ w1, PgTo w w1 b (V 0) g b' ∧ Fr [] w1 w') := by
  have PX := ab_page h hv hp
  clear h
  go_enter Tryz.func151, Tryz.ntmps151
  go_wp2_with (first | (go_at_call 28; refine PX.mono ?_; rintro e w1 ⟨g, b', rfl, P⟩; have HQ := ab_pages P.out.1; have ep : b'.x.pages = b.x.pages := P.out.2.tr.pages; rw [ep] at HQ) | (go_at_call 24; refine HQ.mono ?_; rintro e wz ⟨rfl, hz⟩; rw [hz]; clear hz) | (go_at_call 218; refine (sisHead_any w1 g 512 b.x.pages (V 0) hl P.out.2.blk (by omega) (by omega) hp2).mono ?_; rintro e w2 ⟨bo, rfl, hbo, f2⟩; obtain rfl : bo = true := hbo.2 hd))
  go_ret2
  exact ⟨g, b', rfl, hidI ⟨P.out.1.quiet f2, P.out.2.blk.kept f2 (by simp), w1, P.out.2, f2⟩⟩
set_option maxHeartbeats 1000000 in
set_option maxRecDepth 100000 in
/-- head of a book that has none. -/
theorem shead_not {V : Pages} (hv : Shows b.x V) (hp : 0 < b.x.pages) (hp2 : b.x.pages ≤ 1000000) (hl : (V 0).length = 512) (hd : ¬ IsHd b.x.pages (V 0)) :
    Calls Tryz.prog 151 #[.pointer (some ⟨bp, 0, none⟩)] w fun e w' => ∃ b', e = .returned (.tuple #[.slice none 0 0, .int .i64 4]) ∧ Hid (Ab w0 w' bp b' K ∧ ∃ g w1, PgTo w w1 b (V 0) g b' ∧ Fr [] w1 w') := by
  have PX := ab_page h hv hp
  clear h
  go_enter Tryz.func151, Tryz.ntmps151
  go_wp2_with (first | (go_at_call 28; refine PX.mono ?_; rintro e w1 ⟨g, b', rfl, P⟩; have HQ := ab_pages P.out.1; have ep : b'.x.pages = b.x.pages := P.out.2.tr.pages; rw [ep] at HQ) | (go_at_call 24; refine HQ.mono ?_; rintro e wz ⟨rfl, hz⟩; rw [hz]; clear hz) | (go_at_call 218; refine (sisHead_any w1 g 512 b.x.pages (V 0) hl P.out.2.blk (by omega) (by omega) hp2).mono ?_; rintro e w2 ⟨bo, rfl, hbo, f2⟩; obtain rfl : bo = false := by cases bo with | false => rfl | true => exact (hd (hbo.1 rfl)).elim))
  go_ret2
  exact ⟨b', rfl, hidI ⟨P.out.1.quiet f2, g, w1, P.out.2, f2⟩⟩
end
end Go.Proofs.YtopaeomjndblkaaGreat

