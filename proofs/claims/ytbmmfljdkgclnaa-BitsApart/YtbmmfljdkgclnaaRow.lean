/-
  The laws' own helpers row and sign.
-/
import Derived.Test.YtbmmfljdkgclnaaAwake
namespace Go.Proofs.Ytbmmfljdkgclnaa
open Go.RowKit

def odd (b : UInt8) : Bool := b.toNat % 2 == 1
/-- The row that some bytes say, bit by bit. -/
def rowOf (l : List UInt8) : List Bool := (l.take 200).map odd
theorem rowOf_length (l : List UInt8) : (rowOf l).length = min 200 l.length := by simp [rowOf]
theorem row_step (l : List UInt8) (j : Nat) (hj : j < l.length) : (l.take j).map odd ++ [odd (byteAt l j)] = (l.take (j + 1)).map odd := by
  rw [List.take_succ_eq_append_getElem hj, List.map_append, byteAt_lt hj]
  rfl

set_option maxHeartbeats 2000000 in
set_option maxRecDepth 100000 in
theorem row_any (w : World) (ad : Option Addr) (n c k : Nat) (l : List UInt8) (hl : l.length = n) (hk : min 200 n = k) (hb : BytesAt w ad l) (hn : n < 9223372036854775808) :
    Calls Try.prog 19 #[.slice ad n c] w fun e w' => ∃ u, e = .returned (bv u k) ∧ Rep u k (rowOf l) ∧ Fr [] w w' := by
  have HL : Hid (l.length = n) := hl
  have HK : Hid (min 200 n = k) := hk
  have hkn : k ≤ n := by omega
  have hk2 : k ≤ 200 := by omega
  have hn' : (n : Int) < 9223372036854775808 := by omega
  clear hl hk
  have bR0 : Box ((w.alloc (.cells #[.string { data := #[] }, .int .i64 0] 47)).alloc (.cells #[.string { data := #[] }, .int .i64 0] 47)) w.heap.size (mkS []) 0 := (Box.zero w).kept ((Fr.refl [] _).alloc _) (by simp)
  have bO0 : Box ((w.alloc (.cells #[.string { data := #[] }, .int .i64 0] 47)).alloc (.cells #[.string { data := #[] }, .int .i64 0] 47)) (w.heap.size + 1) (mkS []) 0 := by simpa using Box.zero (w.alloc (.cells #[.string { data := #[] }, .int .i64 0] 47))
  have f0 : Fr [] w ((w.alloc (.cells #[.string { data := #[] }, .int .i64 0] 47)).alloc (.cells #[.string { data := #[] }, .int .i64 0] 47)) := ((Fr.refl _ _).alloc _).alloc _
  go_enter Try.func19, Try.ntmps19
  go_wp2_with fail
  refine (of_lit _ [49] [true] (by decide) (by decide)).mono ?_
  rintro e w1 ⟨⟨u1, rfl, hu1⟩, f1⟩
  have b1 : Box (w1.alloc (.cells #[.string u1, .int .i64 1] 47)) w1.heap.size u1 1 := Box.new w1 u1 1
  have f1a := f1.alloc (.cells #[.string u1, .int .i64 1] 47)
  go_wp2_with fail
  refine (of_lit _ [48] [false] (by decide) (by decide)).mono ?_
  rintro e w2 ⟨⟨u2, rfl, hu2⟩, f2⟩
  have f2a := f2.alloc (.cells #[.string u2, .int .i64 1] 47)
  have b2 : Box (w2.alloc (.cells #[.string u2, .int .i64 1] 47)) w2.heap.size u2 1 := Box.new w2 u2 1
  have bR := (bR0.kept f1a (by simp)).kept f2a (by simp)
  have bO := (bO0.kept f1a (by simp)).kept f2a (by simp)
  have b1' := b1.kept f2a (by simp)
  have f3 := (f0.trans f1a).trans f2a
  have l1 : w.heap.size + 1 < w1.heap.size := by have := f1.size; simp at this; omega
  have l2 : w1.heap.size < w2.heap.size := by have := f2.size; simp at this; omega
  clear bR0 bO0 f0 f1 f2 f1a f2a b1
  go_wp2_with go_in
  generalize w2.alloc (.cells #[.string u2, .int .i64 1] 47) = w3 at b2 bR bO b1' f3 ⊢
  go_loopw [8] (fun i wr => ∃ (j : Nat) (u : ByteArray), j ≤ k ∧ i = .int .i64 j ∧ Box wr (w.heap.size + 1) u j ∧ Rep u j ((l.take j).map odd) ∧ Fr [w.heap.size + 1] w3 wr) (fun i _ => k - (intOf i).toNat)
  case atStart => exact ⟨0, mkS [], by omega, rfl, bO, Rep.empty, Fr.refl _ _⟩
  case round =>
    obtain ⟨j, u, hj, rfl, bu, hu, fr⟩ := hrel
    have hj0 : (0 : Int) ≤ (j : Int) := by omega
    by_cases hlt : j < k
    · have hlt1 : (j : Int) < (n : Int) := by omega
      have hlt2 : (j : Int) < 200 := by omega
      have hlt2' : j < 200 := by omega
      have d1 : decide ((j : Int) < (n : Int)) = true := by simp; omega
      have q1 := (b1'.kept fr (by simp; omega)).c0
      have q2 : World.cell? _ _ = some (.int .i64 1) := (b1'.kept fr (by simp; omega)).c1
      have q3 := (b2.kept fr (by simp; omega)).c0
      have q4 : World.cell? _ _ = some (.int .i64 1) := (b2.kept fr (by simp; omega)).c1
      have q5 := bu.c0
      have q6 := bu.c1
      obtain ⟨b, off, rfl, hc⟩ := ((hb.kept f3 (by simp)).kept fr (fun b off e hm => by
        simp at hm
        obtain ⟨b', off', e', hc'⟩ := hb.at 0 (by rw [HL.out]; omega)
        have := block_lt_of_cell hc'
        rw [e] at e'
        cases e'
        simp at this
        omega)).at j (by rw [HL.out]; omega)
      have hst := row_step l j (by rw [HL.out]; omega)
      cases hb : odd (byteAt l j)
      · have hm : ((((byteAt l j).toNat : Nat) : Int) % 2 == 1) = false := by
          unfold odd at hb
          simp at hb ⊢
          omega
        rw [hb] at hst
        have hr2 : Hid ((l.take j).map odd ++ [false] = (l.take (j + 1)).map odd) := hst
        clear hst hb
        go_wp2_with (first
          | (go_at_call 48; refine (and_any _ u u2 j 1 (j + 1) _ [false] hu hu2 rfl (by omega)).mono ?_; rintro e w5 ⟨x, rfl, hx, f5⟩; have b5 := bu.kept f5 (by simp))
          | (refine wp_storeB rfl _ _ rfl _ _ x _ (j + 1) rfl rfl b5 ?_; intro w6 b6 f6))
        exact ⟨⟨j + 1, x, by omega, by go_num, b6, by rw [← hr2.out]; exact hx, (fr.then f5 (by simp)).then f6 (by simp)⟩, by simp [intOf]; omega⟩
      · have hm : ((((byteAt l j).toNat : Nat) : Int) % 2 == 1) = true := by
          unfold odd at hb
          simp at hb ⊢
          omega
        rw [hb] at hst
        have hr2 : Hid ((l.take j).map odd ++ [true] = (l.take (j + 1)).map odd) := hst
        clear hst hb
        go_wp2_with (first
          | (go_at_call 48; refine (and_any _ u u1 j 1 (j + 1) _ [true] hu hu1 rfl (by omega)).mono ?_; rintro e w5 ⟨x, rfl, hx, f5⟩; have b5 := bu.kept f5 (by simp))
          | (refine wp_storeB rfl _ _ rfl _ _ x _ (j + 1) rfl rfl b5 ?_; intro w6 b6 f6))
        exact ⟨⟨j + 1, x, by omega, by go_num, b6, by rw [← hr2.out]; exact hx, (fr.then f5 (by simp)).then f6 (by simp)⟩, by simp [intOf]; omega⟩
    · obtain rfl : j = k := by omega
      have bR2 := bR.kept fr (by simp)
      have q5 := bu.c0
      have q6 := bu.c1
      have hrow : Hid ((l.take j).map odd = rowOf l) := by
        show _ = _
        unfold rowOf
        have := HK.out
        by_cases h2 : n ≤ 200
        · rw [List.take_of_length_le (by rw [HL.out]; omega), List.take_of_length_le (by rw [HL.out]; omega)]
        · rw [show j = 200 by omega]
      have fin : ∀ w6, Fr [w.heap.size] wr w6 → Fr [] w w6 := fun w6 f6 => (f3.then fr (fun i hi hm => by simp at hm; omega)).then f6 (fun i hi hm => by simp at hm; omega)
      by_cases hjn : j < n
      · have hj200 : j = 200 := by have := HK.out; omega
        subst hj200
        have hlt1 : (200 : Int) < (n : Int) := by omega
        have hlt1' : 200 < n := by omega
        go_wp2_with (refine wp_storeB rfl _ _ rfl _ _ u _ 200 rfl rfl bR2 ?_; intro w6 b6 f6)
        exact bodyPost_ret (resB Try.results19 _ _ _ u 200 rfl b6) rfl ⟨u, rfl, by rw [← hrow.out]; exact hu, fin _ f6⟩
      · have hjn2 : j = n := by omega
        have d1 : decide ((j : Int) < (n : Int)) = false := by simp; omega
        have d1' : decide (j < n) = false := by simp; omega
        clear hjn2 hkn
        go_wp2_with (refine wp_storeB rfl _ _ rfl _ _ u _ j rfl rfl bR2 ?_; intro w6 b6 f6)
        exact bodyPost_ret (resB Try.results19 _ _ _ u j rfl b6) rfl ⟨u, rfl, by rw [← hrow.out]; exact hu, fin _ f6⟩

end Go.Proofs.Ytbmmfljdkgclnaa
