/-
  Cut: the bits from one place to before another one.
-/
import Derived.Test.YtddcilmeignlmaaGreatDoorJoin
namespace Go.Proofs.YtddcilmeignlmaaGreatDoor
open Go.RowKit

theorem run_tail (s : ByteArray) (i : Int) (f : Nat) (hf : i = (f : Int)) (h : f ≤ s.size) (w : World) : (Instr.slice 9 (.string s) (some (.int .i64 i)) none none).run Tryz.prog w = .ok (.string (mkS ((bl s).drop f))) w := by
  subst hf
  rw [run_slice_string_from_if (P := Tryz.prog) w 9 s .i64 (f : Int) Tryz.underlying9]
  have e : s.extract f s.size = mkS ((bl s).drop f) := by
    have := ByteArray.extract_mk (bl s) f s.size
    have e2 : ByteArray.mk (bl s).toArray = s := rfl
    rw [e2] at this
    rw [this, List.take_of_length_le (by rw [List.length_drop, bl_length]; omega)]
    rfl
  simp [h, e]

theorem bitAt_drop (l : List UInt8) (f i : Nat) : bitAt (l.drop f) i = bitAt l (8 * f + i) := by
  unfold bitAt byteAt
  simp only [List.getD_eq_getElem?_getD, List.getElem?_drop]
  rw [show (8 * f + i) / 8 = f + i / 8 by omega, show (8 * f + i) % 8 = i % 8 by omega]

theorem Rep.cut {s : ByteArray} {n : Nat} {r : List Bool} (h : Rep s n r) (a N f low K : Nat) (ha : a + N ≤ n) (hf : a / 8 = f) (hlow : a % 8 = low) (hK : (N + 7) / 8 = K) {l : List UInt8}
    (hl : LiftTo (List.replicate K 0) l (mkS ((bl s).drop f)) low K) : Rep (mkS (cleared l N)) N ((r.drop a).take N) := by
  have hlen : ((r.drop a).take N).length = N := by rw [List.length_take, List.length_drop, h.len]; omega
  have hl0 : l.length = K := by rw [hl.len, List.length_replicate]
  have := Rep.of (l := cleared l N) (r := (r.drop a).take N) (by rw [hlen]; have := h.most; omega) (by rw [cleared_length, hl0, hlen, hK]) (fun i hi => by
    rw [cleared_length, hl0] at hi
    rw [cleared_bit l N (by rw [hl0, hK]) i (by rw [hl0]; exact hi), hl.bit i hi, bl_mkS, bitAt_drop, show 8 * f + (i + low) = a + i by omega, h.bit]
    simp only [List.getD_eq_getElem?_getD, List.getElem?_take, List.getElem?_drop]
    by_cases hi2 : i < N
    · simp [hi2]
    · simp [hi2])
  rw [hlen] at this
  exact this

set_option maxHeartbeats 1000000 in
set_option maxRecDepth 100000 in
theorem cut_in (w : World) (s : ByteArray) (n a b N : Nat) (r : List Bool) (h : Rep s n r) (hab : a + N = b) (hb : b ≤ n) :
    Calls Tryz.prog 33 #[bv s n, .int .i64 (a : Int), .int .i64 (b : Int)] w fun e w' => ∃ u, e = .returned (.tuple #[bv u N, .bool true]) ∧ Rep u N ((r.drop a).take N) ∧ Fr [] w w' := by
  have hm := h.most
  have hs := h.size
  have d1 : decide ((a : Int) < 0) = false := by simp
  have d2 : decide ((b : Int) < (a : Int)) = false := by simp; omega
  have d3 : decide ((n : Int) < (b : Int)) = false := by simp; omega
  have d2' : decide (b < a) = false := by simp; omega
  have d3' : decide (n < b) = false := by simp; omega
  have ha1 : (a : Int) ≤ 1048576 := by omega
  have ha0 : (0 : Int) ≤ (a : Int) := by omega
  have hN1 : (N : Int) ≤ 1048576 := by omega
  have hN0 : (0 : Int) ≤ (N : Int) := by omega
  have hbi : (b : Int) - (a : Int) = (N : Int) := by omega
  obtain ⟨f, e1⟩ : ∃ f : Nat, (a : Int) / 8 = (f : Int) := ⟨a / 8, by omega⟩
  obtain ⟨low, e2⟩ : ∃ low : Nat, (a : Int) % 8 = (low : Int) := ⟨a % 8, by omega⟩
  have hlow : low < 8 := by omega
  have hf2 : Hid (a / 8 = f) := by show _ = _; omega
  have hl2 : Hid (a % 8 = low) := by show _ = _; omega
  obtain ⟨K, hK⟩ : ∃ K, (N + 7) / 8 = K := ⟨_, rfl⟩
  have HK : Hid ((N + 7) / 8 = K) := hK
  have hts := run_tail s (f : Int) f rfl (by have := hf2.out; omega)
  have hK1 : K ≤ 16777216 := by omega
  have htl : (mkS ((bl s).drop f)).size = s.size - f := by rw [mkS_size, List.length_drop, bl_length]
  have hKt : K ≤ (mkS ((bl s).drop f)).size := by rw [htl]; have := hf2.out; omega
  have htM : (mkS ((bl s).drop f)).size ≤ 16777216 := by rw [htl]; omega
  clear hK htl hs
  have bA0 : Box ((w.alloc (.cells #[.string s, .int .i64 (n : Int)] 43)).alloc (.cells #[.string { data := #[] }, .int .i64 0] 43)) w.heap.size s n :=
    (Box.new w s n).kept ((Fr.refl [] _).alloc _) (by simp)
  have bC0 : Box ((w.alloc (.cells #[.string s, .int .i64 (n : Int)] 43)).alloc (.cells #[.string { data := #[] }, .int .i64 0] 43)) (w.heap.size + 1) (mkS []) 0 := by
    have := Box.zero (w.alloc (.cells #[.string s, .int .i64 (n : Int)] 43))
    simpa using this
  have f0 : Fr [] w ((w.alloc (.cells #[.string s, .int .i64 (n : Int)] 43)).alloc (.cells #[.string { data := #[] }, .int .i64 0] 43)) := ((Fr.refl [] w).alloc _).alloc _
  have s0 : w.heap.size + 1 + 1 ≤ ((w.alloc (.cells #[.string s, .int .i64 (n : Int)] 43)).alloc (.cells #[.string { data := #[] }, .int .i64 0] 43)).heap.size := by simp
  generalize ht : mkS ((bl s).drop f) = t at hts hKt htM
  have Ht : Hid (mkS ((bl s).drop f) = t) := ht
  clear ht
  go_enter Tryz.func33, Tryz.ntmps33
  go_wp2_with (first
    | (go_at_call 58; refine (bytesFor_k _ N K (by omega) HK.out).mono ?_; rintro e w5 ⟨rfl, rfl⟩)
    | (refine wp_make rfl _ _ rfl K rfl rfl hK1 ?_; intro w1 g s1 b1 f1; have bA := bA0.kept f1 (by simp); have bC := bC0.kept f1 (by simp); have g1 := f0.trans f1; have s2 : w.heap.size + 1 < g := (by omega); have cA0 := bA.c0; have cA1 := bA.c1)
    | (go_at_call 59; refine (lift_any _ g K K low _ t b1 (by simp) hK1 hlow hKt htM).mono ?_; rintro e w4 ⟨rfl, ⟨l4, b4, k4⟩, f4⟩; have bC4 := bC.kept f4 (by simp; omega); have g4 : Fr [] w w4 := g1.then f4 (fun i hi hm => by simp at hm; omega); have hl4 : Hid (l4.length = K) := (k4.len.trans (by simp)))
    | (go_at_call 60; refine (clear_any _ g K K N l4 b4 hl4.out HK.out.symm (by omega)).mono ?_; rintro e w5 ⟨rfl, b5, f5⟩; have bC5 := bC4.kept f5 (by simp; omega); have g5 : Fr [] w w5 := g4.then f5 (fun i hi hm => by simp at hm; omega); have hl5 : Hid ((cleared l4 N).length = K) := ((cleared_length l4 N).trans hl4.out))
    | (refine wp_conv rfl _ rfl (cleared l4 N) _ K K rfl hl5.out b5.bytes (fun _ => Or.inr ⟨_, _, rfl⟩) ?_)
    | (refine wp_storeB rfl _ _ rfl _ _ (mkS (cleared l4 N)) _ N rfl rfl bC5 ?_; intro w6 b6 f6; have g6 : Fr [] w w6 := g5.then f6 (fun i hi hm => by simp at hm; omega)))
  refine bodyPost_ret (resB2 Tryz.results33 _ _ _ (mkS (cleared l4 N)) N rfl b6) rfl ?_
  exact ⟨mkS (cleared l4 N), rfl, h.cut a N f low K (by omega) hf2.out hl2.out HK.out (by rw [Ht.out]; exact k4), g6⟩


theorem zeroS : (Value.agg #[.string { data := #[] }, .int .i64 0]) = bv (mkS []) 0 := rfl

set_option maxHeartbeats 1000000 in
theorem cut_bad1 (w : World) (s : ByteArray) (n : Nat) (a b : Int) (h1 : a < 0) :
    Calls Tryz.prog 33 #[bv s n, .int .i64 a, .int .i64 b] w fun e w' => e = .returned (.tuple #[bv (mkS []) 0, .bool false]) ∧ Fr [] w w' := by
  go_enter Tryz.func33, Tryz.ntmps33
  go_wp2
  refine bodyPost_ret (resB2 Tryz.results33 _ _ (w.heap.size + 1) (mkS []) 0 rfl ?_) rfl ⟨rfl, ((Fr.refl _ _).alloc _).alloc _⟩
  simpa using Box.zero (w.alloc (.cells #[.string s, .int .i64 (n : Int)] 43))

set_option maxHeartbeats 1000000 in
theorem cut_bad2 (w : World) (s : ByteArray) (n : Nat) (a b : Int) (h1 : 0 ≤ a) (h2 : b < a) :
    Calls Tryz.prog 33 #[bv s n, .int .i64 a, .int .i64 b] w fun e w' => e = .returned (.tuple #[bv (mkS []) 0, .bool false]) ∧ Fr [] w w' := by
  have d1 : decide (a < 0) = false := by simp; omega
  go_enter Tryz.func33, Tryz.ntmps33
  go_wp2
  refine bodyPost_ret (resB2 Tryz.results33 _ _ (w.heap.size + 1) (mkS []) 0 rfl ?_) rfl ⟨rfl, ((Fr.refl _ _).alloc _).alloc _⟩
  simpa using Box.zero (w.alloc (.cells #[.string s, .int .i64 (n : Int)] 43))

set_option maxHeartbeats 1000000 in
theorem cut_bad3 (w : World) (s : ByteArray) (n : Nat) (a b : Int) (h1 : 0 ≤ a) (h2 : a ≤ b) (h3 : (n : Int) < b) :
    Calls Tryz.prog 33 #[bv s n, .int .i64 a, .int .i64 b] w fun e w' => e = .returned (.tuple #[bv (mkS []) 0, .bool false]) ∧ Fr [] w w' := by
  have d1 : decide (a < 0) = false := by simp; omega
  have d2 : decide (b < a) = false := by simp; omega
  go_enter Tryz.func33, Tryz.ntmps33
  go_wp2
  refine bodyPost_ret (resB2 Tryz.results33 _ _ (w.heap.size + 1) (mkS []) 0 rfl ?_) rfl ⟨rfl, ((Fr.refl _ _).alloc _).alloc _⟩
  simpa using Box.zero (w.alloc (.cells #[.string s, .int .i64 (n : Int)] 43))

theorem cut_bad (w : World) (s : ByteArray) (n : Nat) (a b : Int) (h : ¬ (0 ≤ a ∧ a ≤ b ∧ b ≤ n)) :
    Calls Tryz.prog 33 #[bv s n, .int .i64 a, .int .i64 b] w fun e w' => e = .returned (.tuple #[bv (mkS []) 0, .bool false]) ∧ Fr [] w w' := by
  by_cases h1 : 0 ≤ a
  · by_cases h2 : a ≤ b
    · exact cut_bad3 w s n a b h1 h2 (by omega)
    · exact cut_bad2 w s n a b h1 (by omega)
  · exact cut_bad1 w s n a b (by omega)

set_option maxHeartbeats 1000000 in
theorem and_over (w : World) (s t : ByteArray) (n m : Nat) (hn : n ≤ 1048576) (hm : m ≤ 1048576) (hf : 1048576 < n + m) :
    Calls Tryz.prog 36 #[bv s n, bv t m] w fun e w' => e = .returned (bv (mkS []) 0) ∧ Fr [] w w' := by
  have h1 : (n : Int) ≤ 1048576 := by omega
  have h2 : (m : Int) ≤ 1048576 := by omega
  have h3 : (1048576 : Int) < (n : Int) + (m : Int) := by omega
  go_enter Tryz.func36, Tryz.ntmps36
  go_wp2
  refine bodyPost_ret (resB Tryz.results36 _ _ (w.heap.size + 1 + 1) (mkS []) 0 rfl ?_) rfl ⟨rfl, (((Fr.refl _ _).alloc _).alloc _).alloc _⟩
  simpa using Box.zero ((w.alloc (.cells #[.string s, .int .i64 (n : Int)] 43)).alloc (.cells #[.string t, .int .i64 (m : Int)] 43))

set_option maxHeartbeats 1000000 in
theorem pack_any (w : World) (s : ByteArray) (n : Nat) (hs : s.size ≤ 16777216) :
    Calls Tryz.prog 30 #[bv s n] w fun e w' => ∃ v, e = .returned v ∧ Packed w w' v (bl s) ∧ Fr [] w w' := by
  have b0 := Box.new w s n
  have f0 := (Fr.refl [] w).alloc (.cells #[.string s, .int .i64 (n : Int)] 43)
  go_enter Tryz.func30, Tryz.ntmps30
  go_wp2_with (refine wp_packStr rfl _ _ rfl s rfl rfl hs ?_; intro v w1 p1 f1)
  go_ret
  exact ⟨v, rfl, p1.from f0, f0.trans f1⟩

end Go.Proofs.YtddcilmeignlmaaGreatDoor
