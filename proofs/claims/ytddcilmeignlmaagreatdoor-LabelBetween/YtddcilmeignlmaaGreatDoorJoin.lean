/-
  And, Cut: rows put together and cut out.
-/
import Derived.Test.YtddcilmeignlmaaGreatDoorLay
namespace Go.Proofs.YtddcilmeignlmaaGreatDoor
open Go.RowKit

theorem bytesFor_k (w : World) (n K : Nat) (hn : n ≤ 16777216) (hK : (n + 7) / 8 = K) :
    Calls Tryz.prog 58 #[.int .i64 (n : Int)] w fun e w' => e = .returned (.int .i64 (K : Int)) ∧ w = w' := by
  subst hK
  exact bytesFor_any w n hn

theorem getD_append (r q : List Bool) (i : Nat) : (r ++ q).getD i false = if i < r.length then r.getD i false else q.getD (i - r.length) false := by
  simp only [List.getD_eq_getElem?_getD]
  split
  · rename_i h; rw [List.getElem?_append_left h]
  · rename_i h; rw [List.getElem?_append_right (by omega)]

theorem bitAt_append (l m : List UInt8) (i : Nat) : bitAt (l ++ m) i = if i < 8 * l.length then bitAt l i else bitAt m (i - 8 * l.length) := by
  unfold bitAt byteAt
  simp only [List.getD_eq_getElem?_getD]
  split
  · rename_i h; rw [List.getElem?_append_left (by omega)]
  · rename_i h; rw [List.getElem?_append_right (by omega), show i / 8 - l.length = (i - 8 * l.length) / 8 by omega, show (i - 8 * l.length) % 8 = i % 8 by omega]

/-- What And has laid is the two rows, one behind the other. -/
theorem Rep.join {s t : ByteArray} {n m : Nat} {r q : List Bool} (h : Rep s n r) (k : Rep t m q) (hf : n + m ≤ 1048576) {K : Nat} (hK : (n + m + 7) / 8 = K) {l : List UInt8}
    (hl : LaidTo (bl s ++ (List.replicate K 0).drop s.size) l t n t.size) : Rep (mkS l) (n + m) (r ++ q) := by
  have hlen : (bl s ++ (List.replicate K (0 : UInt8)).drop s.size).length = K := by
    rw [List.length_append, bl_length, List.length_drop, List.length_replicate]
    have := h.size
    omega
  have e : n + m = (r ++ q).length := by rw [List.length_append, h.len, k.len]
  rw [e]
  refine Rep.of (by omega) (by rw [hl.len, hlen]; omega) (fun i hi => ?_)
  rw [hl.len, hlen] at hi
  rw [hl.bit i (by rw [hlen]; exact hi), bitAt_append, getD_append, bl_length, h.len]
  have hz : (if i < 8 * s.size then bitAt (bl s) i else bitAt ((List.replicate K (0 : UInt8)).drop s.size) (i - 8 * s.size)) = r.getD i false := by
    split
    · exact h.bit i
    · rw [List.drop_replicate, bitAt_zeros, ← h.bit i, bitAt_ge (by rw [bl_length]; omega)]
  rw [hz]
  by_cases hin : i < n
  · have : ¬ (n ≤ i ∧ i - n < 8 * t.size) := by omega
    simp [this, hin]
  · have hr : r.getD i false = false := by
      simp only [List.getD_eq_getElem?_getD]
      rw [List.getElem?_eq_none (by rw [h.len]; omega)]
      rfl
    rw [hr, if_neg hin, k.bit]
    by_cases hb : i - n < 8 * t.size
    · simp [show n ≤ i by omega, hb]
    · have : q.getD (i - n) false = false := by rw [← k.bit, bitAt_ge (by rw [bl_length]; omega)]
      rw [this]
      simp

set_option maxHeartbeats 1000000 in
set_option maxRecDepth 100000 in
theorem and_any (w : World) (s t : ByteArray) (n m N : Nat) (r q : List Bool) (h : Rep s n r) (k : Rep t m q) (hN : n + m = N) (hf : N ≤ 1048576) :
    Calls Tryz.prog 36 #[bv s n, bv t m] w fun e w' => ∃ u, e = .returned (bv u N) ∧ Rep u N (r ++ q) ∧ Fr [] w w' := by
  have hNi : (n : Int) + (m : Int) = (N : Int) := by omega
  have hN0 : (0 : Int) ≤ (N : Int) := by omega
  have hN1 : (N : Int) ≤ 1048576 := by omega
  have hn1 : (n : Int) ≤ 1048576 := by omega
  have hm1 : (m : Int) ≤ 1048576 := by omega
  obtain ⟨K, hK⟩ : ∃ K, (N + 7) / 8 = K := ⟨_, rfl⟩
  have HK : Hid ((N + 7) / 8 = K) := hK
  clear hK
  have bA0 : Box (((w.alloc (.cells #[.string s, .int .i64 (n : Int)] 43)).alloc (.cells #[.string t, .int .i64 (m : Int)] 43)).alloc (.cells #[.string { data := #[] }, .int .i64 0] 43)) w.heap.size s n :=
    ((Box.new w s n).kept ((Fr.refl [] _).alloc _) (by simp)).kept ((Fr.refl [] _).alloc _) (by simp)
  have bB0 : Box (((w.alloc (.cells #[.string s, .int .i64 (n : Int)] 43)).alloc (.cells #[.string t, .int .i64 (m : Int)] 43)).alloc (.cells #[.string { data := #[] }, .int .i64 0] 43)) (w.heap.size + 1) t m := by
    have := (Box.new (w.alloc (.cells #[.string s, .int .i64 (n : Int)] 43)) t m).kept ((Fr.refl [] _).alloc (.cells #[.string { data := #[] }, .int .i64 0] 43)) (by simp)
    simpa using this
  have bC0 : Box (((w.alloc (.cells #[.string s, .int .i64 (n : Int)] 43)).alloc (.cells #[.string t, .int .i64 (m : Int)] 43)).alloc (.cells #[.string { data := #[] }, .int .i64 0] 43)) (w.heap.size + 1 + 1) (mkS []) 0 := by
    have := Box.zero ((w.alloc (.cells #[.string s, .int .i64 (n : Int)] 43)).alloc (.cells #[.string t, .int .i64 (m : Int)] 43))
    simpa using this
  have f0 : Fr [] w (((w.alloc (.cells #[.string s, .int .i64 (n : Int)] 43)).alloc (.cells #[.string t, .int .i64 (m : Int)] 43)).alloc (.cells #[.string { data := #[] }, .int .i64 0] 43)) := (((Fr.refl [] w).alloc _).alloc _).alloc _
  have s0 : w.heap.size + 1 + 1 + 1 ≤ (((w.alloc (.cells #[.string s, .int .i64 (n : Int)] 43)).alloc (.cells #[.string t, .int .i64 (m : Int)] 43)).alloc (.cells #[.string { data := #[] }, .int .i64 0] 43)).heap.size := by simp
  have hss := h.size
  have hts := k.size
  have hsK : s.size ≤ K := by have := HK.out; omega
  have hfit : n / 8 + t.size ≤ K := by have := HK.out; omega
  have hK1 : K ≤ 16777216 := by have := HK.out; omega
  have hlen : Hid ((bl s ++ (List.replicate K (0 : UInt8)).drop s.size).length = K) := by
    show _ = _
    rw [List.length_append, bl_length, List.length_drop, List.length_replicate]
    omega
  clear hss hts
  go_enter Tryz.func36, Tryz.ntmps36
  go_wp2_with (first
    | (go_at_call 58; refine (bytesFor_k _ N K (by omega) HK.out).mono ?_; rintro e w5 ⟨rfl, rfl⟩)
    | (refine wp_make rfl _ _ rfl K rfl rfl hK1 ?_; intro w1 g s1 b1 f1; have bA := bA0.kept f1 (by simp); have bB := bB0.kept f1 (by simp); have bC := bC0.kept f1 (by simp); have g1 := f0.trans f1; have s2 : w.heap.size + 1 + 1 < g := (by omega); have cA0 := bA.c0; have cA1 := bA.c1; have cB0 := bB.c0)
    | (refine wp_copyStr rfl _ _ rfl g K K _ s rfl rfl b1 (by simp) hsK ?_; intro w2 b2 f2; have bA2 := bA.kept f2 (by simp; omega); have bB2 := bB.kept f2 (by simp; omega); have bC2 := bC.kept f2 (by simp; omega); have g2 : Fr [] w w2 := g1.then f2 (fun i hi hm => by simp at hm; omega); have dA1 := bA2.c1; have dB0 := bB2.c0)
    | (go_at_call 62; refine (lay_any _ g K K n _ t b2 hlen.out hK1 (by omega) hfit).mono ?_; rintro e w4 ⟨rfl, ⟨l4, b4, k4⟩, f4⟩; have bC4 := bC2.kept f4 (by simp; omega); have g4 : Fr [] w w4 := g2.then f4 (fun i hi hm => by simp at hm; omega); have hl4 : Hid (l4.length = K) := k4.len.trans hlen.out)
    | (refine wp_conv rfl _ rfl l4 _ K K rfl hl4.out b4.bytes (fun _ => Or.inr ⟨_, _, rfl⟩) ?_)
    | (refine wp_storeB rfl _ _ rfl _ _ (mkS l4) _ N rfl rfl bC4 ?_; intro w6 b6 f6; have g6 : Fr [] w w6 := g4.then f6 (fun i hi hm => by simp at hm; omega)))
  refine bodyPost_ret (resB Tryz.results36 _ _ _ (mkS l4) N rfl b6) rfl ?_
  exact ⟨mkS l4, rfl, by rw [← hN]; exact h.join k (by omega) (by rw [hN]; exact HK.out) k4, g6⟩

end Go.Proofs.YtddcilmeignlmaaGreatDoor
