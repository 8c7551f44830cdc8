/-
  Labels: stepUnder.
-/
import Derived.Test.YtddcilmeignlmaaGreatDoorLab4
namespace Go.Proofs.YtddcilmeignlmaaGreatDoor
open Go.RowKit Go.Maps Go.Lib

theorem enc_inj {ss tt : List (List Bool)} (h : ∀ t ∈ ss, okS t) (k : ∀ t ∈ tt, okS t) (e : enc ss = enc tt) : ss = tt := by
  have h1 := go_enc ss [] [] h
  have h2 := go_enc tt [] [] k
  rw [e, h2] at h1
  simpa [go] using h1.symm

theorem toList_inj {s t : ByteArray} (h : s.toList = t.toList) : s = t := by
  rw [toList_bl, toList_bl] at h
  rw [← mkS_bl s, ← mkS_bl t, h]

set_option maxHeartbeats 1000000 in
set_option maxRecDepth 100000 in
theorem under_none (w : World) (r : ByteArray) (n : Nat) (p : ByteArray) (k : Nat) (s : ByteArray) (j : Nat) (lev : Int) (ad : Option Addr) (c : Nat) :
    Calls Tryz.prog 42 #[pv r n p k s j lev, .slice ad 0 c] w fun e w' => e = .returned (.tuple #[bv (mkS []) 0, .bool true]) ∧ Fr [] w w' := by
  go_enter Tryz.func42, Tryz.ntmps42
  go_wp2_with fail
  refine bodyPost_ret (resB2 Tryz.results42 _ _ (w.heap.size + 1) (mkS []) 0 rfl ?_) rfl ⟨rfl, ((Fr.refl _ _).alloc _).alloc _⟩
  have := Box.zero (w.alloc (.cells #[.string r, .int .i64 (n : Int), .string p, .int .i64 (k : Int), .string s, .int .i64 (j : Int), .int .i64 lev] 45))
  rwa [show (w.alloc (.cells #[.string r, .int .i64 (n : Int), .string p, .int .i64 (k : Int), .string s, .int .i64 (j : Int), .int .i64 lev] 45)).heap.size = w.heap.size + 1 from by simp] at this

set_option maxHeartbeats 1000000 in
set_option maxRecDepth 100000 in
theorem under_bad (w : World) (r : ByteArray) (n : Nat) (p : ByteArray) (k : Nat) (s : ByteArray) (j : Nat) (lev : Int) (ad : Option Addr) (m c : Nat) (l : List UInt8) (hn : ∀ ss, ¬ Lab l ss) (hl : l.length = m) (h0 : m ≠ 0) (hb : BytesAt w ad l) (hp : Plain ad) (hm : m < 9223372036854775808) :
    Calls Tryz.prog 42 #[pv r n p k s j lev, .slice ad m c] w fun e w' => e = .returned (.tuple #[bv (mkS []) 0, .bool false]) ∧ Fr [] w w' := by
  obtain ⟨w0, hw0⟩ : ∃ w0, w0 = (w.alloc (.cells #[.string r, .int .i64 (n : Int), .string p, .int .i64 (k : Int), .string s, .int .i64 (j : Int), .int .i64 lev] 45)).alloc (.cells #[.string { data := #[] }, .int .i64 0] 43) := ⟨_, rfl⟩
  have f0 : Fr [] w w0 := by rw [hw0]; exact ((Fr.refl _ _).alloc _).alloc _
  have bB : Box w0 (w.heap.size + 1) (mkS []) 0 := by
    have := Box.zero (w.alloc (.cells #[.string r, .int .i64 (n : Int), .string p, .int .i64 (k : Int), .string s, .int .i64 (j : Int), .int .i64 lev] 45))
    rw [show (w.alloc (.cells #[.string r, .int .i64 (n : Int), .string p, .int .i64 (k : Int), .string s, .int .i64 (j : Int), .int .i64 lev] 45)).heap.size = w.heap.size + 1 from by simp] at this
    rw [hw0]; exact this
  have hr := read_no w0 ad m c l hn hl (hb.kept f0 (by simp)) hp hm
  rw [hw0] at hr
  clear hl hn
  go_enter Tryz.func42, Tryz.ntmps42
  go_wp2_with fail
  refine hr.mono ?_
  rw [← hw0]
  rintro e w1 ⟨rfl, f1⟩
  have f1a := f1.alloc (.cells #[.string (mkS []), .int .i64 0, .string (mkS []), .int .i64 0, .string (mkS []), .int .i64 0, .int .i64 0] 45)
  have bB1 := bB.kept f1a (by simp)
  clear hr bB
  go_wp2_with (refine wp_storeB rfl _ _ rfl _ _ (mkS []) _ 0 rfl rfl bB1 ?_; intro w6 b6 f6)
  refine bodyPost_ret (resB2 Tryz.results42 _ _ (w.heap.size + 1) (mkS []) 0 rfl b6) rfl ⟨rfl, (f0.trans f1a).then f6 (fun i hi hm => by simp at hm; omega)⟩

set_option maxHeartbeats 1000000 in
set_option maxRecDepth 100000 in
theorem under_yes (w : World) (r : ByteArray) (n : Nat) (p : ByteArray) (k : Nat) (s : ByteArray) (j : Nat) (lev : Int) (ad : Option Addr) (m c : Nat) (l : List UInt8) (ss : List (List Bool)) (L : Lab l ss) (hl : l.length = m) (h0 : m ≠ 0) (hb : BytesAt w ad l) (hp : Plain ad) (pp : List (List Bool)) (hR : Rep r n (enc pp)) (hpp : ∀ t ∈ pp, okS t) :
    Calls Tryz.prog 42 #[pv r n p k s j lev, .slice ad m c] w fun e w' => ((∃ u3, e = .returned (.tuple #[bv u3 (lastS ss).length, .bool true]) ∧ Rep u3 (lastS ss).length (lastS ss) ∧ ss.dropLast = pp) ∨ (e = .returned (.tuple #[bv (mkS []) 0, .bool false]) ∧ ss.dropLast ≠ pp)) ∧ Fr [] w w' := by
  obtain ⟨w0, hw0⟩ : ∃ w0, w0 = (w.alloc (.cells #[.string r, .int .i64 (n : Int), .string p, .int .i64 (k : Int), .string s, .int .i64 (j : Int), .int .i64 lev] 45)).alloc (.cells #[.string { data := #[] }, .int .i64 0] 43) := ⟨_, rfl⟩
  have f0 : Fr [] w w0 := by rw [hw0]; exact ((Fr.refl _ _).alloc _).alloc _
  have fA : Fr [] w (w.alloc (.cells #[.string r, .int .i64 (n : Int), .string p, .int .i64 (k : Int), .string s, .int .i64 (j : Int), .int .i64 lev] 45)) := (Fr.refl _ _).alloc _
  have pB : PBox w0 w.heap.size r n p k s j lev := by
    rw [hw0]
    exact ((Fr.refl [] _).alloc _).same (by simp) (heap_alloc_new w _)
  have bB : Box w0 (w.heap.size + 1) (mkS []) 0 := by
    have := Box.zero (w.alloc (.cells #[.string r, .int .i64 (n : Int), .string p, .int .i64 (k : Int), .string s, .int .i64 (j : Int), .int .i64 lev] 45))
    rw [show (w.alloc (.cells #[.string r, .int .i64 (n : Int), .string p, .int .i64 (k : Int), .string s, .int .i64 (j : Int), .int .i64 lev] 45)).heap.size = w.heap.size + 1 from by simp] at this
    rw [hw0]; exact this
  have hr := read_yes w0 ad m c l ss L hl (hb.kept f0 (by simp)) hp
  rw [hw0] at hr
  have HO : Hid (∀ t ∈ ss.dropLast, okS t) := fun t ht => L.ok t (List.dropLast_subset ss ht)
  have HP : Hid (∀ t ∈ pp, okS t) := hpp
  clear hl hpp fA
  go_enter Tryz.func42, Tryz.ntmps42
  go_wp2_with fail
  refine hr.mono ?_
  rw [← hw0]
  rintro e w1 ⟨u2, u3, rfl, h2, h3, f1⟩
  have f1a := f1.alloc (.cells #[.string (mkS l), .int .i64 ((enc ss).length : Int), .string u2, .int .i64 ((enc ss.dropLast).length : Int), .string u3, .int .i64 ((lastS ss).length : Int), .int .i64 (ss.length : Int)] 45)
  have bB1 := bB.kept f1a (by simp)
  have pB0 := pB.kept f1 (by simp)
  have d0 := pB0.c0
  have d1 := pB0.c1
  have hlt := pB0.lt
  clear hr bB pB hw0
  by_cases hq : ss.dropLast = pp
  · have hR' : Rep r n (enc ss.dropLast) := by rw [hq]; exact hR
    have HQ : Hid (ss.dropLast = pp) := hq
    obtain ⟨rfl, rfl⟩ := Rep.unique h2 hR'
    clear hR hR' hq
    go_wp2_with (refine wp_storeB rfl _ _ rfl _ _ u3 _ (lastS ss).length rfl rfl bB1 ?_; intro w6 b6 f6)
    refine bodyPost_ret (resB2 Tryz.results42 _ _ (w.heap.size + 1) u3 (lastS ss).length rfl b6) rfl ⟨Or.inl ⟨u3, rfl, h3, HQ.out⟩, (f0.trans f1a).then f6 (fun i hi hm => by simp at hm; omega)⟩
  · have hne : ¬ (u2 = r ∧ (enc ss.dropLast).length = n) := by
      rintro ⟨rfl, rfl⟩
      exact hq (enc_inj HO.out HP.out (Rep.inj h2 hR))
    have HQ : Hid (ss.dropLast ≠ pp) := hq
    clear hq
    by_cases hL : (enc ss.dropLast).length = n
    · have hB : ¬ u2.toList = r.toList := fun e => hne ⟨toList_inj e, hL⟩
      clear hne
      subst hL
      go_wp2_with (refine wp_storeB rfl _ _ rfl _ _ (mkS []) _ 0 rfl rfl bB1 ?_; intro w6 b6 f6)
      refine bodyPost_ret (resB2 Tryz.results42 _ _ (w.heap.size + 1) (mkS []) 0 rfl b6) rfl ⟨Or.inr ⟨rfl, HQ.out⟩, (f0.trans f1a).then f6 (fun i hi hm => by simp at hm; omega)⟩
    · have hB : (((enc ss.dropLast).length : Int) == (n : Int)) = false := by simp; omega
      clear hne
      go_wp2_with (refine wp_storeB rfl _ _ rfl _ _ (mkS []) _ 0 rfl rfl bB1 ?_; intro w6 b6 f6)
      all_goals refine bodyPost_ret (resB2 Tryz.results42 _ _ (w.heap.size + 1) (mkS []) 0 rfl b6) rfl ⟨Or.inr ⟨rfl, HQ.out⟩, (f0.trans f1a).then f6 (fun i hi hm => by simp at hm; omega)⟩

end Go.Proofs.YtddcilmeignlmaaGreatDoor
