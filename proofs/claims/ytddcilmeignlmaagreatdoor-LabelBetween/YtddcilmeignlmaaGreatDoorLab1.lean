/-
  Labels: Right, Level, Parent, Compare.
-/
import Derived.Test.YtddcilmeignlmaaGreatDoorRead
import Derived.Test.YtddcilmeignlmaaGreatDoorPackOwn
import Derived.Laws.Externs
namespace Go.Proofs.YtddcilmeignlmaaGreatDoor
open Go.RowKit Go.Maps Go.Lib

theorem lab_unique {l : List UInt8} {ss tt : List (List Bool)} (L : Lab l ss) (K : Lab l tt) : ss = tt := by
  have h1 := lab_go L
  rw [lab_go K] at h1
  cases h1
  rfl
theorem lab_small {l : List UInt8} {ss : List (List Bool)} (L : Lab l ss) : l.length < 9223372036854775808 := by have := lab_len L; omega

theorem read_yes (w : World) (ad : Option Addr) (m c : Nat) (l : List UInt8) (ss : List (List Bool)) (L : Lab l ss) (hl : l.length = m) (hb : BytesAt w ad l) (hp : Plain ad) :
    Calls Tryz.prog 29 #[.slice ad m c] w fun e w' => ∃ u2 u3, e = .returned (.tuple #[pv (mkS l) (enc ss).length u2 (enc ss.dropLast).length u3 (lastS ss).length (ss.length : Int), .bool true]) ∧ Rep u2 (enc ss.dropLast).length (enc ss.dropLast) ∧ Rep u3 (lastS ss).length (lastS ss) ∧ Fr [] w w' := by
  refine (read_any w ad m c l hl hb hp (by have := lab_small L; omega)).mono ?_
  rintro e w' ⟨h, f⟩
  rcases h with ⟨tt, u2, u3, K, rfl, h2, h3⟩ | ⟨_, h⟩
  · obtain rfl := lab_unique L K
    exact ⟨u2, u3, rfl, h2, h3, f⟩
  · exact absurd L (h ss)
theorem read_no (w : World) (ad : Option Addr) (m c : Nat) (l : List UInt8) (hn : ∀ ss, ¬ Lab l ss) (hl : l.length = m) (hb : BytesAt w ad l) (hp : Plain ad) (hm : m < 9223372036854775808) :
    Calls Tryz.prog 29 #[.slice ad m c] w fun e w' => e = .returned (.tuple #[pv (mkS []) 0 (mkS []) 0 (mkS []) 0 0, .bool false]) ∧ Fr [] w w' := by
  refine (read_any w ad m c l hl hb hp hm).mono ?_
  rintro e w' ⟨h, f⟩
  rcases h with ⟨tt, u2, u3, K, rfl, h2, h3⟩ | ⟨rfl, h⟩
  · exact absurd K (hn tt)
  · exact ⟨rfl, f⟩

set_option maxHeartbeats 1000000 in
set_option maxRecDepth 100000 in
theorem right_yes (w : World) (ad : Option Addr) (m c : Nat) (l : List UInt8) (ss : List (List Bool)) (L : Lab l ss) (hl : l.length = m) (hb : BytesAt w ad l) (hp : Plain ad) :
    Calls Tryz.prog 10 #[.slice ad m c] w fun e w' => e = .returned (.bool true) ∧ Fr [] w w' := by
  have hr := read_yes w ad m c l ss L hl hb hp
  clear hl
  go_enter Tryz.func10, Tryz.ntmps10
  go_wp2_with (go_at_call 29; refine hr.mono ?_; rintro e w1 ⟨u2, u3, rfl, _, _, f1⟩)
  go_ret
  exact ⟨rfl, f1.alloc _⟩
set_option maxHeartbeats 1000000 in
set_option maxRecDepth 100000 in
theorem right_no (w : World) (ad : Option Addr) (m c : Nat) (l : List UInt8) (hn : ∀ ss, ¬ Lab l ss) (hl : l.length = m) (hb : BytesAt w ad l) (hp : Plain ad) (hm : m < 9223372036854775808) :
    Calls Tryz.prog 10 #[.slice ad m c] w fun e w' => e = .returned (.bool false) ∧ Fr [] w w' := by
  have hr := read_no w ad m c l hn hl hb hp hm
  clear hl hn
  go_enter Tryz.func10, Tryz.ntmps10
  go_wp2_with (go_at_call 29; refine hr.mono ?_; rintro e w1 ⟨rfl, f1⟩)
  go_ret
  exact ⟨rfl, f1.alloc _⟩

set_option maxHeartbeats 1000000 in
set_option maxRecDepth 100000 in
theorem level_yes (w : World) (ad : Option Addr) (m c : Nat) (l : List UInt8) (ss : List (List Bool)) (L : Lab l ss) (hl : l.length = m) (hb : BytesAt w ad l) (hp : Plain ad) :
    Calls Tryz.prog 13 #[.slice ad m c] w fun e w' => e = .returned (.int .i64 (ss.length : Int)) ∧ Fr [] w w' := by
  have hr := read_yes w ad m c l ss L hl hb hp
  clear hl
  go_enter Tryz.func13, Tryz.ntmps13
  go_wp2_with (go_at_call 29; refine hr.mono ?_; rintro e w1 ⟨u2, u3, rfl, _, _, f1⟩)
  go_ret
  exact ⟨rfl, f1.alloc _⟩
set_option maxHeartbeats 1000000 in
set_option maxRecDepth 100000 in
theorem level_no (w : World) (ad : Option Addr) (m c : Nat) (l : List UInt8) (hn : ∀ ss, ¬ Lab l ss) (hl : l.length = m) (hb : BytesAt w ad l) (hp : Plain ad) (hm : m < 9223372036854775808) :
    Calls Tryz.prog 13 #[.slice ad m c] w fun e w' => e = .returned (.int .i64 0) ∧ Fr [] w w' := by
  have hr := read_no w ad m c l hn hl hb hp hm
  clear hl hn
  go_enter Tryz.func13, Tryz.ntmps13
  go_wp2_with (go_at_call 29; refine hr.mono ?_; rintro e w1 ⟨rfl, f1⟩)
  go_ret
  exact ⟨rfl, f1.alloc _⟩

/-- What is handed out: new bytes. -/
def Out (w w' : World) (v : Value) (l : List UInt8) : Prop := ∃ ad cap, v = .slice ad l.length cap ∧ w'.ownsRow w.heap.size 5 1 (.slice ad l.length cap) l.length (arr l).toList
theorem pack_out (w : World) (s : ByteArray) (n : Nat) (hs : s.size ≤ 16777216) : Calls Tryz.prog 30 #[bv s n] w fun e w' => ∃ ad cap, e = .returned (.slice ad s.size cap) ∧ Out w w' (.slice ad s.size cap) (bl s) ∧ Fr [] w w' := by
  refine (pack_own w s n hs).mono ?_
  rintro e w' ⟨ad, cap, rfl, o, f⟩
  rw [strCells_arr] at o
  exact ⟨ad, cap, rfl, ⟨ad, cap, rfl, o⟩, f⟩
theorem Out.from {w0 w w' : World} {v : Value} {l : List UInt8} (h : Out w w' v l) (f : Fr [] w0 w) : Out w0 w' v l := by
  obtain ⟨ad, cap, rfl, h1, h2⟩ := h
  refine ⟨ad, cap, rfl, h1, ?_⟩
  rcases h2 with hn | ⟨g, cap, cur, e, hb, r⟩
  · exact Or.inl hn
  · exact Or.inr ⟨g, cap, cur, e, Nat.le_trans f.size hb, r⟩
theorem Out.kept {w0 w w' : World} {v : Value} {l : List UInt8} (h : Out w0 w v l) (f : Fr [] w w') : Out w0 w' v l := by
  obtain ⟨ad, cap, rfl, h1⟩ := h
  exact ⟨ad, cap, rfl, own_kept h1 f (by simp)⟩

theorem lab_size {s : ByteArray} {ss : List (List Bool)} (h : Rep s (enc ss).length (enc ss)) (ho : ∀ t ∈ ss, okS t) (hm : (enc ss).length ≤ 1024) : Lab (bl s) ss := ⟨ho, hm, by rw [mkS_bl]; exact h⟩

set_option maxHeartbeats 1000000 in
set_option maxRecDepth 100000 in
theorem parent_yes (w : World) (ad : Option Addr) (m c : Nat) (l : List UInt8) (ss : List (List Bool)) (L : Lab l ss) (hl : l.length = m) (hb : BytesAt w ad l) (hp : Plain ad) (hne : ss ≠ []) :
    Calls Tryz.prog 8 #[.slice ad m c] w fun e w' => ∃ v l', e = .returned (.tuple #[v, .bool true]) ∧ Lab l' ss.dropLast ∧ Out w w' v l' ∧ Fr [] w w' := by
  have hr := read_yes w ad m c l ss L hl hb hp
  have h0 : ((ss.length : Int) == 0) = false := by
    have := List.length_pos_iff.2 hne
    simp
    exact hne
  have hle := enc_init_le ss
  have hmo := L.most
  have hok : ∀ t ∈ ss.dropLast, okS t := fun t ht => L.ok t (List.dropLast_subset ss ht)
  have HO : Hid (∀ t ∈ ss.dropLast, okS t) := hok
  clear hl hne hok
  go_enter Tryz.func8, Tryz.ntmps8
  go_wp2_with fail
  refine hr.mono ?_
  rintro e w1 ⟨u2, u3, rfl, h2, _, f1⟩
  have hs2 : u2.size ≤ 16777216 := by rw [h2.size]; omega
  clear hr
  go_wp2_with fail
  refine (pack_out _ u2 _ hs2).mono ?_
  rintro e w2 ⟨ad2, cap2, rfl, o2, f2⟩
  go_wp2_with fail
  go_ret2
  exact ⟨_, bl u2, rfl, lab_size h2 HO.out (by omega), o2.from (f1.alloc _), (f1.alloc _).trans f2⟩
set_option maxHeartbeats 1000000 in
set_option maxRecDepth 100000 in
theorem parent_none (w : World) (ad : Option Addr) (m c : Nat) (l : List UInt8) (hn : ∀ ss, ¬ Lab l ss) (hl : l.length = m) (hb : BytesAt w ad l) (hp : Plain ad) (hm : m < 9223372036854775808) :
    Calls Tryz.prog 8 #[.slice ad m c] w fun e w' => e = .returned (.tuple #[.slice none 0 0, .bool false]) ∧ Fr [] w w' := by
  have hr := read_no w ad m c l hn hl hb hp hm
  clear hl hn
  go_enter Tryz.func8, Tryz.ntmps8
  go_wp2_with (go_at_call 29; refine hr.mono ?_; rintro e w1 ⟨rfl, f1⟩)
  go_ret2
  exact ⟨rfl, f1.alloc _⟩
set_option maxHeartbeats 1000000 in
set_option maxRecDepth 100000 in
theorem parent_root (w : World) (ad : Option Addr) (m c : Nat) (l : List UInt8) (L : Lab l []) (hl : l.length = m) (hb : BytesAt w ad l) (hp : Plain ad) :
    Calls Tryz.prog 8 #[.slice ad m c] w fun e w' => e = .returned (.tuple #[.slice none 0 0, .bool false]) ∧ Fr [] w w' := by
  have hr := read_yes w ad m c l [] L hl hb hp
  clear hl
  go_enter Tryz.func8, Tryz.ntmps8
  go_wp2_with (go_at_call 29; refine hr.mono ?_; rintro e w1 ⟨u2, u3, rfl, _, _, f1⟩)
  go_ret2
  exact ⟨rfl, f1.alloc _⟩

end Go.Proofs.YtddcilmeignlmaaGreatDoor
