/-
  What each call hands out is new: whatever the label is.
-/
import Derived.Test.YtddcilmeignlmaaGreatDoorKids
import Derived.Test.YtddcilmeignlmaaGreatDoorBetw
import Derived.Test.YtddcilmeignlmaaGreatDoorAft
import Derived.Test.YtddcilmeignlmaaGreatDoorLCopy
import Derived.Test.YtddcilmeignlmaaGreatDoorLAw
namespace Go.Proofs.YtddcilmeignlmaaGreatDoor
open Go.RowKit Go.Maps Go.Lib

theorem Hid.mk0 {p : Prop} (h : p) : Hid p := h
set_option maxHeartbeats 1000000 in
set_option maxRecDepth 100000 in
theorem kids_none (w : World) (ad : Option Addr) (m c : Nat) (l : List UInt8) (hn : ∀ ss, ¬ Lab l ss) (hl : l.length = m) (hb : BytesAt w ad l) (hp : Plain ad) (hm : m < 9223372036854775808) (n : Int) :
    Calls Tryz.prog 25 #[.slice ad m c, .int .i64 n] w fun e w' => e = .returned (.tuple #[.slice none 0 0, .int .i64 2]) ∧ Fr [] w w' := by
  have hr := Hid.mk0 (read_no w ad m c l hn hl hb hp hm)
  clear hn hl hb hp hm
  go_enter Tryz.func25, Tryz.ntmps25
  go_wp2_with fail
  refine hr.out.mono ?_
  rintro e w1 ⟨rfl, f1⟩
  have f1a := f1.alloc (.cells #[.string (mkS []), .int .i64 0, .string (mkS []), .int .i64 0, .string (mkS []), .int .i64 0, .int .i64 0] 45)
  go_wp2_with fail
  go_ret2
  exact ⟨rfl, f1a⟩
set_option maxHeartbeats 1000000 in
set_option maxRecDepth 100000 in
theorem kids_few (w : World) (ad : Option Addr) (m c : Nat) (l : List UInt8) (pp : List (List Bool)) (L : Lab l pp) (hl : l.length = m) (hb : BytesAt w ad l) (hp : Plain ad) (n : Int) (hn : n < 0) :
    Calls Tryz.prog 25 #[.slice ad m c, .int .i64 n] w fun e w' => e = .returned (.tuple #[.slice none 0 0, .int .i64 2]) ∧ Fr [] w w' := by
  have hr := Hid.mk0 (read_yes w ad m c l pp L hl hb hp)
  clear L hl hb hp
  go_enter Tryz.func25, Tryz.ntmps25
  go_wp2_with fail
  refine hr.out.mono ?_
  rintro e w1 ⟨u2, u3, rfl, q2, q3, f1⟩
  have f1a := f1.alloc (.cells #[.string (mkS l), .int .i64 ((enc pp).length : Int), .string u2, .int .i64 ((enc pp.dropLast).length : Int), .string u3, .int .i64 ((lastS pp).length : Int), .int .i64 (pp.length : Int)] 45)
  clear hr q2 q3
  go_wp2_with fail
  go_ret2
  exact ⟨rfl, f1a⟩
set_option maxHeartbeats 1000000 in
set_option maxRecDepth 100000 in
theorem kids_many (w : World) (ad : Option Addr) (m c : Nat) (l : List UInt8) (pp : List (List Bool)) (L : Lab l pp) (hl : l.length = m) (hb : BytesAt w ad l) (hp : Plain ad) (n : Int) (hn : 16384 < n) :
    Calls Tryz.prog 25 #[.slice ad m c, .int .i64 n] w fun e w' => e = .returned (.tuple #[.slice none 0 0, .int .i64 2]) ∧ Fr [] w w' := by
  have hr := Hid.mk0 (read_yes w ad m c l pp L hl hb hp)
  have hn0 : ¬ n < 0 := by omega
  clear L hl hb hp
  go_enter Tryz.func25, Tryz.ntmps25
  go_wp2_with fail
  refine hr.out.mono ?_
  rintro e w1 ⟨u2, u3, rfl, q2, q3, f1⟩
  have f1a := f1.alloc (.cells #[.string (mkS l), .int .i64 ((enc pp).length : Int), .string u2, .int .i64 ((enc pp.dropLast).length : Int), .string u3, .int .i64 ((lastS pp).length : Int), .int .i64 (pp.length : Int)] 45)
  clear hr q2 q3
  go_wp2_with fail
  go_ret2
  exact ⟨rfl, f1a⟩
end Go.Proofs.YtddcilmeignlmaaGreatDoor

namespace Go.Proofs.YtddcilmeignlmaaGreatDoor
open Go.RowKit Go.Maps Go.Lib

theorem lab_empty {l : List UInt8} (L : Lab l []) : l = [] := by
  have h := L.rep.size
  have e : (enc ([] : List (List Bool))).length = 0 := rfl
  rw [e, mkS_size] at h
  exact List.eq_nil_of_length_eq_zero (by omega)
theorem snoc_of {ss pp : List (List Bool)} (h : ss.dropLast = pp) (hne : ss ≠ []) : ss = pp ++ [lastS ss] := by
  subst h
  unfold lastS
  rcases List.eq_nil_or_concat ss with e | ⟨t, x, rfl⟩
  · exact absurd e hne
  · simp
/-- what is no child: refused; whatever it is: an answer. -/
theorem under_no (w : World) (r : ByteArray) (n : Nat) (p : ByteArray) (k : Nat) (s : ByteArray) (j : Nat) (lev : Int) (ad : Option Addr) (m c : Nat) (l : List UInt8) (hl : l.length = m) (h0 : m ≠ 0) (hb : BytesAt w ad l) (hp : Plain ad) (hm : m < 9223372036854775808) (pp : List (List Bool)) (hR : Rep r n (enc pp)) (hpp : ∀ t ∈ pp, okS t) (hno : ∀ t, ¬ Lab l (pp ++ [t])) :
    Calls Tryz.prog 42 #[pv r n p k s j lev, .slice ad m c] w fun e w' => e = .returned (.tuple #[bv (mkS []) 0, .bool false]) ∧ Fr [] w w' := by
  by_cases h : ∃ ss, Lab l ss
  · obtain ⟨ss, L⟩ := h
    refine (under_yes w r n p k s j lev ad m c l ss L hl h0 hb hp pp hR hpp).mono ?_
    rintro e w' ⟨h1 | h1, f⟩
    · exfalso
      obtain ⟨u3, _, _, hd⟩ := h1
      by_cases hne : ss = []
      · subst hne
        rw [lab_empty L] at hl
        exact h0 hl.symm
      · rw [snoc_of hd hne] at L
        exact hno _ L
    · exact ⟨h1.1, f⟩
  · exact under_bad w r n p k s j lev ad m c l (fun ss L => h ⟨ss, L⟩) hl h0 hb hp hm
theorem under_some (w : World) (r : ByteArray) (n : Nat) (p : ByteArray) (k : Nat) (s : ByteArray) (j : Nat) (lev : Int) (ad : Option Addr) (m c : Nat) (l : List UInt8) (hl : l.length = m) (hb : BytesAt w ad l) (hp : Plain ad) (hm : m < 9223372036854775808) (pp : List (List Bool)) (hR : Rep r n (enc pp)) (hpp : ∀ t ∈ pp, okS t) :
    Calls Tryz.prog 42 #[pv r n p k s j lev, .slice ad m c] w fun e w' => ∃ (u : ByteArray) (q : Nat) (ok : Bool), e = .returned (.tuple #[bv u q, .bool ok]) ∧ Fr [] w w' := by
  by_cases h0 : m = 0
  · subst h0
    exact (under_none w r n p k s j lev ad c).mono fun e w' ⟨h, f⟩ => ⟨_, _, _, h, f⟩
  by_cases h : ∃ ss, Lab l ss
  · obtain ⟨ss, L⟩ := h
    refine (under_yes w r n p k s j lev ad m c l ss L hl h0 hb hp pp hR hpp).mono ?_
    rintro e w' ⟨⟨u3, h1, _⟩ | h1, f⟩
    · exact ⟨_, _, _, h1, f⟩
    · exact ⟨_, _, _, h1.1, f⟩
  · exact (under_bad w r n p k s j lev ad m c l (fun ss L => h ⟨ss, L⟩) hl h0 hb hp hm).mono fun e w' ⟨h, f⟩ => ⟨_, _, _, h, f⟩

set_option maxHeartbeats 1000000 in
set_option maxRecDepth 100000 in
theorem between_none (w : World) (a0 a1 a2 : Option Addr) (n0 n1 n2 c0 c1 c2 : Nat) (l0 : List UInt8) (hn : ∀ ss, ¬ Lab l0 ss) (h0 : l0.length = n0) (b0 : BytesAt w a0 l0) (p0 : Plain a0) (hm : n0 < 9223372036854775808) :
    Calls Tryz.prog 22 #[.slice a0 n0 c0, .slice a1 n1 c1, .slice a2 n2 c2] w fun e w' => e = .returned (.tuple #[.slice none 0 0, .int .i64 2]) ∧ Fr [] w w' := by
  have hr := Hid.mk0 (read_no w a0 n0 c0 l0 hn h0 b0 p0 hm)
  clear hn h0 b0 p0 hm
  go_enter Tryz.func22, Tryz.ntmps22
  go_wp2_with fail
  refine hr.out.mono ?_
  rintro e w1 ⟨rfl, f1⟩
  have f1a := f1.alloc (.cells #[.string (mkS []), .int .i64 0, .string (mkS []), .int .i64 0, .string (mkS []), .int .i64 0, .int .i64 0] 45)
  go_wp2_with fail
  go_ret2
  exact ⟨rfl, f1a⟩

set_option maxHeartbeats 4000000 in
set_option maxRecDepth 100000 in
/-- a is no child, or b is none, or they do not rise. -/
theorem between_no (w : World) (a0 a1 a2 : Option Addr) (n0 n1 n2 c0 c1 c2 : Nat) (l0 l1 l2 : List UInt8) (h0 : l0.length = n0) (h1 : l1.length = n1) (h2 : l2.length = n2) (b0 : BytesAt w a0 l0) (b1 : BytesAt w a1 l1) (b2 : BytesAt w a2 l2) (p0 : Plain a0) (p1 : Plain a1) (p2 : Plain a2)
    (pp : List (List Bool)) (L : Lab l0 pp) (m1 : n1 < 9223372036854775808) (m2 : n2 < 9223372036854775808) (hno : (n1 ≠ 0 ∧ ∀ t, ¬ Lab l1 (pp ++ [t])) ∨ (n2 ≠ 0 ∧ ∀ t, ¬ Lab l2 (pp ++ [t])) ∨ (n1 ≠ 0 ∧ n2 ≠ 0 ∧ ¬ compareBytes l1 l2 < 0)) :
    Calls Tryz.prog 22 #[.slice a0 n0 c0, .slice a1 n1 c1, .slice a2 n2 c2] w fun e w' => e = .returned (.tuple #[.slice none 0 0, .int .i64 2]) ∧ Fr [] w w' := by
  have hr := read_yes w a0 n0 c0 l0 pp L h0 b0 p0
  have HL : Hid (Lab l0 pp) := L
  have H1 : Hid (l1.length = n1) := h1
  have H2 : Hid (l2.length = n2) := h2
  have HN := Hid.mk0 hno
  have M1 := Hid.mk0 m1
  have M2 := Hid.mk0 m2
  clear L h0 h1 h2 hno m1 m2
  go_enter Tryz.func22, Tryz.ntmps22
  go_wp2_with fail
  refine hr.mono ?_
  rintro e w1 ⟨u2, u3, rfl, q2, q3, f1⟩
  have f1a := f1.alloc (.cells #[.string (mkS l0), .int .i64 ((enc pp).length : Int), .string u2, .int .i64 ((enc pp.dropLast).length : Int), .string u3, .int .i64 ((lastS pp).length : Int), .int .i64 (pp.length : Int)] 45)
  have pB : PBox (w1.alloc (.cells #[.string (mkS l0), .int .i64 ((enc pp).length : Int), .string u2, .int .i64 ((enc pp.dropLast).length : Int), .string u3, .int .i64 ((lastS pp).length : Int), .int .i64 (pp.length : Int)] 45)) w1.heap.size (mkS l0) (enc pp).length u2 (enc pp.dropLast).length u3 (lastS pp).length (pp.length : Int) := heap_alloc_new w1 _
  have hu1 : Calls Tryz.prog 42 #[pv (mkS l0) (enc pp).length u2 (enc pp.dropLast).length u3 (lastS pp).length (pp.length : Int), .slice a1 n1 c1] (w1.alloc (.cells #[.string (mkS l0), .int .i64 ((enc pp).length : Int), .string u2, .int .i64 ((enc pp.dropLast).length : Int), .string u3, .int .i64 ((lastS pp).length : Int), .int .i64 (pp.length : Int)] 45)) fun e w' => ∃ (u : ByteArray) (q : Nat) (ok : Bool), e = .returned (.tuple #[bv u q, .bool ok]) ∧ Hid (n1 ≠ 0 ∧ (∀ t, ¬ Lab l1 (pp ++ [t])) → ok = false) ∧ Fr [] (w1.alloc (.cells #[.string (mkS l0), .int .i64 ((enc pp).length : Int), .string u2, .int .i64 ((enc pp.dropLast).length : Int), .string u3, .int .i64 ((lastS pp).length : Int), .int .i64 (pp.length : Int)] 45)) w' := by
    by_cases hq : n1 ≠ 0 ∧ (∀ t, ¬ Lab l1 (pp ++ [t]))
    · exact (under_no _ (mkS l0) (enc pp).length u2 (enc pp.dropLast).length u3 (lastS pp).length (pp.length : Int) a1 n1 c1 l1 H1.out hq.1 (b1.kept f1a (by simp)) p1 M1.out pp HL.out.rep HL.out.ok hq.2).mono fun e w' ⟨h, f⟩ => ⟨_, _, _, h, fun _ => rfl, f⟩
    · exact (under_some _ (mkS l0) (enc pp).length u2 (enc pp.dropLast).length u3 (lastS pp).length (pp.length : Int) a1 n1 c1 l1 H1.out (b1.kept f1a (by simp)) p1 M1.out pp HL.out.rep HL.out.ok).mono fun e w' ⟨u, q, ok, h, f⟩ => ⟨u, q, ok, h, fun x => absurd x hq, f⟩
  clear hr
  go_wp2_with fail
  refine hu1.mono ?_
  rintro e w2 ⟨u4, k4, ok4, rfl, HO4, f2⟩
  have pB2 := pB.kept f2 (by simp)
  have g2 := f1a.trans f2
  have fL : Fr [] w2 (w2.alloc (.cells #[.string u4, .int .i64 (k4 : Int)] 43)) := (Fr.refl _ _).alloc _
  have g3 := g2.trans fL
  have e0 := pB2.c0
  have e1 := pB2.c1
  have e2 := pB2.c2
  have e3 := pB2.c3
  have e4 := pB2.c4
  have e5 := pB2.c5
  have e6 := pB2.c6
  have hlt2 := pB2.lt
  have hu2 : Calls Tryz.prog 42 #[pv (mkS l0) (enc pp).length u2 (enc pp.dropLast).length u3 (lastS pp).length (pp.length : Int), .slice a2 n2 c2] (w2.alloc (.cells #[.string u4, .int .i64 (k4 : Int)] 43)) fun e w' => ∃ (u : ByteArray) (q : Nat) (ok : Bool), e = .returned (.tuple #[bv u q, .bool ok]) ∧ Hid (n2 ≠ 0 ∧ (∀ t, ¬ Lab l2 (pp ++ [t])) → ok = false) ∧ Fr [] (w2.alloc (.cells #[.string u4, .int .i64 (k4 : Int)] 43)) w' := by
    by_cases hq : n2 ≠ 0 ∧ (∀ t, ¬ Lab l2 (pp ++ [t]))
    · exact (under_no _ (mkS l0) (enc pp).length u2 (enc pp.dropLast).length u3 (lastS pp).length (pp.length : Int) a2 n2 c2 l2 H2.out hq.1 (b2.kept g3 (by simp)) p2 M2.out pp HL.out.rep HL.out.ok hq.2).mono fun e w' ⟨h, f⟩ => ⟨_, _, _, h, fun _ => rfl, f⟩
    · exact (under_some _ (mkS l0) (enc pp).length u2 (enc pp.dropLast).length u3 (lastS pp).length (pp.length : Int) a2 n2 c2 l2 H2.out (b2.kept g3 (by simp)) p2 M2.out pp HL.out.rep HL.out.ok).mono fun e w' ⟨u, q, ok, h, f⟩ => ⟨u, q, ok, h, fun x => absurd x hq, f⟩
  clear hu1 pB f1a f1 fL f2 g2 pB2
  generalize w1.heap.size = BP at *
  go_wp2_with fail
  refine hu2.mono ?_
  rintro e w3 ⟨u5, k5, ok5, rfl, HO5, f3⟩
  have g4 := g3.trans f3
  have fH : Fr [] w3 (w3.alloc (.cells #[.string u5, .int .i64 (k5 : Int)] 43)) := (Fr.refl _ _).alloc _
  have g5 := g4.trans fH
  have hcm := Hid.mk0 (compareL_any _ a1 a2 n1 n2 c1 c2 l1 l2 H1.out H2.out (b1.kept g5 (by simp)) (b2.kept g5 (by simp)))
  clear hu2 g3 g4 fH f3 e0 e1 e2 e3 e4 e5 e6 hlt2 b0 b1 b2 q2 q3
  have HCL : Hid (ok4 = true → ok5 = true → n1 ≠ 0 ∧ n2 ≠ 0 ∧ ¬ compareBytes l1 l2 < 0) := fun h4 h5 => by
    rcases HN.out with h | h | h
    · have := HO4.out h; rw [h4] at this; cases this
    · have := HO5.out h; rw [h5] at this; cases this
    · exact ⟨h.1, h.2.1, by have := h.2.2; omega⟩
  clear HO4 HO5 HN
  cases ok4 with
  | false =>
    go_wp2_with fail
    go_ret2
    exact ⟨rfl, g5⟩
  | true =>
    cases ok5 with
    | false =>
      go_wp2_with fail
      go_ret2
      exact ⟨rfl, g5⟩
    | true =>
      obtain ⟨z1, z2, hcv⟩ := HCL.out rfl rfl
      have z1' : 0 < n1 := by omega
      have z2' : 0 < n2 := by omega
      clear z1 z2
      generalize compareBytes l1 l2 = cv at hcm hcv
      go_wp2_with (go_at_call 17; refine hcm.out.mono ?_; rintro e w9 ⟨rfl, rfl⟩)
      go_ret2
      exact ⟨rfl, g5⟩
end Go.Proofs.YtddcilmeignlmaaGreatDoor

namespace Go.Proofs.YtddcilmeignlmaaGreatDoor
open Go.RowKit Go.Maps Go.Lib

theorem out_nil (w w' : World) : Out w w' (.slice none 0 0) [] := ⟨none, 0, rfl, World.ownsRow_nil _ _ _ _⟩
theorem lab128 {l : List UInt8} {ss : List (List Bool)} (L : Lab l ss) : l.length ≤ 100000 := by have := lab_len L; omega

theorem parent_out (w : World) (ad : Option Addr) (m c : Nat) (l : List UInt8) (hl : l.length = m) (hb : BytesAt w ad l) (hp : Plain ad) (hm : m < 9223372036854775808) :
    Calls Tryz.prog 8 #[.slice ad m c] w fun e w' => ∃ v b l', e = .returned (.tuple #[v, .bool b]) ∧ Out w w' v l' ∧ l'.length ≤ 100000 ∧ Fr [] w w' := by
  by_cases h : ∃ ss, Lab l ss
  · obtain ⟨ss, L⟩ := h
    by_cases hne : ss = []
    · subst hne
      exact (parent_root w ad m c l L hl hb hp).mono fun e w' ⟨h1, f⟩ => ⟨_, _, [], h1, out_nil _ _, by simp, f⟩
    · exact (parent_yes w ad m c l ss L hl hb hp hne).mono fun e w' ⟨v, l', h1, L', o, f⟩ => ⟨v, _, l', h1, o, lab128 L', f⟩
  · exact (parent_none w ad m c l (fun ss L => h ⟨ss, L⟩) hl hb hp hm).mono fun e w' ⟨h1, f⟩ => ⟨_, _, [], h1, out_nil _ _, by simp, f⟩

theorem between_out (w : World) (ad : Option Addr) (m c : Nat) (l : List UInt8) (hl : l.length = m) (hb : BytesAt w ad l) (hp : Plain ad) (hm : m < 9223372036854775808) :
    Calls Tryz.prog 22 #[.slice ad m c, .slice none 0 0, .slice none 0 0] w fun e w' => ∃ v en l', e = .returned (.tuple #[v, .int .i64 en]) ∧ Out w w' v l' ∧ l'.length ≤ 100000 ∧ Fr [] w w' := by
  by_cases h : ∃ ss, Lab l ss
  · obtain ⟨ss, L⟩ := h
    obtain ⟨k, hk1, hk2⟩ := parts_ex [] []
    refine (between_ok w ad none none m 0 0 c 0 0 l [] [] hl rfl rfl hb (BytesAt.nil _ _) (BytesAt.nil _ _) hp (Or.inl rfl) (Or.inl rfl) ss L [] [] (Or.inl ⟨rfl, rfl⟩) (Or.inl ⟨rfl, rfl⟩) (fun h => absurd rfl h) k hk2 (by simp at hk1; omega)).mono ?_
    rintro e w' ⟨v, en, h1, h2, f⟩
    rcases h2 with ⟨_, l', L', o⟩ | ⟨_, rfl, _⟩
    · exact ⟨v, en, l', h1, o, lab128 L', f⟩
    · exact ⟨_, en, [], h1, out_nil _ _, by simp, f⟩
  · exact (between_none w ad none none m 0 0 c 0 0 l (fun ss L => h ⟨ss, L⟩) hl hb hp hm).mono fun e w' ⟨h1, f⟩ => ⟨_, _, [], h1, out_nil _ _, by simp, f⟩

theorem end_len {l' : List UInt8} {ss : List (List Bool)} {l : List UInt8} (L : Lab l ss) (h : Rep (mkS l') (endR ss).length (endR ss)) : l'.length ≤ 100000 := by
  have h1 := h.size
  have h2 := h.most
  rw [mkS_size] at h1
  have h3 := L.most
  have h4 : (endR ss).length ≤ (enc ss).length + 1 := by unfold endR; simp
  omega
theorem after_out (w : World) (ad : Option Addr) (m c : Nat) (l : List UInt8) (hl : l.length = m) (hb : BytesAt w ad l) (hp : Plain ad) (hm : m < 9223372036854775808) :
    Calls Tryz.prog 15 #[.slice ad m c] w fun e w' => ∃ v l', e = .returned v ∧ Out w w' v l' ∧ l'.length ≤ 100000 ∧ Fr [] w w' := by
  by_cases h : ∃ ss, Lab l ss
  · obtain ⟨ss, L⟩ := h
    by_cases hne : ss = []
    · subst hne
      exact (after_root w ad m c l L hl hb hp).mono fun e w' ⟨h1, f⟩ => ⟨_, [], h1, out_nil _ _, by simp, f⟩
    · exact (after_yes w ad m c l ss L hl hb hp hne).mono fun e w' ⟨v, l', h1, R, o, f⟩ => ⟨v, l', h1, o, end_len L R, f⟩
  · exact (after_none w ad m c l (fun ss L => h ⟨ss, L⟩) hl hb hp hm).mono fun e w' ⟨h1, f⟩ => ⟨_, [], h1, out_nil _ _, by simp, f⟩

/-- A row of new lists, each behind the one ahead of it. -/
structure KOut (w wr : World) (v : Value) (n : Nat) (xs : List Value) : Prop where
  own : wr.ownsRow 0 22 1 v n xs
  new : ∀ g, v.ownBlock = some g → w.heap.size ≤ g
  fr : Fr [] w wr
  kids : ∀ i, i < n → ∃ x l, xs[i]? = some x ∧ l.length ≤ 100000 ∧ Out w wr x l
  rise : ∀ (i j : Nat) (x y : Value) (g h : Nat), i < j → xs[i]? = some x → xs[j]? = some y → x.ownBlock = some g → y.ownBlock = some h → g < h
theorem kout_nil {w wr : World} (f : Fr [] w wr) : KOut w wr (.slice none 0 0) 0 [] := ⟨World.ownsRow_nil _ _ _ _, fun g hg => by simp [Value.ownBlock] at hg, f, fun i hi => by omega, fun i j x y g h _ hx => by simp at hx⟩
theorem kids_out (w : World) (hL : Laid w) (ad : Option Addr) (m c : Nat) (l : List UInt8) (hl : l.length = m) (hb : BytesAt w ad l) (hp : Plain ad) (hm : m < 9223372036854775808) (n : Nat) (hn : n ≤ 8) :
    Calls Tryz.prog 25 #[.slice ad m c, .int .i64 (n : Int)] w fun e w' => ∃ v en k xs, e = .returned (.tuple #[v, .int .i64 en]) ∧ k ≤ 8 ∧ KOut w w' v k xs := by
  by_cases h : ∃ ss, Lab l ss
  · obtain ⟨ss, L⟩ := h
    obtain ⟨k, hk⟩ := top_ex n
    refine (kids_ok w hL ad m c l ss L hl hb hp n k (by omega) hk).mono ?_
    rintro e w' (⟨v, xs, h1, K⟩ | ⟨i, _, h1, _, f⟩)
    · exact ⟨v, _, n, xs, h1, hn, K.own, K.new, K.fr, (fun i hi => by obtain ⟨x, l', e1, e2, e3⟩ := K.kids i hi; exact ⟨x, l', e1, lab128 e2, e3⟩), K.rise⟩
    · exact ⟨_, _, 0, [], h1, by omega, kout_nil f⟩
  · exact (kids_none w ad m c l (fun ss L => h ⟨ss, L⟩) hl hb hp hm n).mono fun e w' ⟨h1, f⟩ => ⟨_, _, 0, [], h1, by omega, kout_nil f⟩

end Go.Proofs.YtddcilmeignlmaaGreatDoor

