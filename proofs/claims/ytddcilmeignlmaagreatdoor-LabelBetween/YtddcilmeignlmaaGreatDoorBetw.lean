/-
  Labels: Between.
-/
import Derived.Test.YtddcilmeignlmaaGreatDoorKid
import Derived.Deep.RegionHeld3
namespace Go.Proofs.YtddcilmeignlmaaGreatDoor
open Go.RowKit Go.Maps Go.Lib

theorem leastN (P : Nat → Prop) : ∀ n, P n → ∃ k, k ≤ n ∧ P k ∧ ∀ i, i < k → ¬ P i := by
  intro n
  induction n using Nat.strongRecOn with
  | ind n ih =>
    intro h
    by_cases hh : ∃ m, m < n ∧ P m
    · obtain ⟨m, hm, hp⟩ := hh
      obtain ⟨k, h1, h2, h3⟩ := ih m hm hp
      exact ⟨k, by omega, h2, h3⟩
    · exact ⟨n, Nat.le_refl _, h, fun i hi hp => hh ⟨i, hi, hp⟩⟩
theorem parts_ex (lo up : List Bool) : ∃ k, k ≤ max lo.length up.length ∧ Parts lo up k := by
  obtain ⟨k, h1, h2, h3⟩ := leastN (fun k => lo.getD k false ≠ belowB up k) (max lo.length up.length) (by
    have h1 : lo.getD (max lo.length up.length) false = false := by
      rw [List.getD_eq_getElem?_getD, List.getElem?_eq_none (by omega)]
      rfl
    have h2 : belowB up (max lo.length up.length) = true := by
      unfold belowB
      rw [if_neg (by omega), if_pos (by omega)]
    rw [h1, h2]
    decide)
  exact ⟨k, h1, ⟨fun i hi => by
    by_cases e : lo.getD i false = belowB up i
    · exact e
    · exact absurd e (h3 i hi), h2⟩⟩

theorem under_ok (w : World) (r : ByteArray) (n : Nat) (p : ByteArray) (k : Nat) (s : ByteArray) (j : Nat) (lev : Int) (ad : Option Addr) (m c : Nat) (l : List UInt8) (lo : List Bool) (pp : List (List Bool)) (hl : l.length = m) (h : (m = 0 ∧ lo = []) ∨ (m ≠ 0 ∧ Lab l (pp ++ [lo]))) (hb : BytesAt w ad l) (hp : Plain ad) (hR : Rep r n (enc pp)) (hpp : ∀ t ∈ pp, okS t) :
    Calls Tryz.prog 42 #[pv r n p k s j lev, .slice ad m c] w fun e w' => ∃ u, e = .returned (.tuple #[bv u lo.length, .bool true]) ∧ Rep u lo.length lo ∧ Fr [] w w' := by
  rcases h with ⟨rfl, rfl⟩ | ⟨h0, L⟩
  · refine (under_none w r n p k s j lev ad c).mono ?_
    rintro e w' ⟨rfl, f⟩
    exact ⟨_, rfl, Rep.empty, f⟩
  · refine (under_yes w r n p k s j lev ad m c l _ L hl h0 hb hp pp hR hpp).mono ?_
    rintro e w' ⟨h, f⟩
    rw [lastS_snoc, List.dropLast_concat] at h
    rcases h with ⟨u, rfl, hu, _⟩ | ⟨_, hne⟩
    · exact ⟨u, rfl, hu, f⟩
    · exact absurd rfl hne

theorem okS_true (s : List Bool) : okS (s ++ [true]) := by simp [okS]
theorem child_one (w : World) (r : ByteArray) (n : Nat) (pp : List (List Bool)) (hR : Rep r n (enc pp)) (hpp : ∀ t ∈ pp, okS t) (hn : n ≤ 1024) (s : List Bool) (hs : okS s) (hl : s.length ≤ 2000) :
    Calls Tryz.prog 43 #[bv r n, .string (mkS (txt s))] w fun e w' => ∃ (v : Value) (en : Int), e = .returned (.tuple #[v, .int .i64 en]) ∧ ((en = 0 ∧ ∃ l, Lab l (pp ++ [s]) ∧ Out w w' v l) ∨ (en = 140 ∧ v = .slice none 0 0 ∧ 1024 < (enc (pp ++ [s])).length)) ∧ Fr [] w w' := by
  refine (child_any w r n pp hR hpp hn s hs hl).mono ?_
  rintro e w' ⟨h, f⟩
  rcases h with ⟨v, l, rfl, hL, hO⟩ | ⟨rfl, hm⟩
  · exact ⟨v, 0, rfl, Or.inl ⟨rfl, l, hL, hO⟩, f⟩
  · exact ⟨_, 140, rfl, Or.inr ⟨rfl, rfl, hm⟩, f⟩

set_option maxHeartbeats 2000000 in
set_option maxRecDepth 100000 in
theorem between_ok (w : World) (a0 a1 a2 : Option Addr) (n0 n1 n2 c0 c1 c2 : Nat) (l0 l1 l2 : List UInt8) (h0 : l0.length = n0) (h1 : l1.length = n1) (h2 : l2.length = n2) (b0 : BytesAt w a0 l0) (b1 : BytesAt w a1 l1) (b2 : BytesAt w a2 l2) (p0 : Plain a0) (p1 : Plain a1) (p2 : Plain a2)
    (pp : List (List Bool)) (L : Lab l0 pp) (lo up : List Bool) (hlo : (n1 = 0 ∧ lo = []) ∨ (n1 ≠ 0 ∧ Lab l1 (pp ++ [lo]))) (hup : (n2 = 0 ∧ up = []) ∨ (n2 ≠ 0 ∧ Lab l2 (pp ++ [up]))) (hlt : n1 ≠ 0 → n2 ≠ 0 → compareBytes l1 l2 < 0) (k : Nat) (hk : Parts lo up k) (hk2 : k ≤ 1900) :
    Calls Tryz.prog 22 #[.slice a0 n0 c0, .slice a1 n1 c1, .slice a2 n2 c2] w fun e w' => ∃ (v : Value) (en : Int), e = .returned (.tuple #[v, .int .i64 en]) ∧ ((en = 0 ∧ ∃ l, Lab l (pp ++ [preS lo k ++ [true]]) ∧ Out w w' v l) ∨ (en = 140 ∧ v = .slice none 0 0 ∧ 1024 < (enc (pp ++ [preS lo k ++ [true]])).length)) ∧ Fr [] w w' := by
  have hr := read_yes w a0 n0 c0 l0 pp L h0 b0 p0
  have HL : Hid (Lab l0 pp) := L
  have HP : Hid (Parts lo up k) := hk
  have HA : Hid ((n1 = 0 ∧ lo = []) ∨ (n1 ≠ 0 ∧ Lab l1 (pp ++ [lo]))) := hlo
  have HB : Hid ((n2 = 0 ∧ up = []) ∨ (n2 ≠ 0 ∧ Lab l2 (pp ++ [up]))) := hup
  have HC : Hid (n1 ≠ 0 → n2 ≠ 0 → compareBytes l1 l2 < 0) := hlt
  have H1 : Hid (l1.length = n1) := h1
  have H2 : Hid (l2.length = n2) := h2
  have hs1 : n1 ≤ 128 := by
    rcases hlo with ⟨e, _⟩ | ⟨_, L1⟩
    · omega
    · have := lab_len L1; omega
  have hs2 : n2 ≤ 128 := by
    rcases hup with ⟨e, _⟩ | ⟨_, L2⟩
    · omega
    · have := lab_len L2; omega
  clear L hk hlo hup hlt h0 h1 h2
  go_enter Tryz.func22, Tryz.ntmps22
  go_wp2_with fail
  refine hr.mono ?_
  rintro e w1 ⟨u2, u3, rfl, q2, q3, f1⟩
  have f1a := f1.alloc (.cells #[.string (mkS l0), .int .i64 ((enc pp).length : Int), .string u2, .int .i64 ((enc pp.dropLast).length : Int), .string u3, .int .i64 ((lastS pp).length : Int), .int .i64 (pp.length : Int)] 45)
  have pB : PBox (w1.alloc (.cells #[.string (mkS l0), .int .i64 ((enc pp).length : Int), .string u2, .int .i64 ((enc pp.dropLast).length : Int), .string u3, .int .i64 ((lastS pp).length : Int), .int .i64 (pp.length : Int)] 45)) w1.heap.size (mkS l0) (enc pp).length u2 (enc pp.dropLast).length u3 (lastS pp).length (pp.length : Int) := heap_alloc_new w1 _
  have hu1 := under_ok (w1.alloc (.cells #[.string (mkS l0), .int .i64 ((enc pp).length : Int), .string u2, .int .i64 ((enc pp.dropLast).length : Int), .string u3, .int .i64 ((lastS pp).length : Int), .int .i64 (pp.length : Int)] 45)) (mkS l0) (enc pp).length u2 (enc pp.dropLast).length u3 (lastS pp).length (pp.length : Int) a1 n1 c1 l1 lo pp H1.out HA.out (b1.kept f1a (by simp)) p1 HL.out.rep HL.out.ok
  clear hr
  go_wp2_with fail
  refine hu1.mono ?_
  rintro e w2 ⟨u4, rfl, r4, f2⟩
  have pB2 := pB.kept f2 (by simp)
  have g2 := f1a.trans f2
  have bL := Box.new w2 u4 lo.length
  have fL : Fr [] w2 (w2.alloc (.cells #[.string u4, .int .i64 (lo.length : Int)] 43)) := (Fr.refl _ _).alloc _
  have pB3 := pB2.kept fL (by simp)
  have g3 := g2.trans fL
  have e0 := pB2.c0
  have e1 := pB2.c1
  have e2 := pB2.c2
  have e3 := pB2.c3
  have e4 := pB2.c4
  have e5 := pB2.c5
  have e6 := pB2.c6
  have hlt2 := pB2.lt
  have hu2 := under_ok (w2.alloc (.cells #[.string u4, .int .i64 (lo.length : Int)] 43)) (mkS l0) (enc pp).length u2 (enc pp.dropLast).length u3 (lastS pp).length (pp.length : Int) a2 n2 c2 l2 up pp H2.out HB.out (b2.kept g3 (by simp)) p2 HL.out.rep HL.out.ok
  clear hu1 pB f1a f1 fL f2 g2 pB2
  generalize w1.heap.size = BP at *
  go_wp2_with fail
  refine hu2.mono ?_
  rintro e w3 ⟨u5, rfl, r5, f3⟩
  have pB4 := pB3.kept f3 (by simp)
  have bL3 := bL.kept f3 (by simp)
  have g4 := g3.trans f3
  have fH : Fr [] w3 (w3.alloc (.cells #[.string u5, .int .i64 (up.length : Int)] 43)) := (Fr.refl _ _).alloc _
  have bH := Box.new w3 u5 up.length
  have pB5 := pB4.kept fH (by simp)
  have bL5 := bL3.kept fH (by simp)
  have g5 := g4.trans fH
  clear hu2 pB3 pB4 bL bL3 g3 g4 fH f3 e0 e1 e2 e3 e4 e5 e6 hlt2
  obtain ⟨W0, hW0⟩ : ∃ W0, W0 = w3.alloc (.cells #[.string u5, .int .i64 (up.length : Int)] 43) := ⟨_, rfl⟩
  rw [← hW0] at bH pB5 bL5 g5
  have hcm := compareL_any W0 a1 a2 n1 n2 c1 c2 l1 l2 H1.out H2.out (b1.kept g5 (by simp)) (b2.kept g5 (by simp))
  rw [hW0] at hcm
  have gg : Fr [] W0 (w3.alloc (.cells #[.string u5, .int .i64 (up.length : Int)] 43)).drew := (by rw [hW0]; exact (Fr.refl _ _).drew)
  obtain ⟨BL, hBL⟩ : ∃ BL, BL = w2.heap.size := ⟨_, rfl⟩
  obtain ⟨BH, hBH⟩ : ∃ BH, BH = w3.heap.size := ⟨_, rfl⟩
  rw [← hBL] at bL5
  rw [← hBH] at bH
  have SK : Hid (∀ w', Fr [] W0 w' → (w'.cell? ⟨BP, 0, none⟩ = some (.string (mkS l0)) ∧ w'.cell? ⟨BP, 1, none⟩ = some (.int .i64 ((enc pp).length : Int))) ∧ (w'.cell? ⟨BL, 0, none⟩ = some (.string u4) ∧ w'.cell? ⟨BL, 1, none⟩ = some (.int .i64 (lo.length : Int))) ∧ (w'.cell? ⟨BH, 0, none⟩ = some (.string u5) ∧ w'.cell? ⟨BH, 1, none⟩ = some (.int .i64 (up.length : Int)))) := (fun w' g => ⟨⟨(pB5.kept g (by simp)).c0, (pB5.kept g (by simp)).c1⟩, ⟨(bL5.kept g (by simp)).c0, (bL5.kept g (by simp)).c1⟩, (bH.kept g (by simp)).c0, (bH.kept g (by simp)).c1⟩)
  have GG : Hid (Fr [] w W0) := g5
  have HCV : Hid (n1 ≠ 0 → n2 ≠ 0 → compareBytes l1 l2 < 0) := HC
  clear HC pB5 bL5 bH g5 b0 b1 b2 q2 q3
  by_cases z1 : n1 = 0
  · have z1' : ¬ 0 < n1 := by omega
    go_wp2_with fail
    rw [← hBL, ← hBH]
    clear hBL hBH hcm
    have HW0 : Hid (W0 = w3.alloc (.cells #[.string u5, .int .i64 (up.length : Int)] 43)) := hW0
    clear hW0
    go_region_held3 (fun w' => (w'.cell? ⟨BP, 0, none⟩ = some (.string (mkS l0)) ∧ w'.cell? ⟨BP, 1, none⟩ = some (.int .i64 ((enc pp).length : Int))) ∧ (w'.cell? ⟨BL, 0, none⟩ = some (.string u4) ∧ w'.cell? ⟨BL, 1, none⟩ = some (.int .i64 (lo.length : Int))) ∧ (w'.cell? ⟨BH, 0, none⟩ = some (.string u5) ∧ w'.cell? ⟨BH, 1, none⟩ = some (.int .i64 (up.length : Int)))) (exact SK.out _ gg)
      ((first | (go_at_call 44; refine (stepBetween_any _ u4 u5 lo.length up.length lo up r4 r5 k HP.out (by omega)).mono ?_; rintro e w5 ⟨rfl, f5⟩; replace gg := gg.trans f5) | (go_at_call 43; refine (child_one _ (mkS l0) (enc pp).length pp HL.out.rep HL.out.ok HL.out.most (preS lo k ++ [true]) (okS_true _) (by rw [List.length_append, preS_length]; simp; omega)).mono ?_; rintro e w6 ⟨v6, en, rfl, hd6, f6⟩; have gg0 := gg; replace gg := gg.trans f6)))
    all_goals go_wp2
    all_goals go_ret2
    all_goals exact ⟨v6, en, rfl, hd6.imp (fun ⟨h, l, hL, hO⟩ => ⟨h, l, hL, hO.from (GG.out.trans gg0)⟩) id, GG.out.trans gg⟩
  · by_cases z2 : n2 = 0
    · have z1' : 0 < n1 := by omega
      have z2' : ¬ 0 < n2 := by omega
      go_wp2_with fail
      rw [← hBL, ← hBH]
      clear hBL hBH hcm
      have HW0 : Hid (W0 = w3.alloc (.cells #[.string u5, .int .i64 (up.length : Int)] 43)) := hW0
      clear hW0
      go_region_held3 (fun w' => (w'.cell? ⟨BP, 0, none⟩ = some (.string (mkS l0)) ∧ w'.cell? ⟨BP, 1, none⟩ = some (.int .i64 ((enc pp).length : Int))) ∧ (w'.cell? ⟨BL, 0, none⟩ = some (.string u4) ∧ w'.cell? ⟨BL, 1, none⟩ = some (.int .i64 (lo.length : Int))) ∧ (w'.cell? ⟨BH, 0, none⟩ = some (.string u5) ∧ w'.cell? ⟨BH, 1, none⟩ = some (.int .i64 (up.length : Int)))) (exact SK.out _ gg)
        ((first | (go_at_call 44; refine (stepBetween_any _ u4 u5 lo.length up.length lo up r4 r5 k HP.out (by omega)).mono ?_; rintro e w5 ⟨rfl, f5⟩; replace gg := gg.trans f5) | (go_at_call 43; refine (child_one _ (mkS l0) (enc pp).length pp HL.out.rep HL.out.ok HL.out.most (preS lo k ++ [true]) (okS_true _) (by rw [List.length_append, preS_length]; simp; omega)).mono ?_; rintro e w6 ⟨v6, en, rfl, hd6, f6⟩; have gg0 := gg; replace gg := gg.trans f6)))
      all_goals go_wp2
      all_goals go_ret2
      all_goals exact ⟨v6, en, rfl, hd6.imp (fun ⟨h, l, hL, hO⟩ => ⟨h, l, hL, hO.from (GG.out.trans gg0)⟩) id, GG.out.trans gg⟩
    · have z1' : 0 < n1 := by omega
      have z2' : 0 < n2 := by omega
      have hcv := HCV.out z1 z2
      generalize compareBytes l1 l2 = cv at hcm hcv
      go_wp2_with (go_at_call 17; refine hcm.mono ?_; rintro e w9 ⟨rfl, rfl⟩)
      rw [← hBL, ← hBH]
      clear hBL hBH hcm
      have HW0 : Hid (W0 = w3.alloc (.cells #[.string u5, .int .i64 (up.length : Int)] 43)) := hW0
      clear hW0
      go_region_held3 (fun w' => (w'.cell? ⟨BP, 0, none⟩ = some (.string (mkS l0)) ∧ w'.cell? ⟨BP, 1, none⟩ = some (.int .i64 ((enc pp).length : Int))) ∧ (w'.cell? ⟨BL, 0, none⟩ = some (.string u4) ∧ w'.cell? ⟨BL, 1, none⟩ = some (.int .i64 (lo.length : Int))) ∧ (w'.cell? ⟨BH, 0, none⟩ = some (.string u5) ∧ w'.cell? ⟨BH, 1, none⟩ = some (.int .i64 (up.length : Int)))) (exact SK.out _ gg)
        ((first | (go_at_call 44; refine (stepBetween_any _ u4 u5 lo.length up.length lo up r4 r5 k HP.out (by omega)).mono ?_; rintro e w5 ⟨rfl, f5⟩; replace gg := gg.trans f5) | (go_at_call 43; refine (child_one _ (mkS l0) (enc pp).length pp HL.out.rep HL.out.ok HL.out.most (preS lo k ++ [true]) (okS_true _) (by rw [List.length_append, preS_length]; simp; omega)).mono ?_; rintro e w6 ⟨v6, en, rfl, hd6, f6⟩; have gg0 := gg; replace gg := gg.trans f6)))
      all_goals go_wp2
      all_goals go_ret2
      all_goals exact ⟨v6, en, rfl, hd6.imp (fun ⟨h, l, hL, hO⟩ => ⟨h, l, hL, hO.from (GG.out.trans gg0)⟩) id, GG.out.trans gg⟩

end Go.Proofs.YtddcilmeignlmaaGreatDoor
