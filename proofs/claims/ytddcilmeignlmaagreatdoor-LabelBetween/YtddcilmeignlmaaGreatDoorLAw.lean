/-
  Labels: awake: a label has children, and one between two of them.
-/
import Derived.Test.YtddcilmeignlmaaGreatDoorLIns
namespace Go.Proofs.YtddcilmeignlmaaGreatDoor
open Go.RowKit Go.Maps Go.Lib

theorem Out.use {w w' : World} {v : Value} {l : List UInt8} (h : Out w w' v l) : ∃ ad cap, v = .slice ad l.length cap ∧ BytesAt w' ad l ∧ Plain ad := by
  obtain ⟨ad, cap, e, h1⟩ := h
  refine ⟨ad, cap, e, ?_, ?_⟩
  · intro j u hu
    have hlen : (arr l).toList.length = l.length := by simp [arr]
    have hj : j < l.length := by have := (List.getElem?_eq_some_iff.1 hu).1; omega
    rcases h1.2 with ⟨e, e2⟩ | ⟨g, c, cur, e, _, hg, hnc, _, hcs, ht⟩
    · omega
    · cases e
      refine ⟨g, 0, rfl, ?_⟩
      rw [Nat.zero_add, cell_of_row w' g j _ _ _ hg]
      rw [← ht, List.getElem?_take, if_pos (by omega)] at hu
      simpa using hu
  · rcases h1.2 with ⟨e, e2⟩ | ⟨g, c, cur, e, _⟩
    · injection e with e1
      exact Or.inl e1
    · injection e with e1
      exact Or.inr ⟨g, 0, e1⟩

theorem lab_one (b : UInt8) (ss : List (List Bool)) (h1 : ∀ s ∈ ss, okS s) (h2 : (enc ss).length ≤ 8) (h0 : 0 < (enc ss).length) (h3 : ∀ i, i < 8 → bitAt [b] i = (enc ss).getD i false) : Lab [b] ss :=
  ⟨h1, by omega, Rep.of (by omega) (by simp; omega) (fun i hi => h3 i (by simpa using hi))⟩
theorem lab_nil : Lab [] [] := ⟨by simp, by simp [enc], Rep.of (by simp [enc]) (by simp [enc]) (fun i hi => by simp at hi)⟩
theorem eight {P : Nat → Prop} (h : ∀ i : Fin 8, P i.val) : ∀ i, i < 8 → P i := fun i hi => h ⟨i, hi⟩
theorem ok1 {s : List Bool} (h : okS s) : ∀ t ∈ [s], okS t := fun t ht => by simp at ht; subst ht; exact h
theorem lab176 : Lab [176] [[false, true]] := lab_one _ _ (ok1 rfl) (by decide) (by decide) (eight (by decide))
theorem lab192 : Lab [192] [[true]] := lab_one _ _ (ok1 rfl) (by decide) (by decide) (eight (by decide))
theorem lab240 : Lab [240] [[true, true]] := lab_one _ _ (ok1 rfl) (by decide) (by decide) (eight (by decide))
theorem lab188 : Lab [188] [[false, true, true]] := lab_one _ _ (ok1 rfl) (by decide) (by decide) (eight (by decide))
theorem few3 : ∀ i : Fin 3, (enc ([] ++ [kidS (1 + 1) (i.val + 1)])).length ≤ 1024 := by decide
theorem part2 : Parts [false, true] [true] 2 := ⟨fun i hi => by
    rcases (by omega : i = 0 ∨ i = 1) with rfl | rfl <;> decide, by decide⟩

theorem aw_kids (w : World) (hL : Laid w) :
    Calls Tryz.prog 25 #[.slice none 0 0, .int .i64 3] w fun e w' => ∃ g cap a0 a1 a2 c0 c1 c2, e = .returned (.tuple #[.slice (some ⟨g, 0, none⟩) 3 cap, .int .i64 0]) ∧ (w'.cell? ⟨g, 0, none⟩ = some (.slice a0 1 c0) ∧ w'.cell? ⟨g, 1, none⟩ = some (.slice a1 1 c1) ∧ w'.cell? ⟨g, 2, none⟩ = some (.slice a2 1 c2)) ∧ (BytesAt w' a0 [176] ∧ BytesAt w' a1 [192] ∧ BytesAt w' a2 [240]) ∧ (Plain a0 ∧ Plain a1) ∧ Fr [] w w' := by
  refine (kids_ok w hL none 0 0 [] [] lab_nil rfl (BytesAt.nil _ _) (Or.inl rfl) 3 1 (by omega) (by decide)).mono ?_
  rintro e w' (⟨v, xs, rfl, K⟩ | ⟨i, hi, _, h, _⟩)
  · have hx : ∀ i, i < 3 → ∃ l, Lab l ([] ++ [kidS (1 + 1) (i + 1)]) ∧ ∃ ad cap, xs[i]? = some (.slice ad l.length cap) ∧ BytesAt w' ad l ∧ Plain ad := fun i hi => by
      obtain ⟨x, l, h1, h2, h3⟩ := K.kids i hi
      obtain ⟨ad, cap, rfl, h4, h5⟩ := h3.use
      exact ⟨l, h2, ad, cap, h1, h4, h5⟩
    obtain ⟨l0, L0, a0, c0, e0, b0, p0⟩ := hx 0 (by omega)
    obtain ⟨l1, L1, a1, c1, e1, b1, p1⟩ := hx 1 (by omega)
    obtain ⟨l2, L2, a2, c2, e2, b2, p2⟩ := hx 2 (by omega)
    obtain rfl := lab_same L0 lab176
    obtain rfl := lab_same L1 lab192
    obtain rfl := lab_same L2 lab240
    rcases K.own.2 with ⟨_, h⟩ | ⟨g, cap, cur, rfl, _, hg, hnc, _, hcs, ht⟩
    · omega
    · have hc : ∀ i u, i < 3 → xs[i]? = some u → w'.cell? ⟨g, i, none⟩ = some u := fun i u hi hu => by
        rw [cell_of_row w' g i _ _ _ hg]
        rw [← ht, List.getElem?_take, if_pos (by omega)] at hu
        simpa using hu
      exact ⟨g, cap, a0, a1, a2, c0, c1, c2, rfl, ⟨hc 0 _ (by omega) e0, hc 1 _ (by omega) e1, hc 2 _ (by omega) e2⟩, ⟨b0, b1, b2⟩, ⟨p0, p1⟩, K.fr⟩
  · have := few3 ⟨i, hi⟩
    simp only at this
    omega

theorem aw_between (w : World) (a0 a1 : Option Addr) (c0 c1 : Nat) (b0 : BytesAt w a0 [176]) (b1 : BytesAt w a1 [192]) (p0 : Plain a0) (p1 : Plain a1) :
    Calls Tryz.prog 22 #[.slice none 0 0, .slice a0 1 c0, .slice a1 1 c1] w fun e w' => ∃ ad cap, e = .returned (.tuple #[.slice ad 1 cap, .int .i64 0]) ∧ BytesAt w' ad [188] ∧ Plain ad ∧ Fr [] w w' := by
  refine (between_ok w none a0 a1 0 1 1 0 c0 c1 [] [176] [192] rfl rfl rfl (BytesAt.nil _ _) b0 b1 (Or.inl rfl) p0 p1 [] lab_nil [false, true] [true] (Or.inr ⟨by omega, lab176⟩) (Or.inr ⟨by omega, lab192⟩) (fun _ _ => by decide) 2 part2 (by omega)).mono ?_
  rintro e w' ⟨v, en, rfl, h, f⟩
  rcases h with ⟨rfl, l, Ll, o⟩ | ⟨_, _, h⟩
  · obtain rfl := lab_same Ll lab188
    obtain ⟨ad, cap, rfl, h4, h5⟩ := o.use
    exact ⟨ad, cap, rfl, h4, h5, f⟩
  · have h2 : ¬ 1024 < (enc ([] ++ [preS [false, true] 2 ++ [true]])).length := by decide
    exact absurd h h2
theorem aw_parent (w : World) (ad : Option Addr) (c : Nat) (hb : BytesAt w ad [188]) (hp : Plain ad) :
    Calls Tryz.prog 8 #[.slice ad 1 c] w fun e w' => ∃ ad' cap, e = .returned (.tuple #[.slice ad' 0 cap, .bool true]) ∧ Fr [] w w' := by
  refine (parent_yes w ad 1 c [188] [[false, true, true]] lab188 rfl hb hp (by simp)).mono ?_
  rintro e w' ⟨v, l', rfl, L, o, f⟩
  obtain rfl := lab_same L lab_nil
  obtain ⟨ad', cap, rfl, _, _⟩ := o.use
  exact ⟨ad', cap, rfl, f⟩

set_option maxHeartbeats 2000000 in
set_option maxRecDepth 100000 in
theorem awake_any (w : World) (hL : Laid w) : Calls Tryz.prog 6 #[] w fun e w' => e = .returned (.bool true) ∧ Fr [] w w' := by
  go_enter Tryz.func6, Tryz.ntmps6
  go_wp2_with fail
  refine (aw_kids _ hL).mono ?_
  rintro e w1 ⟨g, cap, a0, a1, a2, c0, c1, c2, rfl, ⟨q0, q1, q2⟩, ⟨b0, b1, b2⟩, ⟨p0, p1⟩, f1⟩
  obtain ⟨g0, o0, rfl, r0⟩ := b0.at 0 (by decide)
  obtain ⟨g1, o1, rfl, r1⟩ := b1.at 0 (by decide)
  obtain ⟨g2, o2, rfl, r2⟩ := b2.at 0 (by decide)
  rw [show ((byteAt [176] 0).toNat : Int) = 176 from rfl, Nat.add_zero] at r0
  rw [show ((byteAt [192] 0).toNat : Int) = 192 from rfl, Nat.add_zero] at r1
  rw [show ((byteAt [240] 0).toNat : Int) = 240 from rfl, Nat.add_zero] at r2
  go_wp2_with fail
  have gg : Fr [] w1 w1.drew := (Fr.refl _ _).drew
  have HQ : Hid (∀ w', Fr [] w1 w' → w'.cell? ⟨g, 0, none⟩ = some (.slice (some ⟨g0, o0, none⟩) 1 c0) ∧ w'.cell? ⟨g, 1, none⟩ = some (.slice (some ⟨g1, o1, none⟩) 1 c1)) := fun w' f => ⟨(World.cell?_of_block (f.block g (block_lt_of_cell q0) (by simp))).trans q0, (World.cell?_of_block (f.block g (block_lt_of_cell q1) (by simp))).trans q1⟩
  clear q0 q1 q2 r0 r1 r2 b2
  go_region_held3 (fun w' => w'.cell? ⟨g, 0, none⟩ = some (.slice (some ⟨g0, o0, none⟩) 1 c0) ∧ w'.cell? ⟨g, 1, none⟩ = some (.slice (some ⟨g1, o1, none⟩) 1 c1)) (exact HQ.out _ gg)
    ((go_at_call 22; refine (aw_between _ _ _ c0 c1 (b0.kept gg (by simp)) (b1.kept gg (by simp)) p0 p1).mono ?_; rintro e w2 ⟨ad2, cap2, rfl, b2, p2, f2⟩; replace gg := gg.trans f2))
  clear HQ
  have g2 := f1.trans gg
  go_wp2_with fail
  refine (aw_parent _ _ _ b2 p2).mono ?_
  rintro e w3 ⟨ad3, cap3, rfl, f3⟩
  have b3 := b2.kept f3 (by simp)
  have g3 := g2.trans f3
  obtain ⟨gm, om, rfl, rm⟩ := b3.at 0 (by decide)
  rw [show ((byteAt [188] 0).toNat : Int) = 188 from rfl, Nat.add_zero] at rm
  go_wp2_with fail
  refine (level_yes _ _ 1 _ [188] [[false, true, true]] lab188 rfl b3 p2).mono ?_
  rintro e w4 ⟨rfl, f4⟩
  have b4 := b3.kept f4 (by simp)
  go_wp2_with fail
  refine (right_yes _ _ 1 _ [188] [[false, true, true]] lab188 rfl b4 p2).mono ?_
  rintro e w5 ⟨rfl, f5⟩
  have b5 := b4.kept f5 (by simp)
  go_wp2_with fail
  refine (above_yes _ none _ 0 1 0 _ [] [188] [] [[false, true, true]] lab_nil lab188 rfl rfl (BytesAt.nil _ _) b5 (Or.inl rfl) p2).mono ?_
  rintro e w6 ⟨rfl, f6⟩
  have ha : abv [] [[false, true, true]] = true := by decide
  rw [ha]
  go_wp2_with fail
  go_ret
  exact ⟨rfl, ((g3.trans f4).trans f5).trans f6⟩

end Go.Proofs.YtddcilmeignlmaaGreatDoor
