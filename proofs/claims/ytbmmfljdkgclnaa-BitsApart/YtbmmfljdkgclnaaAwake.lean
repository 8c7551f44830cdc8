/-
  The laws' own helper awake: it answers true.
-/
import Derived.Test.YtbmmfljdkgclnaaOf
namespace Go.Proofs.Ytbmmfljdkgclnaa
open Go.RowKit

theorem byteAt_txt (r : List Bool) (j : Nat) (h : j < r.length) : byteAt (txt r) j = chr (r.getD j false) := by
  rw [byteAt_lt (by rw [txt_length]; exact h)]
  simp [txt, h]
theorem toList_bl (s : ByteArray) : s.toList = bl s := ByteArray.toList_eq s
theorem bl_inj {s t : ByteArray} (h : bl s = bl t) : s = t := by rw [← mkS_bl s, ← mkS_bl t, h]

theorem rep176 : Rep (mkS [176]) 4 [true, false, true, true] := by
  have := Rep.of (l := [176]) (r := [true, false, true, true]) (by decide) (by decide) (fun i hi => by
    have : i < 8 := by simpa using hi
    revert this
    exact pow_cases (P := fun i => bitAt [176] i = [true, false, true, true].getD i false) (by decide) (by decide) (by decide) (by decide) (by decide) (by decide) (by decide) (by decide) i)
  exact this

/-- Of at a text that is known. -/
theorem of_lit (w : World) (l : List UInt8) (r : List Bool) (hl : l.length ≤ 1000) (h : txt r = l) :
    Calls Try.prog 47 #[.string (mkS l)] w fun e w' => (∃ u, e = .returned (.tuple #[bv u r.length, .bool true]) ∧ Rep u r.length r) ∧ Fr [] w w' := by
  subst h
  have hr : said (bl (mkS (txt r))) = r := by
    rw [bl_mkS]
    unfold said txt
    rw [List.map_map]
    conv => rhs; rw [← List.map_id r]
    apply List.map_congr_left
    intro b _
    cases b <;> rfl
  have hall : AllB (bl (mkS (txt r))) (mkS (txt r)).size := by
    intro i hi
    rw [mkS_size, txt_length] at hi
    rw [bl_mkS, byteAt_txt r i hi]
    cases r.getD i false
    · exact Or.inl rfl
    · exact Or.inr rfl
  have hsz : (mkS (txt r)).size = r.length := by rw [mkS_size, txt_length]
  refine (of_in w (mkS (txt r)) (by rw [mkS_size]; omega)).mono ?_
  rintro e w' ⟨h, f⟩
  rcases h with ⟨⟨u, he, hu⟩, _⟩ | ⟨_, hno⟩
  · rw [hsz] at he hu
    rw [hr] at hu
    exact ⟨⟨u, he, hu⟩, f⟩
  · exact absurd hall hno

set_option maxHeartbeats 2000000 in
set_option maxRecDepth 100000 in
theorem awake_any (w : World) : Calls Try.prog 18 #[] w fun e w' => e = .returned (.bool true) ∧ Fr [] w w' := by
  go_enter Try.func18, Try.ntmps18
  go_wp2_with fail
  refine (of_lit _ [49, 48, 49] [true, false, true] (by decide) (by decide)).mono ?_
  rintro e w1 ⟨⟨u, rfl, hu⟩, f1⟩
  have b1 : Box (w1.alloc (.cells #[.string u, .int .i64 3] 47)) w1.heap.size u 3 := Box.new w1 u 3
  have g1 := f1.alloc (.cells #[.string u, .int .i64 3] 47)
  go_wp2_with fail
  refine (of_lit _ [49] [true] (by decide) (by decide)).mono ?_
  rintro e w2 ⟨⟨v, rfl, hv⟩, f2⟩
  have c1 := (b1.kept f2 (by simp)).kept ((Fr.refl [] w2).alloc (.cells #[.string v, .int .i64 1] 47)) (by simp)
  have q0 := c1.c0
  have q1 : World.cell? _ _ = some (.int .i64 3) := c1.c1
  have g2 := (g1.trans f2).alloc (.cells #[.string v, .int .i64 1] 47)
  go_wp2_with fail
  refine (and_any _ u v 3 1 4 [true, false, true] [true] hu hv rfl (by omega)).mono ?_
  rintro e w3 ⟨x, rfl, hx, f3⟩
  obtain ⟨rfl, _⟩ := hx.unique rep176
  have g3 := (g2.trans f3).alloc (.cells #[.string (mkS [176]), .int .i64 4] 47)
  have b3 : Box (w3.alloc (.cells #[.string (mkS [176]), .int .i64 4] 47)) w3.heap.size (mkS [176]) 4 := Box.new w3 (mkS [176]) 4
  clear b1 c1 q0 q1 g1 g2 f1 f2 f3 hu hv
  go_wp2_with fail
  refine (pack_any _ (mkS [176]) 4 (by decide)).mono ?_
  rintro e w4 ⟨p, rfl, hp, f4⟩
  have b4 := b3.kept f4 (by simp)
  have q0 := b4.c0
  have q1 : World.cell? _ _ = some (.int .i64 4) := b4.c1
  have g4 := g3.trans f4
  obtain ⟨ad, cap, he, hby, hz, hz'⟩ := hp.bytes
  clear hz hz'
  rw [show (bl (mkS [176])).length = 1 from rfl] at he
  subst he
  obtain ⟨b, off, rfl, hc⟩ := hby.at 0 (by decide)
  clear hc
  go_wp2_with fail
  refine (text_any _ (mkS [176]) 4 _ rep176).mono ?_
  rintro e w5 ⟨rfl, f5⟩
  have b5 := b4.kept f5 (by simp)
  have r0 := b5.c0
  have r1 : World.cell? _ _ = some (.int .i64 4) := b5.c1
  have e1 : (mkS (txt [true, false, true, true])).toList = [49, 48, 49, 49] := by rw [toList_bl]; rfl
  go_wp2_with fail
  refine (len_any _ (mkS [176]) 4).mono ?_
  rintro e w6 ⟨rfl, f6⟩
  have g6 := (g4.trans f5).trans f6
  obtain ⟨b', off', e2, hc⟩ := ((hby.kept f5 (by simp)).kept f6 (by simp)).at 0 (by decide)
  cases e2
  rw [Nat.add_zero, show (byteAt (bl (mkS [176])) 0).toNat = 176 from rfl] at hc
  have hc' : World.cell? _ _ = some (.int .u8 176) := hc
  clear hc
  go_wp2_with fail
  go_ret
  exact ⟨rfl, g6⟩

end Go.Proofs.Ytbmmfljdkgclnaa
