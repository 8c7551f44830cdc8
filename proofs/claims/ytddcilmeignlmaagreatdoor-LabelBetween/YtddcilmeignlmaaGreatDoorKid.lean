/-
  Labels: child.
-/
import Derived.Test.YtddcilmeignlmaaGreatDoorWri
namespace Go.Proofs.YtddcilmeignlmaaGreatDoor
open Go.RowKit Go.Maps Go.Lib

theorem allB_txt (s : List Bool) : AllB (bl (mkS (txt s))) (mkS (txt s)).size := by
  intro i hi
  rw [mkS_size, txt_length] at hi
  have : byteAt (bl (mkS (txt s))) i = chr s[i] := by simp [byteAt, bl, mkS, txt, hi]
  rw [this]
  cases s[i]
  · exact Or.inl rfl
  · exact Or.inr rfl

set_option maxHeartbeats 2000000 in
set_option maxRecDepth 100000 in
theorem of_txt (w : World) (s : List Bool) (hs : s.length ≤ 1048576) :
    Calls Tryz.prog 35 #[.string (mkS (txt s))] w fun e w' => ∃ u, e = .returned (.tuple #[bv u s.length, .bool true]) ∧ Rep u s.length s ∧ Fr [] w w' := by
  have hz : (mkS (txt s)).size = s.length := by rw [mkS_size, txt_length]
  refine (of_in w (mkS (txt s)) (by rw [hz]; exact hs)).mono ?_
  rintro e w' ⟨h, f⟩
  rcases h with ⟨⟨u, rfl, hr⟩, _⟩ | ⟨_, hn⟩
  · rw [hz] at hr ⊢
    rw [show said (bl (mkS (txt s))) = s from said_txt s] at hr
    exact ⟨u, rfl, hr, f⟩
  · exact absurd (allB_txt s) hn

set_option maxHeartbeats 2000000 in
set_option maxRecDepth 100000 in
theorem child_any (w : World) (r : ByteArray) (n : Nat) (pp : List (List Bool)) (hR : Rep r n (enc pp)) (hpp : ∀ t ∈ pp, okS t) (hn : n ≤ 1024) (s : List Bool) (hs : okS s) (hl : s.length ≤ 2000) :
    Calls Tryz.prog 43 #[bv r n, .string (mkS (txt s))] w fun e w' => ((∃ v l, e = .returned (.tuple #[v, .int .i64 0]) ∧ Lab l (pp ++ [s]) ∧ Out w w' v l) ∨ (e = .returned (.tuple #[.slice none 0 0, .int .i64 140]) ∧ 1024 < (enc (pp ++ [s])).length)) ∧ Fr [] w w' := by
  have hw := fun u => write_any u s hl
  have hwl : (Go.Proofs.YtddcilmeignlmaaGreatDoor.wr s).length = 2 * s.length + 1 := by simp [Go.Proofs.YtddcilmeignlmaaGreatDoor.wr, dbl_len]
  have bP0 := Box.new w r n
  have f0 : Fr [] w (w.alloc (.cells #[.string r, .int .i64 (n : Int)] 43)) := (Fr.refl _ _).alloc _
  have henc : enc (pp ++ [s]) = enc pp ++ Go.Proofs.YtddcilmeignlmaaGreatDoor.wr s := by rw [enc_append, enc_one]
  have HE : Hid (enc (pp ++ [s]) = enc pp ++ Go.Proofs.YtddcilmeignlmaaGreatDoor.wr s) := henc
  have HOK : Hid (∀ t ∈ pp ++ [s], okS t) := (by
    intro t ht
    rcases List.mem_append.1 ht with h | h
    · exact hpp t h
    · simp at h; subst h; exact hs : ∀ t ∈ pp ++ [s], okS t)
  have hel : (enc (pp ++ [s])).length = n + (2 * s.length + 1) := by rw [henc, List.length_append, hwl, hR.len]
  have HEL : Hid ((enc (pp ++ [s])).length = n + (2 * s.length + 1)) := hel
  clear hpp hs henc hel
  go_enter Tryz.func43, Tryz.ntmps43
  go_wp2_with fail
  refine (hw _).mono ?_
  rintro e w1 ⟨rfl, f1⟩
  have g1 := f0.trans f1
  have bP1 := bP0.kept f1 (by simp)
  clear bP0 f0 f1 hw
  go_wp2_with fail
  refine (of_txt _ (Go.Proofs.YtddcilmeignlmaaGreatDoor.wr s) (by omega)).mono ?_
  rintro e w2 ⟨u, rfl, hu, f2⟩
  rw [hwl] at hu ⊢
  have bW := Box.new w2 u (2 * s.length + 1)
  have fW : Fr [] w2 (w2.alloc (.cells #[.string u, .int .i64 ((2 * s.length + 1 : Nat) : Int)] 43)) := (Fr.refl _ _).alloc _
  have bP2 := bP1.kept f2 (by simp)
  have p0 := bP2.c0
  have p1 := bP2.c1
  have pl := bP2.lt
  have g2 := g1.trans (f2.trans fW)
  have ha := and_any (w2.alloc (.cells #[.string u, .int .i64 ((2 * s.length + 1 : Nat) : Int)] 43)) r u n (2 * s.length + 1) (n + (2 * s.length + 1)) (enc pp) (Go.Proofs.YtddcilmeignlmaaGreatDoor.wr s) hR hu rfl (by omega)
  generalize 2 * s.length + 1 = m at *
  clear bP1 g1 f2 fW
  go_wp2_with fail
  refine ha.mono ?_
  rintro e w3 ⟨u3, rfl, hu3, f3⟩
  have g3 := (g2.trans f3).alloc (.cells #[.string u3, .int .i64 ((n + m : Nat) : Int)] 43)
  have bR := Box.new w3 u3 (n + m)
  have hlen := len_any (w3.alloc (.cells #[.string u3, .int .i64 ((n + m : Nat) : Int)] 43)) u3 (n + m)
  clear ha g2 f3
  generalize n + m = N at *
  by_cases hN : 1024 < N
  · have hN' : (1024 : Int) < (N : Int) := by omega
    go_wp2_with fail
    refine hlen.mono ?_
    rintro e w4 ⟨rfl, f4⟩
    have g4 := g3.trans f4
    go_wp2_with fail
    go_ret2
    exact ⟨Or.inr ⟨rfl, by rw [HEL.out]; exact hN⟩, g4⟩
  · have hN' : (N : Int) ≤ 1024 := by omega
    go_wp2_with fail
    refine hlen.mono ?_
    rintro e w4 ⟨rfl, f4⟩
    have g4 := g3.trans f4
    have bR4 := bR.kept f4 (by simp)
    have r0 := bR4.c0
    have r1 := bR4.c1
    have hsz3 : u3.size ≤ 16777216 := by rw [hu3.size]; omega
    clear hlen bR g3 f4
    go_wp2_with fail
    refine (pack_out _ u3 _ hsz3).mono ?_
    rintro e w5 ⟨ad5, cap5, rfl, o5, f5⟩
    go_wp2_with fail
    go_ret2
    refine ⟨Or.inl ⟨_, bl u3, rfl, lab_size ?_ HOK.out (by rw [HEL.out]; omega), o5.from g4⟩, g4.trans f5⟩
    rw [HEL.out, HE.out]
    exact hu3

end Go.Proofs.YtddcilmeignlmaaGreatDoor
