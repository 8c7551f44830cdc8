/-
  Labels: write.
-/
import Derived.Test.YtddcilmeignlmaaGreatDoorBld2
namespace Go.Proofs.YtddcilmeignlmaaGreatDoor
open Go.RowKit Go.Maps Go.Lib

theorem tv_app (a b : List Bool) : tv (a ++ b) = tv a ++ tv b := by simp [tv, txt, arr]
theorem dbl_take (s : List Bool) (i : Nat) (h : i < s.length) : dbl (s.take (i + 1)) = dbl (s.take i) ++ [true] ++ [s[i]] := by
  rw [List.take_succ_eq_append_getElem h]
  simp only [dbl, List.flatMap_append, List.append_assoc]
  rfl
theorem dbl_len (s : List Bool) : (dbl s).length = 2 * s.length := by
  induction s with
  | nil => rfl
  | cons b r ih => simp only [dbl, List.flatMap_cons, List.length_append] at ih ⊢; rw [ih]; simp; omega

theorem BAt.keepI {w0 w w' : World} {b it : Nat} {p : Value} {ad : Option Addr} {n cap : Nat} {xs : List Value} (h : BAt w0 w b p ad n cap xs) (f : Fr [it] w w') (h1 : it ≠ b) (h2 : (Value.slice ad n cap).ownBlock ≠ some it) (h3 : w0.heap.size ≤ it) : BAt w0 w' b p ad n cap xs :=
  ⟨f.same (by simp; omega) h.heap, ⟨own_kept h.mine.own f (fun g hg => by simp; rintro rfl; exact h2 hg), h.mine.new, h.mine.fr.then f (fun i hi hm => by simp at hm; omega)⟩, h.ne, h.nb⟩
theorem IterAt.went {w w' : World} {b it : Nat} {v v' : Value} {s : ByteArray} {pos : Nat} (h : IterAt w it s pos) (k : Went w w' b v v') (h1 : it ≠ b) (h2 : v.ownBlock ≠ some it) : IterAt w' it s pos ∧ v'.ownBlock ≠ some it :=
  ⟨h.kept k.fr (by simp; exact ⟨h1, h2⟩), k.new it h.lt h2⟩

set_option maxHeartbeats 2000000 in
set_option maxRecDepth 100000 in
theorem write_any (w : World) (s : List Bool) (hs : s.length ≤ 2000) :
    Calls Tryz.prog 65 #[.string (mkS (txt s))] w fun e w' => e = .returned (.string (mkS (txt (wr s)))) ∧ Fr [] w w' := by
  have B0 : BAt w (w.alloc (.cells #[.pointer none, .slice none 0 0] 130)) w.heap.size (.pointer none) none 0 0 (tv (dbl [])) := ⟨heap_alloc_new w _, ⟨World.ownsRow_nil _ _ _ _, fun g hg => by simp [Value.ownBlock] at hg, (Fr.refl _ _).alloc _⟩, by simp [Value.ownBlock], Nat.le_refl _⟩
  have hsz : (mkS (txt s)).size = s.length := by simp [mkS, txt, ByteArray.size]
  go_enter Tryz.func65, Tryz.ntmps65
  go_wp2_with (refine wp_range rfl _ rfl (mkS (txt s)) rfl ?_; intro w2 it s3 i2 f2; have B2 := B0.keep f2)
  have hit : it ≠ w.heap.size := by have := B0.lt; omega
  have hitw : w.heap.size ≤ it := by have := B0.lt; omega
  clear B0 f2 s3
  obtain ⟨b, hb⟩ : ∃ b, b = w.heap.size := ⟨_, rfl⟩
  rw [← hb] at B2 hit ⊢
  clear hb
  go_frame
  go_loopw [5] (fun _ wr => ∃ pos p ad cap, pos ≤ s.length ∧ IterAt wr it (mkS (txt s)) pos ∧ BAt w wr b p ad (2 * pos) cap (tv (dbl (s.take pos))) ∧ (p = .pointer none ∨ p = .pointer (some ⟨b, 0, none⟩)) ∧ (Value.slice ad (2 * pos) cap).ownBlock ≠ some it) (fun _ wr => s.length - itPos wr it)
  case atStart => exact ⟨0, _, none, 0, Nat.zero_le _, i2, B2, Or.inl rfl, by simp [Value.ownBlock]⟩
  case round =>
    obtain ⟨pos, p, ad, cap, hpos, ir, Br, hp, hne⟩ := hrel
    have HI : Hid (itPos wr it = pos) := ir.pos
    have hp0 : (0 : Int) ≤ (pos : Int) := by omega
    by_cases hlt : pos < s.length
    · have hlt' : pos < (mkS (txt s)).size := by rw [hsz]; exact hlt
      have hby : byteAt (bl (mkS (txt s))) pos = chr s[pos] := by simp [byteAt, bl, mkS, txt, hlt]
      have HBY : Hid (byteAt (bl (mkS (txt s))) pos = chr s[pos]) := hby
      have hch : (chr s[pos]).toNat < 128 := by cases s[pos] <;> decide
      have hc48 : ((chr s[pos]).toNat : Int) = 48 ∨ ((chr s[pos]).toNat : Int) = 49 := by cases s[pos] <;> decide
      have HT : Hid (tv (dbl (s.take (pos + 1))) = tv (dbl (s.take pos)) ++ [.int .u8 49] ++ [.int .u8 ((chr s[pos]).toNat : Int)]) := (by rw [dbl_take s pos hlt, tv_app, tv_app]; rfl : _)
      clear hby
      go_wp2_with (refine wp_next rfl _ rfl it (mkS (txt s)) pos rfl ir hlt' ?_)
      intro w3 c pos' i3 hpp hc1 hc2 f3
      rw [HBY.out] at hc1
      obtain ⟨hc, rfl⟩ := hc1 hch
      subst hc
      have B3 := Br.keepI f3 hit hne hitw
      have hwb := writeByte_any w w3 b p ad (2 * pos) cap _ 49 B3 hp (by omega)
      clear hc1 hc2 hpp HBY hch Br ir
      generalize ((chr s[pos]).toNat : Int) = ch at hc48 HT ⊢
      go_wp2_with fail
      refine hwb.mono ?_
      rintro e w4 ⟨ad4, cap4, rfl, B4, g4⟩
      obtain ⟨i4, hne4⟩ := i3.went g4 hit hne
      have hwr := writeRune_any w w4 b _ ad4 (2 * pos + 1) cap4 _ ch hc48 B4 (Or.inr rfl) (by omega)
      clear hwb
      go_wp2_with fail
      refine hwr.mono ?_
      rintro e w5 ⟨ad5, cap5, rfl, B5, g5⟩
      obtain ⟨i5, hne5⟩ := i4.went g5 hit hne4
      clear hwr
      go_wp2_with fail
      refine ⟨⟨pos + 1, _, ad5, cap5, by omega, i5, ?_, Or.inr rfl, hne5⟩, ?_⟩
      · rw [HT.out]; exact B5
      · rw [i5.pos, HI.out]; omega
    · obtain rfl : pos = s.length := by omega
      have hlt' : ¬ s.length < (mkS (txt s)).size := by rw [hsz]; exact hlt
      have hwb := writeByte_any w wr b p ad (2 * s.length) cap _ 48 Br hp (by omega)
      rw [List.take_length] at hwb
      have HE : Hid (tv (dbl s) ++ [.int .u8 48] = (arr (txt (Go.Proofs.YtddcilmeignlmaaGreatDoor.wr s))).toList) := (tv_app (dbl s) [false]).symm
      clear Br
      go_wp2_with (refine wp_next_end rfl _ rfl it (mkS (txt s)) _ rfl ir hlt' ?_)
      refine hwb.mono ?_
      rintro e w4 ⟨ad4, cap4, rfl, B4, g4⟩
      rw [HE.out] at B4
      have hst := string_any w w4 b _ ad4 (2 * s.length + 1) cap4 (txt (Go.Proofs.YtddcilmeignlmaaGreatDoor.wr s)) (by rw [txt_length]; simp [YtddcilmeignlmaaGreatDoor.wr, dbl_len]) (by omega) B4
      clear hwb
      go_wp2_with fail
      refine hst.mono ?_
      rintro e w5 ⟨rfl, f5⟩
      go_wp2_with fail
      go_ret
      exact ⟨rfl, f5⟩

end Go.Proofs.YtddcilmeignlmaaGreatDoor
