/-
  Both tell the same of some bytes.
-/
import Derived.Test.YtlfpoeimgoikkaaGRefT
import Derived.Test.YtlfpoeimgoikkaaGAwake
namespace Go.Proofs.Ytlfpoeimgoikkaa
open Go.RowKit Go.Maps

/-- What the program's Get hands out. -/
inductive GotTo (w w' : World) (l : List UInt8) (s : Int) : Value → Bool → List UInt8 → Prop where
  | no (h : s < 0 ∨ ((cellsOf l).length : Int) ≤ s) (f : Fr [] w w') : GotTo w w' l s (.slice none 0 0) false []
  | yes (S b : Nat) (cell : List UInt8) (hs : s = (S : Int)) (hc : (cellsOf l)[S]? = some cell) (hb : Blk w' b cell) (hn : w.heap.size ≤ b) (f : Fr [] w w') : GotTo w w' l s (.slice (some ⟨b, 0, none⟩) cell.length cell.length) true cell

theorem get_any (w : World) (ad : Option Addr) (n c : Nat) (l : List UInt8) (s : Int) (h : SlAt w ad n c l) :
    Calls Try.prog 12 #[.slice ad n c, .int .i64 s] w fun r w' => ∃ v b cell, r = .returned (.tuple #[v, .bool b]) ∧ GotTo w w' l s v b cell := by
  by_cases hs : s < 0 ∨ ((cellsOf l).length : Int) ≤ s
  · refine (get_no w ad n c l s h hs).mono ?_
    rintro e w1 ⟨rfl, rfl⟩
    exact ⟨_, _, _, rfl, .no hs (Fr.refl _ _)⟩
  · obtain ⟨S, hS⟩ := Int.eq_ofNat_of_zero_le (show 0 ≤ s by omega)
    have hlt : S < (cellsOf l).length := by omega
    have hpos : 0 < (cellsOf l).length := by omega
    rcases page_or l with ⟨hp, hk⟩ | ⟨cs, hp, hk, pg⟩
    · rw [cells_none hp] at hpos; simp at hpos
    · obtain ⟨g, o, rfl, h5⟩ := h.at512 (by rw [← h.len, pg.len])
      obtain rfl : n = 512 := by rw [← h.len, pg.len]
      have hce := cells_some hp
      rw [hce] at hlt
      refine (get_yesI w g o c S s hS l _ _ cs cs[S] cs[S].length pg h5 hlt rfl rfl).mono ?_
      rintro e w1 ⟨b, rfl, b1, hb1, f1⟩
      exact ⟨_, _, _, rfl, .yes S b cs[S] hS (by rw [hce]; exact List.getElem?_eq_getElem hlt) b1 hb1 f1⟩

set_option maxHeartbeats 2000000 in
set_option maxRecDepth 100000 in
theorem tells_any (w : World) (ad : Option Addr) (n c : Nat) (l : List UInt8) (s : Int) (h : SlAt w ad n c l) :
    Calls Try.prog 11 #[.slice ad n c, .int .i64 s] w fun r w' => r = .returned (.bool true) ∧ Fr [] w w' := by
  have H : Hid (SlAt w ad n c l) := h
  clear h
  go_enter Try.func11, Try.ntmps11
  go_wp2_with fail
  refine (get_any _ _ _ _ l s H.out).mono ?_
  rintro e w1 ⟨v1, b1, cell1, rfl, got⟩
  cases got with
  | no hs f1 =>
    go_wp2_with fail
    refine (refGet_no _ _ _ _ l s (H.out.kept f1 (by simp)) hs).mono ?_
    rintro e w2 ⟨rfl, f2⟩
    have F := hidI (f1.trans f2)
    clear f1 f2 hs
    go_wp2_with fail
    refine (check_any _ _ _ _ l (H.out.kept F.out (by simp))).mono ?_
    rintro e w2 ⟨rfl, rfl⟩
    go_wp2_with fail
    refine (refCheck_any _ _ _ _ l (H.out.kept F.out (by simp))).mono ?_
    rintro e w3 ⟨rfl, f9⟩
    replace F := hidI (F.out.trans f9)
    clear f9
    go_wp2_with fail
    refine (kind_any _ _ _ _ l (H.out.kept F.out (by simp))).mono ?_
    rintro e w3 ⟨rfl, rfl⟩
    go_wp2_with fail
    refine (refKind_any _ _ _ _ l (H.out.kept F.out (by simp))).mono ?_
    rintro e w4 ⟨rfl, f9⟩
    replace F := hidI (F.out.trans f9)
    clear f9
    go_wp2_with fail
    refine (next_any _ _ _ _ l (H.out.kept F.out (by simp))).mono ?_
    rintro e w4 ⟨rfl, rfl⟩
    go_wp2_with fail
    refine (refNext_any _ _ _ _ l (H.out.kept F.out (by simp))).mono ?_
    rintro e w5 ⟨rfl, f9⟩
    replace F := hidI (F.out.trans f9)
    clear f9
    go_wp2_with fail
    refine (count_any _ _ _ _ l (H.out.kept F.out (by simp))).mono ?_
    rintro e w5 ⟨rfl, rfl⟩
    go_wp2_with fail
    refine (refCount_any _ _ _ _ l (H.out.kept F.out (by simp))).mono ?_
    rintro e w6 ⟨rfl, f9⟩
    replace F := hidI (F.out.trans f9)
    clear f9
    go_wp2_with fail
    refine (room_any _ _ _ _ l (H.out.kept F.out (by simp))).mono ?_
    rintro e w6 ⟨rfl, rfl⟩
    go_wp2_with fail
    refine (refRoom_any _ _ _ _ l (H.out.kept F.out (by simp))).mono ?_
    rintro e w7 ⟨rfl, f9⟩
    replace F := hidI (F.out.trans f9)
    clear f9
    go_wp2_with fail
    refine (same_any _ _ _ [] [] 0 0 0 (BytesAt.nil _ _) (BytesAt.nil _ _) rfl rfl (by omega)).mono ?_
    rintro e w13 ⟨rfl, f13⟩
    go_wp2_with fail
    go_ret
    exact ⟨rfl, F.out.trans f13⟩
  | yes S b cell hs hc hb hn f1 =>
    subst hs
    go_wp2_with fail
    refine (refGet_yes _ _ _ _ l S cell1 (H.out.kept f1 (by simp)) hc).mono ?_
    rintro e w2 ⟨ea, ec, rfl, he, f2⟩
    have F := hidI (f1.trans f2)
    have HB : Hid (BytesAt w2 (some ⟨b, 0, none⟩) cell1) := (hb.kept f2 (by simp)).bytes
    have HE := hidI he
    have hcl : cell1.length ≤ 506 := by
      rcases page_or l with ⟨hp, hk⟩ | ⟨cs, hp, hk, pg⟩
      · rw [cells_none hp] at hc; simp at hc
      · rw [cells_some hp] at hc
        obtain ⟨hlt, he⟩ := List.getElem?_eq_some_iff.1 hc
        have := delC_elen cs S hlt
        rw [he] at this
        have := pg.fits
        omega
    obtain ⟨m, HM⟩ : ∃ m, Hid (cell1.length = m) := ⟨_, rfl⟩
    rw [HM.out] at hcl ⊢
    clear f1 f2 hc hb hn he
    go_wp2_with fail
    refine (check_any _ _ _ _ l (H.out.kept F.out (by simp))).mono ?_
    rintro e w2 ⟨rfl, rfl⟩
    go_wp2_with fail
    refine (refCheck_any _ _ _ _ l (H.out.kept F.out (by simp))).mono ?_
    rintro e w3 ⟨rfl, f9⟩
    replace F := hidI (F.out.trans f9)
    replace HB : Hid (BytesAt w3 (some ⟨b, 0, none⟩) cell1) := HB.out.kept f9 (by simp)
    replace HE : Hid (BytesAt w3 ea cell1) := HE.out.kept f9 (by simp)
    clear f9
    go_wp2_with fail
    refine (kind_any _ _ _ _ l (H.out.kept F.out (by simp))).mono ?_
    rintro e w3 ⟨rfl, rfl⟩
    go_wp2_with fail
    refine (refKind_any _ _ _ _ l (H.out.kept F.out (by simp))).mono ?_
    rintro e w4 ⟨rfl, f9⟩
    replace F := hidI (F.out.trans f9)
    replace HB : Hid (BytesAt w4 (some ⟨b, 0, none⟩) cell1) := HB.out.kept f9 (by simp)
    replace HE : Hid (BytesAt w4 ea cell1) := HE.out.kept f9 (by simp)
    clear f9
    go_wp2_with fail
    refine (next_any _ _ _ _ l (H.out.kept F.out (by simp))).mono ?_
    rintro e w4 ⟨rfl, rfl⟩
    go_wp2_with fail
    refine (refNext_any _ _ _ _ l (H.out.kept F.out (by simp))).mono ?_
    rintro e w5 ⟨rfl, f9⟩
    replace F := hidI (F.out.trans f9)
    replace HB : Hid (BytesAt w5 (some ⟨b, 0, none⟩) cell1) := HB.out.kept f9 (by simp)
    replace HE : Hid (BytesAt w5 ea cell1) := HE.out.kept f9 (by simp)
    clear f9
    go_wp2_with fail
    refine (count_any _ _ _ _ l (H.out.kept F.out (by simp))).mono ?_
    rintro e w5 ⟨rfl, rfl⟩
    go_wp2_with fail
    refine (refCount_any _ _ _ _ l (H.out.kept F.out (by simp))).mono ?_
    rintro e w6 ⟨rfl, f9⟩
    replace F := hidI (F.out.trans f9)
    replace HB : Hid (BytesAt w6 (some ⟨b, 0, none⟩) cell1) := HB.out.kept f9 (by simp)
    replace HE : Hid (BytesAt w6 ea cell1) := HE.out.kept f9 (by simp)
    clear f9
    go_wp2_with fail
    refine (room_any _ _ _ _ l (H.out.kept F.out (by simp))).mono ?_
    rintro e w6 ⟨rfl, rfl⟩
    go_wp2_with fail
    refine (refRoom_any _ _ _ _ l (H.out.kept F.out (by simp))).mono ?_
    rintro e w7 ⟨rfl, f9⟩
    replace F := hidI (F.out.trans f9)
    replace HB : Hid (BytesAt w7 (some ⟨b, 0, none⟩) cell1) := HB.out.kept f9 (by simp)
    replace HE : Hid (BytesAt w7 ea cell1) := HE.out.kept f9 (by simp)
    clear f9
    go_wp2_with fail
    refine (same_any _ _ _ cell1 cell1 m _ _ HB.out HE.out HM.out HM.out (by omega)).mono ?_
    rintro e w13 ⟨rfl, f13⟩
    rw [show (cell1 == cell1) = true by simp]
    go_wp2_with fail
    go_ret
    exact ⟨rfl, F.out.trans f13⟩
end Go.Proofs.Ytlfpoeimgoikkaa
