/-
  ChangeNone's law: books and devices that are not there.
-/
import Derived.Test.YtopaeomjndblkaaGreatX28Z
import Derived.Test.YtopaeomjndblkaaGreatX29Z
namespace Go.Proofs.YtopaeomjndblkaaGreat
open Go.RowKit Go.Maps

theorem latest_zs (k : Int) : Dv.latest Dv.Tab.none Dv.Tab.none k = zs 512 := by
  have h : Dv.latest Dv.Tab.none Dv.Tab.none k = Dv.zeros := rfl
  exact h
set_option maxHeartbeats 4000000 in
set_option maxRecDepth 100000 in
theorem cnone_law (w : World) (at' : Int) (ad : Option Addr) (n c : Nat) (p q r : Int) : Calls Tryz.prog 5 #[.int .i64 at', .slice ad n c, .agg #[.int .i64 p, .int .i64 q, .int .i64 r]] w fun e w' => e = .returned (.bool true) ∧ Fr [] w w' := by
  have f1 : Fr [] w (w.alloc (.cells #[.int .i64 p, .int .i64 q, .int .i64 r] 72)) := (Fr.refl [] w).alloc _
  have hM := heap_alloc_new w (.cells #[.int .i64 p, .int .i64 q, .int .i64 r] 72)
  obtain ⟨w1, hw1⟩ : ∃ w1, w.alloc (.cells #[.int .i64 p, .int .i64 q, .int .i64 r] 72) = w1 := ⟨_, rfl⟩
  rw [hw1] at f1 hM
  go_enter Tryz.func5, Tryz.ntmps5
  go_wp2_with fail
  refine (cawake_any _).mono ?_
  rintro e w2 ⟨rfl, f2⟩
  have hM2 := f2.same (by simp) hM
  have f3 : Fr [] w2 (w2.alloc (.cells #[.pointer none, .pointer none, .pointer none, .pointer none] 75)) := (Fr.refl [] w2).alloc _
  have h3 := heap_alloc_new w2 (.cells #[.pointer none, .pointer none, .pointer none, .pointer none] 75)
  have s3 : (w2.alloc (.cells #[.pointer none, .pointer none, .pointer none, .pointer none] 75)).heap.size = w2.heap.size + 1 := by simp
  obtain ⟨w3, hw3⟩ : ∃ w3, w2.alloc (.cells #[.pointer none, .pointer none, .pointer none, .pointer none] 75) = w3 := ⟨_, rfl⟩
  rw [hw3] at f3 h3 s3
  have f4 : Fr [] w3 (w3.alloc (.cells #[.pointer none, .pointer (some ⟨w2.heap.size, 0, none⟩)] 60)) := (Fr.refl [] w3).alloc _
  have h4 := heap_alloc_new w3 (.cells #[.pointer none, .pointer (some ⟨w2.heap.size, 0, none⟩)] 60)
  obtain ⟨w4, hw4⟩ : ∃ w4, w3.alloc (.cells #[.pointer none, .pointer (some ⟨w2.heap.size, 0, none⟩)] 60) = w4 := ⟨_, rfl⟩
  rw [hw4] at f4 h4
  rw [s3] at h4
  have h34 := f4.same (by simp) h3
  have HK : Hid (∀ (j : Nat), j < 2 → ∀ w', Fr [] w4 w' → ∃ po : Option Addr, w'.cell? ⟨w2.heap.size + 1, j, none⟩ = some (.pointer po) ∧ NoBook w' (.pointer po)) := hidI (fun j hj w' f => by
    have g4 := f.same (by simp) h4
    have g3 := f.same (by simp) h34
    rcases (by omega : j = 0 ∨ j = 1) with rfl | rfl
    · exact ⟨none, cell_of_row w' _ 0 _ _ _ g4, Or.inl rfl⟩
    · exact ⟨some ⟨w2.heap.size, 0, none⟩, cell_of_row w' _ 1 _ _ _ g4, Or.inr ⟨_, rfl, cell_of_row w' _ 0 _ _ _ g3⟩⟩)
  have HF := hidI (f1.trans (f2.trans (f3.trans f4)))
  have HM4 := hidI (f4.same (by simp) (f3.same (by simp) hM2))
  go_wp2_with fail
  go_loopw [8] (fun s8 wr => ∃ j : Nat, s8 = .int .i64 (j : Int) ∧ j ≤ 2 ∧ Hid (Fr [] w4 wr)) (fun i _ => 2 - (intOf i).toNat)
  case atStart => exact ⟨0, rfl, by omega, hidI (Fr.refl _ _)⟩
  case round =>
    obtain ⟨j, rfl, hj, HR⟩ := hrel
    by_cases hlt : j < 2
    · obtain ⟨po, k0, nb0⟩ := HK.out j hlt wr HR.out
      have HN : Hid (∀ w', Fr [] wr w' → NoBook w' (.pointer po)) := hidI (fun w' f => nb0.kept f (fun _ _ => by simp))
      have HC : Hid (∀ w', Fr [] wr w' → w'.cell? ⟨w2.heap.size + 1, j, none⟩ = some (.pointer po)) := hidI (fun w' f => by
        exact (World.cell?_of_block (f.block _ (block_lt_of_cell k0) (by simp))).trans k0)
      have q1 : (j : Int) < 2 := by omega
      clear nb0
      go_wp2_with (go_at_call 28; refine (bpage_no _ _ (HN.out _ (Fr.refl _ _)) _).mono ?_; rintro e wz ⟨rfl, hz⟩; rw [hz]; clear hz)
      have gg : Fr [] wr wr.drew := (Fr.refl [] wr).drew
      conv => arg 2; arg 2; arg 1; simp only [List.append_eq, List.cons_append, List.nil_append]
      go_region_held3 (fun w' => w'.cell? ⟨w2.heap.size + 1, j, none⟩ = some (.pointer po)) (exact HC.out _ gg) ((first
        | (go_at_call 30; refine (bbegin_no _ _ (HN.out _ gg)).mono ?_; rintro e wz ⟨rfl, hz⟩; rw [hz]; clear hz)
        | (go_at_call 31; refine (bput_no _ _ (HN.out _ gg) _ _ _ _).mono ?_; rintro e w5 ⟨rfl, f5⟩; replace gg := gg.trans f5)
        | (go_at_call 32; refine (bcommit_no _ _ (HN.out _ gg)).mono ?_; rintro e w6 ⟨rfl, f6⟩; replace gg := gg.trans f6)
        | (go_at_call 33; refine (babort_no _ _ (HN.out _ gg)).mono ?_; rintro e w7 ⟨rfl, f7⟩; replace gg := gg.trans f7)
        | (go_at_call 34; refine (bpoint_no _ _ (HN.out _ gg)).mono ?_; rintro e w8 ⟨rfl, f8⟩; replace gg := gg.trans f8)
        | (go_at_call 24; refine (bpages_no _ _ (HN.out _ gg)).mono ?_; rintro e wz ⟨rfl, hz⟩; rw [hz]; clear hz)
        | (go_at_call 27; refine (bchanges_no _ _ (HN.out _ gg)).mono ?_; rintro e wz ⟨rfl, hz⟩; rw [hz]; clear hz)
        | (go_at_call 26; refine (bkin_no _ _ (HN.out _ gg)).mono ?_; rintro e wz ⟨rfl, hz⟩; rw [hz]; clear hz)))
      all_goals
        have GG := hidI (HR.out.trans gg)
        clear gg k0
        go_wp2_with fail
        exact ⟨⟨j + 1, rfl, by omega, GG⟩, by simp [intOf]; omega⟩
    · obtain rfl : j = 2 := by omega
      have HM5 := HR.out.same (by simp) HM4.out
      go_wp2_with fail
      refine (mread_nil wr).mono ?_
      unfold mV
      rintro e w5 ⟨rfl, f5⟩
      have f6 : Fr [] w5 (w5.alloc (.cells #[.int .i64 0, .int .i64 0, .int .i64 0] 72)) := (Fr.refl [] w5).alloc _
      dsimp only
      go_wp2_with fail
      generalize w5.alloc (.cells #[.int .i64 0, .int .i64 0, .int .i64 0] 72) = w6 at f6 ⊢
      refine (Dv.new_dev 24 w6 (by omega) (by omega)).mono ?_
      rintro e w7 ⟨rfl, D7, f7⟩
      have D7' := hidI D7
      have F7 : Fr [] wr w7 := (f5.trans f6).trans (fr_dv f7)
      clear D7 f7
      go_wp2_with fail
      refine (mread_none w7 _ _ _ 24 0 _ _ D7'.out (by omega) (fun j _ _ => latest_zs j)).mono ?_
      unfold mV
      rintro e w8 ⟨rfl, f8⟩
      have f9 : Fr [] w8 (w8.alloc (.cells #[.int .i64 0, .int .i64 0, .int .i64 0] 72)) := (Fr.refl [] w8).alloc _
      dsimp only
      go_wp2_with fail
      generalize w8.alloc (.cells #[.int .i64 0, .int .i64 0, .int .i64 0] 72) = w9 at f9 ⊢
      refine (format_nil w9).mono ?_
      rintro e w10 ⟨rfl, f10⟩
      go_wp2_with fail
      refine (Dv.new_dev 23 w10 (by omega) (by omega)).mono ?_
      rintro e w11 ⟨rfl, D11, f11⟩
      have D11' := hidI D11
      have F11 : Fr [] w7 w11 := (f8.trans f9).trans (f10.trans (fr_dv f11))
      clear D11 f11
      go_wp2_with fail
      refine (format_few w11 _ _ _ 23 _ _ D11'.out (by omega) (by omega)).mono ?_
      rintro e w12 ⟨rfl, f12⟩
      have F12 := F7.trans (F11.trans f12)
      have HM12 := F12.same (by simp) HM5
      have m0 := cell_of_row _ w.heap.size 0 _ _ _ HM12
      have m1 := cell_of_row _ w.heap.size 1 _ _ _ HM12
      have m2 := cell_of_row _ w.heap.size 2 _ _ _ HM12
      go_wp2_with fail
      refine (mwrite_nil w12 p q r).mono ?_
      rintro e w13 ⟨rfl, f13⟩
      go_wp2_with fail
      refine (new_no w13 none none none 1 (by omega) (mread_nil w13)).mono ?_
      rintro e w14 ⟨rfl, f14⟩
      go_wp2_with fail
      refine (Dv.new_dev 24 w14 (by omega) (by omega)).mono ?_
      rintro e w15 ⟨rfl, D15, f15⟩
      have D15' := hidI D15
      have f15' : Fr [] w14 w15 := fr_dv f15
      clear D15 f15
      go_wp2_with fail
      refine (new_no w15 _ none none 4 (by omega) (mread_none w15 _ _ _ 24 0 _ _ D15'.out (by omega) (fun j _ _ => latest_zs j))).mono ?_
      rintro e w16 ⟨rfl, f16⟩
      go_wp2_with fail
      go_ret
      exact ⟨rfl, (HF.out.trans HR.out).trans (F12.trans ((f13.trans f14).trans (f15'.trans f16)))⟩
end Go.Proofs.YtopaeomjndblkaaGreat

