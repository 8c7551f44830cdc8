/-
  PoolNone: pools that are not there do nothing; areas that may not be are refused.
-/
import Derived.Test.YtplboeplknggbaaGreatXU8
namespace Go.Proofs.YtplboeplknggbaaGreat
open Go.RowKit Go.Maps

set_option maxHeartbeats 8000000 in
set_option maxRecDepth 100000 in
theorem none_law (w : World) (page blk off : Int) (a1 a2 : Option Addr) (n1 c1 n2 c2 : Nat) :
    Calls Tryz.prog 4 #[.int .i64 page, .agg #[.int .i64 blk, .int .i64 off, .slice a1 n1 c1, .slice a2 n2 c2]] w fun e w' => e = .returned (.bool true) ∧ Fr [] w w' := by
  have fa : Fr [] w (w.alloc (.cells #[.int .i64 blk, .int .i64 off, .slice a1 n1 c1, .slice a2 n2 c2] 42)) := (Fr.refl [] w).alloc _
  have hs := heap_alloc_new w (.cells #[.int .i64 blk, .int .i64 off, .slice a1 n1 c1, .slice a2 n2 c2] 42)
  go_enter Tryz.func4, Tryz.ntmps4
  go_wp2_with fail
  generalize w.alloc (.cells #[.int .i64 blk, .int .i64 off, .slice a1 n1 c1, .slice a2 n2 c2] 42) = w0 at fa hs ⊢
  obtain ⟨sb, HSB⟩ : ∃ sb, Hid (w.heap.size = sb) := ⟨_, rfl⟩
  rw [HSB.out] at hs ⊢
  refine (awake_any w0).mono ?_
  rintro e w1 ⟨rfl, f1⟩
  have s1 := f1.same (by simp) hs
  have HS1 := hidI s1
  have F1 := hidI (fa.trans f1)
  clear hs s1 fa f1
  have fz : Fr [] w1 ((w1.alloc (.cells #[.pointer none, .pointer none, .int .i64 0, .int .i64 0, .int .i64 0, .pointer none, .map none] 55)).alloc (.cells #[.pointer none, .pointer (some ⟨w1.heap.size, 0, none⟩)] 26)) := ((Fr.refl [] w1).alloc _).alloc _
  have hz : ((w1.alloc (.cells #[.pointer none, .pointer none, .int .i64 0, .int .i64 0, .int .i64 0, .pointer none, .map none] 55)).alloc (.cells #[.pointer none, .pointer (some ⟨w1.heap.size, 0, none⟩)] 26)).heap[w1.heap.size]? = some (.cells #[.pointer none, .pointer none, .int .i64 0, .int .i64 0, .int .i64 0, .pointer none, .map none] 55) := ((Fr.refl [] (w1.alloc (.cells #[.pointer none, .pointer none, .int .i64 0, .int .i64 0, .int .i64 0, .pointer none, .map none] 55))).alloc _).same (by simp) (heap_alloc_new w1 _)
  have hl : ((w1.alloc (.cells #[.pointer none, .pointer none, .int .i64 0, .int .i64 0, .int .i64 0, .pointer none, .map none] 55)).alloc (.cells #[.pointer none, .pointer (some ⟨w1.heap.size, 0, none⟩)] 26)).heap[w1.heap.size + 1]? = some (.cells #[.pointer none, .pointer (some ⟨w1.heap.size, 0, none⟩)] 26) := by
    have h1 := heap_alloc_new (w1.alloc (.cells #[.pointer none, .pointer none, .int .i64 0, .int .i64 0, .int .i64 0, .pointer none, .map none] 55)) (.cells #[.pointer none, .pointer (some ⟨w1.heap.size, 0, none⟩)] 26)
    have e1 : (w1.alloc (.cells #[.pointer none, .pointer none, .int .i64 0, .int .i64 0, .int .i64 0, .pointer none, .map none] 55)).heap.size = w1.heap.size + 1 := by simp
    rw [e1] at h1
    exact h1
  go_wp2_with fail
  generalize ((w1.alloc (.cells #[.pointer none, .pointer none, .int .i64 0, .int .i64 0, .int .i64 0, .pointer none, .map none] 55)).alloc (.cells #[.pointer none, .pointer (some ⟨w1.heap.size, 0, none⟩)] 26)) = w2 at fz hz hl ⊢
  obtain ⟨zb, HZB⟩ : ∃ zb, Hid (w1.heap.size = zb) := ⟨_, rfl⟩
  obtain ⟨lb, HLB⟩ : ∃ lb, Hid (w1.heap.size + 1 = lb) := ⟨_, rfl⟩
  rw [HLB.out, HZB.out] at hl
  rw [HZB.out] at hz
  rw [HLB.out, HZB.out]
  have HZ := hidI hz
  have HL := hidI hl
  have HS2 := hidI (fz.same (by simp) HS1.out)
  have F2 := hidI (F1.out.trans fz)
  clear hz hl fz F1 HS1
  go_loopw [6, 7, 8] (fun s6 s7 s8 wr => ∃ i : Nat, i ≤ 2 ∧ s6 = .int .i64 (i : Int) ∧ s7 = s7 ∧ s8 = s8 ∧ Hid (Fr [] w2 wr)) (fun s6 _ _ _ => 2 - (intOf s6).toNat)
  case atStart => exact ⟨0, by omega, rfl, rfl, rfl, hidI (Fr.refl _ _)⟩
  case round =>
    obtain ⟨i, hi, rfl, -, -, HF⟩ := hrel
    by_cases hlt : i < 2
    · have q1 : (i : Int) < 2 := by omega
      have q0 : (0 : Int) ≤ (i : Int) := by omega
      have hwi : IntKind.i64.wrap ((i : Int) + 1) = (i : Int) + 1 := wrapI _ (by omega) (by omega)
      obtain ⟨v, hv, HNP⟩ : ∃ v, Hid (∀ w', Fr [] wr w' → w'.cell? ⟨lb, i, none⟩ = some v) ∧ Hid (∀ w', Fr [] wr w' → NoPool w' v) := by
        have hi2 : i = 0 ∨ i = 1 := by omega
        rcases hi2 with rfl | rfl
        · exact ⟨.pointer none, hidI (fun w' f => cell_of_row w' lb 0 _ _ _ ((HF.out.trans f).same (by simp) HL.out)), hidI (fun w' f => Or.inl rfl)⟩
        · exact ⟨.pointer (some ⟨zb, 0, none⟩), hidI (fun w' f => cell_of_row w' lb 1 _ _ _ ((HF.out.trans f).same (by simp) HL.out)), hidI (fun w' f => Or.inr ⟨zb, rfl, cell_of_row w' zb 0 _ _ _ ((HF.out.trans f).same (by simp) HZ.out)⟩)⟩
      have k5 := hv.out wr (Fr.refl _ _)
      go_wp2_with (go_at_call 14; refine (read_no _ _ (HNP.out _ (Fr.refl _ _)) _).mono ?_; rintro e wx ⟨rfl, hx⟩; rw [hx]; clear hx)
      go_cut [93] from 17 to 93 (fun s93 wx => s93 = .bool false ∧ Hid (Fr [] wr wx))
      case first =>
        obtain ⟨W0, HW0⟩ : ∃ W0, Hid (W0 = wr) := ⟨_, rfl⟩
        have gg : Fr [] W0 wr.drew := (by rw [HW0.out]; exact (Fr.refl _ _).drew)
        have SK : Hid (∀ w', Fr [] W0 w' → w'.cell? ⟨lb, i, none⟩ = some v ∧ w'.cell? ⟨sb, 0, none⟩ = some (.int .i64 blk) ∧ w'.cell? ⟨sb, 1, none⟩ = some (.int .i64 off) ∧ w'.cell? ⟨sb, 2, none⟩ = some (.slice a1 n1 c1) ∧ w'.cell? ⟨sb, 3, none⟩ = some (.slice a2 n2 c2)) := hidI (fun w' f => by
          rw [HW0.out] at f
          have s1 := (HF.out.trans f).same (by simp) HS2.out
          exact ⟨hv.out w' f, cell_of_row w' sb 0 _ _ _ s1, cell_of_row w' sb 1 _ _ _ s1, cell_of_row w' sb 2 _ _ _ s1, cell_of_row w' sb 3 _ _ _ s1⟩)
        have NP : Hid (∀ w', Fr [] W0 w' → NoPool w' v) := hidI (fun w' f => HNP.out w' (by rw [HW0.out] at f; exact f))
        have k0 := SK.out _ gg
        go_region_held3 (fun w' => w'.cell? ⟨lb, i, none⟩ = some v ∧ w'.cell? ⟨sb, 0, none⟩ = some (.int .i64 blk) ∧ w'.cell? ⟨sb, 1, none⟩ = some (.int .i64 off) ∧ w'.cell? ⟨sb, 2, none⟩ = some (.slice a1 n1 c1) ∧ w'.cell? ⟨sb, 3, none⟩ = some (.slice a2 n2 c2)) (exact SK.out _ gg)
          ((first
            | (go_at_call 15; refine (change_no _ _ (NP.out _ gg) _ _ _ _ _ _ _ _ _).mono ?_; rintro e w7 ⟨rfl, f7⟩; replace gg := gg.trans f7)
            | (go_at_call 16; refine (hold_no _ _ (NP.out _ gg) _).mono ?_; rintro e wx ⟨rfl, hx⟩; rw [hx]; clear hx)
            | (go_at_call 17; refine (leave_no _ _ (NP.out _ gg) _).mono ?_; rintro e wx ⟨rfl, hx⟩; rw [hx]; clear hx)
            | (go_at_call 13; refine (dirty_no _ _ (NP.out _ gg)).mono ?_; rintro e wx ⟨rfl, hx⟩; rw [hx]; clear hx)
            | (go_at_call 18; refine (flush_no _ _ (NP.out _ gg)).mono ?_; rintro e wx ⟨rfl, hx⟩; rw [hx]; clear hx)
            | (go_at_call 12; refine (frames_no _ _ (NP.out _ gg)).mono ?_; rintro e wx ⟨rfl, hx⟩; rw [hx]; clear hx)
            | (go_at_call 9; refine (pages_no _ _ (NP.out _ gg)).mono ?_; rintro e wx ⟨rfl, hx⟩; rw [hx]; clear hx)))
        all_goals go_wp2
        all_goals go_meet
        all_goals exact ⟨rfl, hidI (by rw [HW0.out] at gg; exact gg)⟩
      case rest =>
        obtain ⟨rfl, HG⟩ := hcut
        go_wp2_with fail
        exact ⟨⟨i + 1, by omega, by go_num, trivial, trivial, hidI (HF.out.trans HG.out)⟩, by simp [intOf]; omega⟩
    · have q1 : ¬ (i : Int) < 2 := by omega
      go_wp2_with fail
      refine (Dv.new_dev 20 wr (by omega) (by omega)).mono ?_
      rintro e w4 ⟨rfl, D4, f4⟩
      have f4' : Fr [] wr w4 := fr_dv f4
      obtain ⟨d, HD⟩ : ∃ d, Hid (wr.heap.size + 2 = d) := ⟨_, rfl⟩
      rw [HD.out] at D4
      rw [HD.out]
      have D4' := hidI D4
      clear D4 f4
      go_wp2_with fail
      refine (open_zero w4 d _ _ 20 0 Dv.Tab.none Dv.Tab.none D4'.out 0 8 1 (by omega) (by omega) (by omega) (by omega) (by omega) (st_none 0)).mono ?_
      rintro e w5 ⟨p, rfl, L5, hp5, f5⟩
      have D5 := hidI (dev_kept D4'.out f5 (by simp) (by simp) (by simp))
      have A5 := hidI (lo0_at D5.out (by omega) (by omega) L5)
      have F5 := hidI ((F2.out.trans HF.out).trans (f4'.trans f5))
      clear L5 f5 f4'
      have HN1 := hidI (new_nil w5 (.pointer (some ⟨p, 0, none⟩)) 0 4 8)
      have HN2 := hidI (new_nolog D5.out 0 4 8)
      have HN3 : Hid (Calls Tryz.prog 21 #[.pointer (some ⟨d, 0, none⟩), .pointer (some ⟨p, 0, none⟩), .int .i64 (-1), .int .i64 4, .int .i64 8] w5 fun e w' => e = .returned (.pointer none) ∧ w' = w5) := hidI (new_area A5.out (-1) 4 8 (by omega) (by omega) (Or.inl (by omega)))
      have HN4 : Hid (Calls Tryz.prog 21 #[.pointer (some ⟨d, 0, none⟩), .pointer (some ⟨p, 0, none⟩), .int .i64 8, .int .i64 13, .int .i64 8] w5 fun e w' => e = .returned (.pointer none) ∧ w' = w5) := hidI (new_area A5.out 8 13 8 (by omega) (by omega) (Or.inr (Or.inr (by show (20 : Int) - 13 < 8; omega))))
      have HN5 : Hid (Calls Tryz.prog 21 #[.pointer (some ⟨d, 0, none⟩), .pointer (some ⟨p, 0, none⟩), .int .i64 8, .int .i64 12, .int .i64 8] w5 fun e w' => ∃ pp, e = .returned (.pointer (some ⟨pp, 0, none⟩)) ∧ Fr [] w5 w') := hidI ((new_ok A5.out 8 12 8 (by omega) (by show (8 : Int) + 12 ≤ 20; omega) (by omega) (by omega) (Or.inr (by show (0 : Int) + 8 ≤ 8; omega))).mono (by rintro e w' ⟨pp, _, _, rfl, _, _, _, _, f⟩; exact ⟨pp, rfl, f⟩))
      go_wp2_with fail
      refine HN1.out.mono ?_
      rintro e wx ⟨rfl, hx⟩
      rw [hx]
      clear hx wx
      go_wp2_with fail
      refine HN2.out.mono ?_
      rintro e wx ⟨rfl, hx⟩
      rw [hx]
      clear hx wx
      go_wp2_with fail
      refine HN3.out.mono ?_
      rintro e wx ⟨rfl, hx⟩
      rw [hx]
      clear hx wx
      go_wp2_with fail
      refine HN4.out.mono ?_
      rintro e wx ⟨rfl, hx⟩
      rw [hx]
      clear hx wx
      go_wp2_with fail
      refine HN5.out.mono ?_
      rintro e w8 ⟨pp, rfl, f8⟩
      go_wp2_with fail
      go_ret
      exact ⟨rfl, F5.out.trans f8⟩
end Go.Proofs.YtplboeplknggbaaGreat
