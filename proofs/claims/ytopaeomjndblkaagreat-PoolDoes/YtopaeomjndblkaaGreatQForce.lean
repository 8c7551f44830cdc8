/-
  A log made safe: the program's letGo and Force, where the log is in its first sector.
-/
import Derived.Test.YtopaeomjndblkaaGreatQApp
import Derived.Deep.CutRange
namespace Go.Proofs.YtopaeomjndblkaaGreat
open Go.RowKit Go.Maps

set_option maxHeartbeats 400000 in
set_option maxRecDepth 100000 in
theorem letGo_same (w : World) (p : Nat) (x : Lg) (hx : LBox w p x) (e1 : x.oldest = 1) (e2 : x.from' = 1) (h : 1 ≤ x.safe) :
    Calls Tryz.prog 186 #[.pointer (some ⟨p, 0, none⟩)] w fun e w' => e = .returned (.tuple #[]) ∧ Fr [] w w' := by
  obtain ⟨dv, first, count, turn, oldest, safe, fin, by_, from_, ls⟩ := x
  dsimp only at e1 e2 h
  subst e1 e2
  have c4 : w.cell? ⟨p, 4, none⟩ = some (.int .i64 1) := hx.c4
  have c5 : w.cell? ⟨p, 5, none⟩ = some (.int .i64 safe) := hx.c5
  have c8 : w.cell? ⟨p, 8, none⟩ = some (.int .i64 1) := hx.c8
  have hm : min 1 safe = 1 := by omega
  go_enter Tryz.func186, Tryz.ntmps186
  go_wp2_with fail
  go_quiet (fail)
  have f := (Fr.refl [] w).drewN nq
  have c8 : (w.drewN nq).cell? ⟨p, 8, none⟩ = some (.int .i64 1) := (hx.kept f (by simp)).c8
  generalize w.drewN nq = w1 at f c8 ⊢
  go_wp2
  exact bodyPost_ret (results_none Tryz.results186 _ _ _) rfl ⟨rfl, f⟩

theorem src_of {w : World} {g c : Nat} {l : List UInt8} (h : RowB w g c l) : Dv.Src w g 0 l := by
  intro j v hv
  obtain ⟨b, off, e, hc⟩ := h.bytes j v hv
  cases e
  exact hc

set_option maxHeartbeats 1000000 in
set_option maxRecDepth 100000 in
theorem force_one (w : World) (p d bs bo : Nat) (nb : Int) (S O : Dv.Tab) (hdv : Dv.Dev w d bs bo nb 0 false S O) (first count : Int) (T n gb cb : Nat) (ls : Value) (lb : List UInt8) (hx : LBox w p ⟨.pointer (some ⟨d, 0, none⟩), first, count, (T : Int), 1, 1, (n : Int) + 1, .slice (some ⟨gb, 0, none⟩) n cb, 1, ls⟩) (hb : BytesAt w (some ⟨gb, 0, none⟩) lb) (hl : lb.length = n) (hn0 : 1 ≤ n) (hn : n ≤ 50) (hcb : n ≤ cb) (f0 : 0 ≤ first) (f1 : first + count ≤ nb) (c0 : 4 ≤ count) (hT : T < 2147483648) (hp1 : p ≠ d) (hp2 : p ≠ bs) (hp3 : p ≠ bo) :
    Calls Tryz.prog 84 #[.pointer (some ⟨p, 0, none⟩)] w fun e w' => e = .returned (.int .i64 0) ∧ LBox w' p ⟨.pointer (some ⟨d, 0, none⟩), first, count, (T : Int), 1, (n : Int) + 1, (n : Int) + 1, .slice (some ⟨gb, 0, none⟩) n cb, 1, ls⟩ ∧ Dv.Dev w' d bs bo nb (Dv.left (Dv.left 0)) false (Dv.over S (Dv.Tab.put O first (blk1 T lb))) Dv.Tab.none ∧ Fr [p, d, bs, bo] w w' := by
  have n2 := hdv.n2
  have k0 : w.cell? ⟨p, 0, none⟩ = some (.pointer (some ⟨d, 0, none⟩)) := hx.c0
  have k5 : w.cell? ⟨p, 5, none⟩ = some (.int .i64 1) := hx.c5
  have k6 : w.cell? ⟨p, 6, none⟩ = some (.int .i64 ((n : Int) + 1)) := hx.c6
  have q1 : ((1 : Int) == (n : Int) + 1) = false := by rw [beq_eq_false_iff_ne]; omega
  have hl51 : lb.length ≤ 51 := by omega
  have hpL : p ∉ [d, bo] := by simp; exact ⟨hp1, hp3⟩
  go_enter Tryz.func84, Tryz.ntmps84
  go_wp2_with (go_at_call 177; refine (lmade_yes _ p d k0).mono ?_; rintro e w ⟨rfl, rfl⟩)
  go_quiet (fail)
  have fd := (Fr.refl [] w).drewN nq
  have L1 := hx.kept fd (by simp)
  have D1 := dev_kept hdv fd (by simp) (by simp) (by simp)
  have b1 := hb.kept fd (by simp)
  generalize w.drewN nq = w1 at fd L1 D1 b1 ⊢
  have k51 : w1.cell? ⟨p, 5, none⟩ = some (.int .i64 1) := L1.c5
  clear k0 k5 k6
  go_wp2_with fail
  go_loopw [3] (fun s3 wr => (s3 = .int .i64 1 ∧ wr = w1) ∨ (s3 = .int .i64 409 ∧ LBox wr p ⟨.pointer (some ⟨d, 0, none⟩), first, count, (T : Int), 1, 1, (n : Int) + 1, .slice (some ⟨gb, 0, none⟩) n cb, 1, ls⟩ ∧ Dv.Dev wr d bs bo nb (Dv.left 0) false S (Dv.Tab.put O first (blk1 T lb)) ∧ Fr [d, bo] w1 wr)) (fun s3 _ => 409 - (intOf s3).toNat)
  case atStart => exact Or.inl ⟨rfl, rfl⟩
  case round =>
    rcases hrel with ⟨rfl, hwr⟩ | ⟨rfl, L2, D2, f2⟩
    · subst hwr
      have k6 : wr.cell? ⟨p, 6, none⟩ = some (.int .i64 ((n : Int) + 1)) := L1.c6
      have q2 : (1 : Int) < (n : Int) + 1 := by omega
      go_wp2_with fail
      refine (laid_one wr p _ L1 gb cb n T lb hl hn0 hn hcb b1 rfl rfl rfl rfl hT).mono ?_
      rintro e w2 ⟨g, rfl, rw2, hg2, f2⟩
      have L2 := L1.kept f2 (by simp)
      have D2 := dev_kept D1 f2 (by simp) (by simp) (by simp)
      go_wp2_with fail
      go_cut [6] from 41 to 59 (fun s6 wx => s6 = .int .i64 0 ∧ Dv.Dev wx d bs bo nb (Dv.left 0) false S (Dv.Tab.put O first (blk1 T lb)) ∧ Fr [d, bo] w2 wx)
      case first => as_aux_lemma =>
        obtain ⟨W0, HW0⟩ : ∃ W0, Hid (W0 = w2) := ⟨_, rfl⟩
        have gg : Fr [] W0 w2.drew := (by rw [HW0.out]; exact (Fr.refl _ _).drew)
        rw [← HW0.out] at L2 D2 rw2
        have SK : Hid (∀ w', Fr [] W0 w' → w'.cell? ⟨p, 0, none⟩ = some (.pointer (some ⟨d, 0, none⟩)) ∧ w'.cell? ⟨p, 1, none⟩ = some (.int .i64 first) ∧ w'.cell? ⟨p, 2, none⟩ = some (.int .i64 count)) := hidI (fun w' f => ⟨(L2.kept f (by simp)).c0, (L2.kept f (by simp)).c1, (L2.kept f (by simp)).c2⟩)
        have k0 := SK.out _ gg
        go_region_held3 (fun w' => w'.cell? ⟨p, 0, none⟩ = some (.pointer (some ⟨d, 0, none⟩)) ∧ w'.cell? ⟨p, 1, none⟩ = some (.int .i64 first) ∧ w'.cell? ⟨p, 2, none⟩ = some (.int .i64 count)) (first | exact SK.out _ gg | exact kk)
          ((first
            | (go_at_call 185; refine (block_any _ _ first count 0 (by omega) f0 (by omega) c0 (by omega)).mono ?_; rintro e w7 ⟨rfl, f7⟩; replace gg := gg.trans f7)
            | (go_at_call 129; refine (Dv.write_dev (dev_kept D2 gg (by simp) (by simp) (by simp)) first f0 (by omega) g 0 512 (blk1 T lb) (blk1_length T lb hl51) (src_of (rw2.kept gg (by simp)))).mono ?_; rintro e w8 ⟨rfl, D8, f8⟩; have g8 : Fr [d, bo] W0 w8 := (gg.mono (M := [d, bo]) (fun _ _ e => nomatch e)).trans (fr_dv f8); have kk := And.intro (L2.kept g8 hpL).c0 (And.intro (L2.kept g8 hpL).c1 (L2.kept g8 hpL).c2); rw [show Dv.told (Dv.crash 0) = 0 from rfl])))
        all_goals go_wp2
        all_goals go_meet
        all_goals (have HW := HW0.out; subst HW)
        all_goals exact ⟨rfl, D8, g8⟩
      obtain ⟨rfl, D3, f3⟩ := hcut
      have L3 := L2.kept f3 hpL
      go_wp2_with (go_at_call 183; refine (inBlock_any _ 0 (by omega)).mono ?_; rintro e wc ⟨rfl, rfl⟩)
      exact ⟨Or.inr ⟨rfl, L3, D3, (f2.mono (M := [d, bo]) (fun _ _ e => nomatch e)).trans f3⟩, by simp [intOf]⟩
    · have k6 : wr.cell? ⟨p, 6, none⟩ = some (.int .i64 ((n : Int) + 1)) := L2.c6
      have k0 : wr.cell? ⟨p, 0, none⟩ = some (.pointer (some ⟨d, 0, none⟩)) := L2.c0
      have q2 : ¬ (409 : Int) < (n : Int) + 1 := by omega
      go_wp2_with fail
      refine (Dv.sync_dev D2 rfl).mono ?_
      rintro e w4 ⟨rfl, D4, f4⟩
      have f4' := fr_dv f4
      have L4 := L2.kept f4' (by simp; exact ⟨hp1, hp2, hp3⟩)
      have k64 : w4.cell? ⟨p, 6, none⟩ = some (.int .i64 ((n : Int) + 1)) := L4.c6
      have k54 := L4.c5
      have z54 := L4.fz 5
      have L5 := L4.s5 ((n : Int) + 1)
      have D5 := dev_kept D4 (fr_set w4 p 5 (.int .i64 ((n : Int) + 1))) (by simpa using hp1.symm) (by simpa using hp2.symm) (by simpa using hp3.symm)
      have F5 : Fr [p, d, bs, bo] w (w4.setCell ⟨p, 5, none⟩ (.int .i64 ((n : Int) + 1))) := (((fd.mono (M := [p, d, bs, bo]) (fun _ _ e => nomatch e)).trans (f2.mono (by simp; omega))).trans (f4'.mono (by simp; omega))).trans ((fr_set w4 p 5 _).mono (by intro k _ hk; simp at hk; simp [hk]))
      go_wp2_with fail
      refine (letGo_same _ p _ L5 rfl rfl (by show (1 : Int) ≤ (n : Int) + 1; omega)).mono ?_
      rintro e w6 ⟨rfl, f6⟩
      go_wp2_with fail
      go_ret
      exact ⟨rfl, L5.kept f6 (by simp), dev_kept D5 f6 (by simp) (by simp) (by simp), F5.trans (f6.mono (fun _ _ e => nomatch e))⟩

end Go.Proofs.YtopaeomjndblkaaGreat
