/-
  ChangeDoes: a rig that may not be.
-/
import Derived.Test.YtopaeomjndblkaaGreatZA
namespace Go.Proofs.YtopaeomjndblkaaGreat
open Go.RowKit Go.Maps
open Pg (SpE diffS)

theorem new_frames {w : World} {y : Lo} (h : LoAt w y) (p q r : Int) (hp0 : 0 ≤ p) (hq0 : 1 ≤ q) (hq1 : q ≤ 1000000) (hpq : p ≤ y.nb - q) (hr : r < 8 ∨ 1024 < r) : Calls Tryz.prog 74 #[.pointer (some ⟨y.d, 0, none⟩), .pointer (some ⟨y.p, 0, none⟩), .int .i64 p, .int .i64 q, .int .i64 r] w fun e w' => e = .returned (.pointer none) ∧ w' = w := by
  have n1 := h.dev.n1
  have n2 := h.dev.n2
  have q0 : (y.nb == 0) = false := by rw [beq_eq_false_iff_ne]; omega
  have q1 : ((y.E : Int) + 1 == 0) = false := by rw [beq_eq_false_iff_ne]; omega
  have q2 : IntKind.i64.wrap (y.nb - q) = y.nb - q := wrapI _ (by omega) (by omega)
  have q3 : ¬ p < 0 := by omega
  have q4 : ¬ q < 1 := by omega
  have q5 : ¬ y.nb - q < p := by omega
  have HH := hidI h
  clear h hp0 hq0 hpq
  by_cases h1 : r < 8
  · clear hr
    go_enter Tryz.func74, Tryz.ntmps74
    go_wp2_with (first
      | (go_at_call 120; refine (Dv.blocks_dev HH.out.dev).mono ?_; rintro e wz ⟨rfl, hz⟩; rw [hz]; clear hz)
      | (go_at_call 77; refine (lo_end HH.out).mono ?_; rintro e wz ⟨rfl, hz⟩; rw [hz]; clear hz))
    go_ret
    exact ⟨rfl, rfl⟩
  · have h2 : 1024 < r := by omega
    clear hr
    go_enter Tryz.func74, Tryz.ntmps74
    go_wp2_with (first
      | (go_at_call 120; refine (Dv.blocks_dev HH.out.dev).mono ?_; rintro e wz ⟨rfl, hz⟩; rw [hz]; clear hz)
      | (go_at_call 77; refine (lo_end HH.out).mono ?_; rintro e wz ⟨rfl, hz⟩; rw [hz]; clear hz))
    go_ret
    exact ⟨rfl, rfl⟩
/-- A book of no pool. -/
theorem new_nopool {w : World} {y : Lo} (h : LoAt w y) {m : Mst} (hm : Mas y.S y.O m) (hn : 24 ≤ y.nb) :
    Calls Tryz.prog 39 #[.pointer (some ⟨y.d, 0, none⟩), .pointer (some ⟨y.p, 0, none⟩), .pointer none] w fun e w' => e = .returned (.pointer none) ∧ Fr [] w w' := by
  have HH := hidI h
  have HM := hidI hm
  have n2 := h.dev.n2
  obtain ⟨a1, a2, a3⟩ := m
  have q1 : (((y.E : Int) + 1) == 0) = false := by rw [beq_eq_false_iff_ne]; omega
  have q3 : ¬ ((y.E : Int) + 1 = 0) := by omega
  have HPL := hidI (fun w' => place_ok w' y.nb hn (by omega))
  clear h hm
  go_enter Tryz.func39, Tryz.ntmps39
  go_wp2_with fail
  refine (mas_read HH.out.dev (by omega) HM.out).mono ?_
  unfold mV
  rintro e w2 ⟨rfl, f2⟩
  have f3 : Fr [] w2 (w2.alloc (.cells #[.int .i64 a1, .int .i64 a2, .int .i64 a3] 72)) := (Fr.refl [] w2).alloc _
  obtain ⟨w3, hw3⟩ : ∃ w3, w2.alloc (.cells #[.int .i64 a1, .int .i64 a2, .int .i64 a3] 72) = w3 := ⟨_, rfl⟩
  have F3 : Fr [] w w3 := by rw [← hw3]; exact f2.trans f3
  have P3 := hidI (HH.out.kept F3 (by simp))
  go_wp2_with (first
    | (go_at_call 120; refine (Dv.blocks_dev P3.out.dev).mono ?_; rintro e w9 ⟨rfl, hz⟩; rw [hz]; clear hz)
    | (go_at_call 87; refine (HPL.out w3).mono ?_; rintro e w9 ⟨rfl, hz⟩; rw [hz]; clear hz)
    | (go_at_call 77; refine (lo_end P3.out).mono ?_; rintro e w9 ⟨rfl, hz⟩; rw [hz]; clear hz)
    | (go_at_call 17; refine (pages_no w3 _ (Or.inl rfl)).mono ?_; rintro e w9 ⟨rfl, hz⟩; rw [hz]; clear hz))
  go_ret
  exact ⟨rfl, F3⟩
set_option maxHeartbeats 4000000 in
set_option maxRecDepth 100000 in
theorem cbegin_frames (w : World) (nb : Nat) (most : Int) (h0 : 24 ≤ nb) (h1 : nb ≤ 65536) (hm : most < 8 ∨ 1024 < most) :
    Calls Tryz.prog 23 #[.int .i64 (nb : Int), .int .i64 most] w fun e w' => ∃ v, e = .returned (.tuple #[v, .bool false]) ∧ Fr [] w w' := by
  obtain ⟨cnt, hcnt⟩ : ∃ cnt : Int, (nb : Int) / 2 = cnt := ⟨_, rfl⟩
  obtain ⟨at', hat⟩ : ∃ at' : Int, (nb : Int) - cnt = at' := ⟨_, rfl⟩
  obtain ⟨pages, hpages⟩ : ∃ pages : Nat, (nb : Int) - 2 - cnt = (pages : Int) := ⟨((nb : Int) - 2 - cnt).toNat, by omega⟩
  have z1 : 4 ≤ cnt := by omega
  have z2 : 2 ≤ at' := by omega
  have z3 : at' + cnt ≤ (nb : Int) := by omega
  have z4 : 1 ≤ pages := by omega
  have z5 : 2 + (pages : Int) ≤ at' := by omega
  have HCN := hidI hcnt
  have HAT := hidI hat
  have HPG := hidI hpages
  have HPL : Hid (∀ w', Calls Tryz.prog 87 #[.int .i64 (nb : Int)] w' fun e w'' => e = .returned (.tuple #[.int .i64 2, .int .i64 (pages : Int), .int .i64 at', .int .i64 cnt]) ∧ w'' = w') := hidI (fun w' => place_let w' nb pages at' cnt h0 h1 hcnt hat hpages)
  clear hcnt hat hpages
  go_enter Tryz.func23, Tryz.ntmps23
  go_wp2_with fail
  refine (Dv.new_dev (nb : Int) w (by omega) (by omega)).mono ?_
  rintro e w1 ⟨rfl, D1, f1⟩
  have f1' : Fr [] w w1 := fr_dv f1
  obtain ⟨d, hd⟩ : ∃ d, d = w.heap.size + 2 := ⟨_, rfl⟩
  obtain ⟨bo, hbo⟩ : ∃ bo, bo = w.heap.size + 1 := ⟨_, rfl⟩
  obtain ⟨bs, hbs⟩ : ∃ bs, bs = w.heap.size := ⟨_, rfl⟩
  rw [← hd, ← hbo, ← hbs] at D1
  rw [← hd]
  have HLT : Hid (w.heap.size ≤ d ∧ w.heap.size ≤ bs ∧ w.heap.size ≤ bo ∧ d < w1.heap.size ∧ bs < w1.heap.size ∧ bo < w1.heap.size) := hidI (by
    have a1 : d < w1.heap.size := (Array.getElem?_eq_some_iff.1 D1.cells).1
    omega)
  have D1' := hidI D1
  clear hd hbo hbs D1 f1
  have f2 : Fr [] w1 (w1.alloc (.cells #[.pointer (some ⟨d, 0, none⟩), .pointer none, .pointer none, .pointer none] 62)) := (Fr.refl [] w1).alloc _
  have r2 := heap_alloc_new w1 (.cells #[.pointer (some ⟨d, 0, none⟩), .pointer none, .pointer none, .pointer none] 62)
  obtain ⟨w2, hw2⟩ : ∃ w2, w1.alloc (.cells #[.pointer (some ⟨d, 0, none⟩), .pointer none, .pointer none, .pointer none] 62) = w2 := ⟨_, rfl⟩
  rw [hw2] at f2 r2
  have D2 := hidI (dev_kept D1'.out f2 (by simp) (by simp) (by simp))
  have x0 := cell_of_row _ w1.heap.size 0 _ _ _ r2
  have nrg : w1.heap.size ∉ [d, bs, bo] := by
    intro hm
    have := HLT.out
    simp at hm
    omega
  go_wp2_with fail
  refine (format_any w2 d bs bo (nb : Int) _ _ D2.out (by omega) (by omega)).mono ?_
  rintro e w3 ⟨rfl, ⟨O', hO, D3⟩, f3⟩
  have r3 := f3.same nrg r2
  have y0 := cell_of_row _ w1.heap.size 0 _ _ _ r3
  have HO := hidI hO
  have D3' : Hid (Dv.Dev w3 d bs bo (nb : Int) 0 false (fmS O') Dv.Tab.none) := hidI D3
  clear hO D3 x0
  go_wp2_with (go_at_call 87; refine (HPL.out _).mono ?_; rintro e w9 ⟨rfl, hz⟩; rw [hz]; clear hz)
  refine (open_zero w3 d bs bo (nb : Int) 0 _ _ D3'.out at' cnt 2 (by omega) z3 z1 (by omega) (by omega) (by rw [fm_zero HO.out (by omega) (by omega) (by omega)]; exact zs_stamp)).mono ?_
  rintro e w4 ⟨p, rfl, L4, hp4, f4⟩
  have r4 := f4.same (by simp) r3
  have v0 := cell_of_row _ w1.heap.size 0 _ _ _ r4
  have v1 := cell_of_row _ w1.heap.size 1 _ _ _ r4
  have fz1 := frozen_of_row w4 w1.heap.size 1 _ _ r4
  have D4 := hidI (dev_kept D3'.out f4 (by simp) (by simp) (by simp))
  have L4' := hidI L4
  clear L4 y0
  have r5 := heap_setCell_same w4 w1.heap.size 1 _ _ (.pointer (some ⟨p, 0, none⟩)) r4
  have f5 := fr_set w4 w1.heap.size 1 (.pointer (some ⟨p, 0, none⟩))
  have np : p ≠ w1.heap.size := fun e => by
    have h1 := L4'.out
    unfold LBox at h1
    rw [e, r4] at h1
    simp at h1
  have LO5 : Hid (LoAt (w4.setCell ⟨w1.heap.size, 1, none⟩ (.pointer (some ⟨p, 0, none⟩))) (loF d bs bo (nb : Int) (fmS O') p at' cnt 2)) := hidI (loF_at (dev_kept D4.out f5 (fun e => nrg (by simp at e; simp [e])) (fun e => nrg (by simp at e; simp [e])) (fun e => nrg (by simp at e; simp [e]))) z1 z2 z3 (by omega) (L4'.out.kept f5 (by simpa using np)))
  go_wp2_with fail
  generalize w4.setCell ⟨w1.heap.size, 1, none⟩ (.pointer (some ⟨p, 0, none⟩)) = w5 at r5 f5 LO5 ⊢
  have r5' : w5.heap[w1.heap.size]? = some (.cells #[.pointer (some ⟨d, 0, none⟩), .pointer (some ⟨p, 0, none⟩), .pointer none, .pointer none] 62) := r5
  have u0 := cell_of_row _ w1.heap.size 0 _ _ _ r5'
  have u1 := cell_of_row _ w1.heap.size 1 _ _ _ r5'
  have HNP : Hid (∀ w', Fr [] w5 w' → Calls Tryz.prog 74 #[.pointer (some ⟨d, 0, none⟩), .pointer (some ⟨p, 0, none⟩), .int .i64 2, .int .i64 (pages : Int), .int .i64 most] w' fun e w'' => e = .returned (.pointer none) ∧ w'' = w') := hidI (fun w' f => by
    have h9 := new_frames (LO5.out.kept f (by simp)) 2 (pages : Int) most (by decide) (by omega) (by omega) (by show (2 : Int) ≤ (nb : Int) - (pages : Int); omega) hm
    exact h9)
  have HKP : Hid (∀ w', Fr [w1.heap.size] w5 w' → LoAt w' (loF d bs bo (nb : Int) (fmS O') p at' cnt 2)) := hidI (fun w' f => LO5.out.kept f (fun k hk hm => by
    have hl := HLT.out
    simp at hm
    simp [loF, Lo.own, Value.ownBlock] at hk
    omega))
  have HNB : Hid (∀ w', Fr [w1.heap.size] w5 w' → Calls Tryz.prog 39 #[.pointer (some ⟨d, 0, none⟩), .pointer (some ⟨p, 0, none⟩), .pointer none] w' fun e w'' => e = .returned (.pointer none) ∧ Fr [] w' w'') := hidI (fun w' f => by
    have h9 := new_nopool (HKP.out w' f) (fm_mas HO.out (by omega)) (by show (24 : Int) ≤ (nb : Int); omega)
    exact h9)
  have F5 : Hid (Fr [] w w5) := hidI (by
    have hl := HLT.out
    have l1 := f1'.size
    have l2 := f2.size
    have a1 : Fr [] w w2 := f1'.trans f2
    have a2 : Fr [] w w3 := a1.then f3 (fun i hi hm => by simp at hm; omega)
    exact (a2.trans f4).then f5 (fun i hi hm => by simp at hm; omega))
  have hw1s : w.heap.size ≤ w1.heap.size := f1'.size
  have R5 := hidI r5'
  clear v0 v1 fz1 r5 HPL L4' D4 D3' D2 r2 r3 r4 f4 f3 f2 hp4 np nrg hw2 LO5 HKP HO f5 r5'
  go_region_law ((go_simp; go_at_call 74; refine (HNP.out _ (Fr.refl [] w5).drew).mono ?_; rintro e w6 ⟨rfl, hz6⟩; have F6 : Hid (Fr [] w5 w6) := hidI (by rw [hz6]; exact (Fr.refl [] w5).drew); have r6 := F6.out.same (by simp) R5.out; have t2 := cell_of_row _ w1.heap.size 2 _ _ _ r6; have tz := frozen_of_row w6 w1.heap.size 2 _ _ r6; clear hz6))
  all_goals
    have r7 := heap_setCell_same w6 w1.heap.size 2 _ _ (.pointer none) r6
    have f7 := fr_set w6 w1.heap.size 2 (.pointer none)
    generalize w6.setCell ⟨w1.heap.size, 2, none⟩ (.pointer none) = w7 at r7 f7 ⊢
    have r7' : w7.heap[w1.heap.size]? = some (.cells #[.pointer (some ⟨d, 0, none⟩), .pointer (some ⟨p, 0, none⟩), .pointer none, .pointer none] 62) := r7
    have y0 : w7.cell? ⟨w1.heap.size, 0, none⟩ = some (.pointer (some ⟨d, 0, none⟩)) := cell_of_row _ w1.heap.size 0 _ _ _ r7'
    have y1 : w7.cell? ⟨w1.heap.size, 1, none⟩ = some (.pointer (some ⟨p, 0, none⟩)) := cell_of_row _ w1.heap.size 1 _ _ _ r7'
    have y2 : w7.cell? ⟨w1.heap.size, 2, none⟩ = some (.pointer none) := cell_of_row _ w1.heap.size 2 _ _ _ r7'
    have R7 := hidI r7'
    have F7 : Hid (Fr [w1.heap.size] w5 w7) := hidI ((F6.out.mono (fun i _ hm => by simp at hm)).trans f7)
    clear r7 r7' t2 tz r6
    go_wp2_with fail
    go_region_law ((go_simp; go_at_call 39; refine (HNB.out _ ((F7.out.trans ((Fr.refl [] w7).drew.mono (fun i _ hm => by simp at hm))))).mono ?_; rintro e w8 ⟨rfl, f8⟩; have F8 : Hid (Fr [] w7 w8) := hidI ((Fr.refl [] w7).drew.trans f8); have r8 := F8.out.same (by simp) R7.out; have t3 := cell_of_row _ w1.heap.size 3 _ _ _ r8; have tz3 := frozen_of_row w8 w1.heap.size 3 _ _ r8; clear f8))
    all_goals
      have r9 := heap_setCell_same w8 w1.heap.size 3 _ _ (.pointer none) r8
      have f9 := fr_set w8 w1.heap.size 3 (.pointer none)
      generalize w8.setCell ⟨w1.heap.size, 3, none⟩ (.pointer none) = w9 at r9 f9 ⊢
      have r9' : w9.heap[w1.heap.size]? = some (.cells #[.pointer (some ⟨d, 0, none⟩), .pointer (some ⟨p, 0, none⟩), .pointer none, .pointer none] 62) := r9
      have x3 : w9.cell? ⟨w1.heap.size, 3, none⟩ = some (.pointer none) := cell_of_row _ w1.heap.size 3 _ _ _ r9'
      have FF : Fr [] w w9 := ((F5.out.then F7.out (fun i hi hm => by simp at hm; omega)).trans F8.out).then f9 (fun i hi hm => by simp at hm; omega)
      clear r9 r9' r8 t3 tz3
      go_wp2_with fail
      go_region_law fail
      all_goals
        go_wp2_with fail
        go_ret2
        first
          | exact ⟨_, rfl, FF⟩
          | exact ⟨_, rfl, FF.drew⟩
set_option maxHeartbeats 1000000 in
set_option maxRecDepth 100000 in
theorem cbegin_few (w : World) (bl fr : Int) (h0 : 0 ≤ bl) (h1 : bl < 24) :
    Calls Tryz.prog 23 #[.int .i64 bl, .int .i64 fr] w fun e w' => ∃ v, e = .returned (.tuple #[v, .bool false]) ∧ Fr [] w w' := by
  by_cases hz : bl < 1
  · have NX := Dv.new_no bl w (Or.inl hz)
    go_enter Tryz.func23, Tryz.ntmps23
    go_wp2_with fail
    refine NX.mono ?_
    rintro e w1 ⟨rfl, hw1⟩
    rw [hw1]
    clear hw1 NX
    have f2 : Fr [] w (w.alloc (.cells #[.pointer none, .pointer none, .pointer none, .pointer none] 62)) := (Fr.refl [] w).alloc _
    have r2 := heap_alloc_new w (.cells #[.pointer none, .pointer none, .pointer none, .pointer none] 62)
    obtain ⟨w2, hw2⟩ : ∃ w2, w.alloc (.cells #[.pointer none, .pointer none, .pointer none, .pointer none] 62) = w2 := ⟨_, rfl⟩
    rw [hw2] at f2 r2
    have x0 : w2.cell? ⟨w.heap.size, 0, none⟩ = some (.pointer none) := cell_of_row _ w.heap.size 0 _ _ _ r2
    go_wp2_with (go_at_call 37; refine (format_nil w2).mono ?_; rintro e w3 ⟨rfl, f3⟩)
    go_ret2
    exact ⟨_, rfl, f2.trans f3⟩
  · have b1 : 1 ≤ bl := by omega
    go_enter Tryz.func23, Tryz.ntmps23
    go_wp2_with fail
    refine (Dv.new_dev bl w (by omega) (by omega)).mono ?_
    rintro e w1 ⟨rfl, D1, f1⟩
    have f1' : Fr [] w w1 := fr_dv f1
    obtain ⟨d, hd⟩ : ∃ d, d = w.heap.size + 2 := ⟨_, rfl⟩
    have D1' := hidI D1
    rw [← hd]
    have HD := hidI hd
    clear hd D1 f1 hz
    have f2 : Fr [] w1 (w1.alloc (.cells #[.pointer (some ⟨d, 0, none⟩), .pointer none, .pointer none, .pointer none] 62)) := (Fr.refl [] w1).alloc _
    have r2 := heap_alloc_new w1 (.cells #[.pointer (some ⟨d, 0, none⟩), .pointer none, .pointer none, .pointer none] 62)
    obtain ⟨w2, hw2⟩ : ∃ w2, w1.alloc (.cells #[.pointer (some ⟨d, 0, none⟩), .pointer none, .pointer none, .pointer none] 62) = w2 := ⟨_, rfl⟩
    rw [hw2] at f2 r2
    have x0 : w2.cell? ⟨w1.heap.size, 0, none⟩ = some (.pointer (some ⟨d, 0, none⟩)) := cell_of_row _ w1.heap.size 0 _ _ _ r2
    have FX := hidI (format_few w2 _ _ _ bl _ _ (dev_kept D1'.out f2 (by simp) (by simp) (by simp)) (by omega) h1)
    rw [← HD.out] at FX
    clear D1' r2
    go_wp2_with (go_at_call 37; refine FX.out.mono ?_; rintro e w3 ⟨rfl, f3⟩)
    go_ret2
    exact ⟨_, rfl, (f1'.trans f2).trans f3⟩
end Go.Proofs.YtopaeomjndblkaaGreat

