/-
  The records that bytes begin with: the program's find, where there is none, or one.
-/
import Derived.Test.YtopaeomjndblkaaGreatY13Z
namespace Go.Proofs.YtopaeomjndblkaaGreat
open Go.RowKit Go.Maps

theorem resM2 {fn : Func} {p q : Tmp} (h : fn.results = #[.cell p 72, .tmp q]) (tmps : Array Value) (w : World) (b : Nat) (m : Mst) (hp : tmps.getD p undef = .pointer (some ⟨b, 0, none⟩)) (hg : MBox w b m) :
    (results fn tmps).run Tryz.prog w = .ok (.tuple #[.agg (mV m), tmps.getD q undef]) w := by
  have hl := run_loadVar_row w b 72 72 #[.int .i64 m.seq, .int .i64 m.turn, .int .i64 m.old] (0, 0) _ hg Tryz.underlying72 rfl (by rw [sizeM]; rfl)
  have hp2 : tmps[p]?.getD undef = .pointer (some ⟨b, 0, none⟩) := by simpa using hp
  simp only [results, h]
  simp [hp2, asAddr, hl]
  rfl
/-- The later of two masters. -/
def later (a b : Mst) : Mst := if a.seq < b.seq then b else a
def bestM (m0 m1 : Mst) : Nat → Mst
  | 0 => ⟨0, 0, 0⟩
  | 1 => later ⟨0, 0, 0⟩ m0
  | _ => later (later ⟨0, 0, 0⟩ m0) m1
set_option maxHeartbeats 2000000 in
set_option maxRecDepth 100000 in
theorem mread_any (w : World) (d bs bo : Nat) (nb a : Int) (S O : Dv.Tab) (hd : Dv.Dev w d bs bo nb a false S O) (hn : 2 ≤ nb) (m0 m1 m : Mst) (h0 : Stands (Dv.latest S O 0) 0 m0) (h1 : Stands (Dv.latest S O 1) 1 m1) (hm : MOk m)
    (hmm : m = bestM m0 m1 2) :
    Calls Tryz.prog 35 #[.pointer (some ⟨d, 0, none⟩)] w fun e w' => e = .returned (.tuple #[.agg (mV m), .int .i64 0]) ∧ Fr [] w w' := by
  have f1 : Fr [] w (w.alloc (.cells #[.int .i64 0, .int .i64 0, .int .i64 0] 72)) := (Fr.refl [] w).alloc _
  have hM := heap_alloc_new w (.cells #[.int .i64 0, .int .i64 0, .int .i64 0] 72)
  have hs1 : (w.alloc (.cells #[.int .i64 0, .int .i64 0, .int .i64 0] 72)).heap.size = w.heap.size + 1 := by simp
  obtain ⟨w1, hw1⟩ : ∃ w1, w.alloc (.cells #[.int .i64 0, .int .i64 0, .int .i64 0] 72) = w1 := ⟨_, rfl⟩
  rw [hw1] at f1 hM hs1
  have f2 : Fr [] w1 (w1.alloc (.cells #[.int .i64 0, .int .i64 0, .int .i64 0] 72)) := (Fr.refl [] w1).alloc _
  have hA := heap_alloc_new w1 (.cells #[.int .i64 0, .int .i64 0, .int .i64 0] 72)
  obtain ⟨w2, hw2⟩ : ∃ w2, w1.alloc (.cells #[.int .i64 0, .int .i64 0, .int .i64 0] 72) = w2 := ⟨_, rfl⟩
  rw [hw2] at f2 hA
  rw [hs1] at hA
  have hM2 := f2.same (by simp) hM
  have HD := hidI hd
  have D1 := hidI (dev_kept hd f1 (by simp) (by simp) (by simp))
  have z0 : ¬ nb = 0 := by omega
  have H0 := hidI h0
  have H1 := hidI h1
  have HM := hidI hm
  have HMM := hidI hmm
  clear hm hmm h0 h1
  go_enter Tryz.func35, Tryz.ntmps35
  go_wp2_with (go_at_call 120; refine (Dv.blocks_dev D1.out).mono ?_; rintro e w3 ⟨rfl, hz⟩; rw [hz]; clear hz)
  go_loopw [13] (fun s13 wr => ∃ j : Nat, s13 = .int .i64 (j : Int) ∧ j ≤ 2 ∧ Hid (MBox wr (w.heap.size + 1) (bestM m0 m1 j) ∧ Fr [w.heap.size + 1] w2 wr)) (fun i _ => 2 - (intOf i).toNat)
  case atStart => exact ⟨0, rfl, by omega, hidI ⟨hA, Fr.refl _ _⟩⟩
  case round =>
    obtain ⟨j, rfl, hj, HR⟩ := hrel
    have FW := hidI (((f1.trans f2).then HR.out.2 (fun i hi e => by simp at e; omega)) : Fr [] w wr)
    have MR := hidI (HR.out.2.same (by simp) hM2)
    by_cases hlt : j < 2
    · obtain ⟨mj, HS⟩ : ∃ mj, Hid (Stands (Dv.latest S O (j : Int)) (j : Int) mj ∧ later (bestM m0 m1 j) mj = bestM m0 m1 (j + 1)) := by
        rcases (by omega : j = 0 ∨ j = 1) with rfl | rfl
        · exact ⟨m0, hidI ⟨H0.out, rfl⟩⟩
        · exact ⟨m1, hidI ⟨H1.out, rfl⟩⟩
      obtain ⟨L, hL⟩ : ∃ L, bestM m0 m1 j = L := ⟨_, rfl⟩
      have HX := hidI (⟨HR.out, hL⟩ : _ ∧ _)
      rw [hL] at HS
      have L0 : MBox wr (w.heap.size + 1) L := by rw [← hL]; exact HR.out.1
      clear hL
      obtain ⟨x, y, z⟩ := L
      obtain ⟨p, q, r⟩ := mj
      go_wp2_with fail
      refine (dread (dev_kept HD.out FW.out (by simp) (by simp) (by simp)) (j : Int) (by omega) (by omega)).mono ?_
      rintro e w4 ⟨g, rfl, b4, hg, g4⟩
      go_wp2_with fail
      refine (standing_any w4 g 512 _ _ _ HS.out.1 b4 (by omega)).mono ?_
      rintro e w5 ⟨rfl, g5⟩
      have f6 : Fr [] w5 (w5.alloc (.cells #[.int .i64 p, .int .i64 q, .int .i64 r] 72)) := (Fr.refl [] w5).alloc _
      have L6 := f6.same (by simp) (g5.same (by simp) (g4.same (by simp) L0))
      have c60 := cell_of_row _ (w.heap.size + 1) 0 _ _ _ L6
      have G6 := hidI (HR.out.2.trans ((g4.trans (g5.trans f6)).mono (by simp)))
      simp only [mV]
      by_cases hpx : x < p
      · go_wp2_with (refine wp_storeM rfl _ _ rfl (w.heap.size + 1) ⟨x, y, z⟩ ⟨p, q, r⟩ rfl rfl L6 ?_; intro w7 r7 f7)
        exact ⟨⟨_, _, _, _, _, _, ⟨j + 1, rfl, by omega, hidI ⟨by rw [← HS.out.2]; unfold later; rw [if_pos hpx]; exact r7, G6.out.trans f7⟩⟩, rfl, rfl, rfl, rfl, rfl, rfl⟩, by simp [intOf]; omega⟩
      · go_wp2_with fail
        exact ⟨⟨_, _, _, _, _, _, ⟨j + 1, rfl, by omega, hidI ⟨by rw [← HS.out.2]; unfold later; rw [if_neg (Int.not_lt.2 hpx)]; exact L6, G6.out⟩⟩, rfl, rfl, rfl, rfl, rfl, rfl⟩, by simp [intOf]; omega⟩
    · obtain rfl : j = 2 := by omega
      have hmm := HMM.out
      have L0 : MBox wr (w.heap.size + 1) m := by rw [hmm]; exact HR.out.1
      have hmk := HM.out
      clear hmm HMM
      obtain ⟨x, y, z⟩ := m
      have c0 := cell_of_row _ (w.heap.size + 1) 0 _ _ _ L0
      have c1 := cell_of_row _ (w.heap.size + 1) 1 _ _ _ L0
      have c2 := cell_of_row _ (w.heap.size + 1) 2 _ _ _ L0
      have n0 : ¬ x = 0 := by have := hmk.s0; dsimp only at this; omega
      clear hmk
      go_wp2_with (refine wp_storeM rfl _ _ rfl w.heap.size ⟨0, 0, 0⟩ ⟨x, y, z⟩ rfl rfl MR.out ?_; intro w7 r7 f7)
      exact bodyPost_ret (resM2 Tryz.results35 _ _ _ ⟨x, y, z⟩ rfl r7) rfl ⟨rfl, FW.out.then f7 (fun i hi e => by simp at e; omega)⟩
end Go.Proofs.YtopaeomjndblkaaGreat

namespace Go.Proofs.YtopaeomjndblkaaGreat
open Go.RowKit Go.Maps

theorem src_blk {w : World} {g : Nat} {l : List UInt8} (h : Blk w g l) : Dv.Src w g 0 l := by
  intro j v hv
  obtain ⟨b, off, e, hc⟩ := h.bytes j v hv
  cases e
  exact hc

set_option maxRecDepth 100000 in
theorem mw2_any (w : World) (d bs bo : Nat) (nb : Int) (S O : Dv.Tab) (hd : Dv.Dev w d bs bo nb 0 false S O) (x : Nat) (t : TypeId) (hx : w.heap[x]? = some (.cells #[.pointer (some ⟨d, 0, none⟩)] t)) :
    Calls Tryz.prog 132 #[.pointer (some ⟨x, 0, none⟩)] w fun e w' => e = .returned (.int .i64 0) ∧ Dv.Dev w' d bs bo nb 0 false (Dv.over S O) Dv.Tab.none ∧ Fr [d, bs, bo] w w' := by
  have c0 := cell_of_row w x 0 _ _ _ hx
  go_enter Tryz.func132, Tryz.ntmps132
  go_wp2_with (go_at_call 125; refine (Dv.sync_dev hd rfl).mono ?_; rintro e w3 ⟨rfl, D3, f3⟩)
  go_ret
  exact ⟨rfl, D3, fr_dv f3⟩
set_option maxRecDepth 100000 in
theorem mw1_any (w : World) (d bs bo : Nat) (nb : Int) (S O : Dv.Tab) (hd : Dv.Dev w d bs bo nb 0 false S O) (hn : 2 ≤ nb) (x y : Nat) (t : TypeId) (hx : w.heap[x]? = some (.cells #[.pointer (some ⟨d, 0, none⟩)] t)) (m : Mst) (hm : MOk m) (hy : MBox w y m) (nx : x ∉ [d, bo]) (ny : y ∉ [d, bo]) :
    Calls Tryz.prog 128 #[.pointer (some ⟨x, 0, none⟩), .pointer (some ⟨y, 0, none⟩)] w fun e w' => e = .returned (.int .i64 0) ∧ Dv.Dev w' d bs bo nb 0 false S (O.put (m.seq % 2) (mBytes m)) ∧ Fr [d, bo] w w' := by
  have HD := hidI hd
  have HL1 := hidI (fun (w' : World) (_ : Fr [] w w') => laid_any w' m hm)
  have HB1 := hidI (fun (w' : World) (_ : Fr [] w w') => mblock_any w' m hm)
  have SK := hidI (fun (w' : World) (f : Fr [d, bo] w w') => (⟨cell_of_row w' x 0 _ _ _ (f.same nx hx), cell_of_row w' y 0 _ _ _ (f.same ny hy), cell_of_row w' y 1 _ _ _ (f.same ny hy), cell_of_row w' y 2 _ _ _ (f.same ny hy)⟩ : w'.cell? ⟨x, 0, none⟩ = some (.pointer (some ⟨d, 0, none⟩)) ∧ w'.cell? ⟨y, 0, none⟩ = some (.int .i64 m.seq) ∧ w'.cell? ⟨y, 1, none⟩ = some (.int .i64 m.turn) ∧ w'.cell? ⟨y, 2, none⟩ = some (.int .i64 m.old)))
  have gg : Fr [] w w.drew := (Fr.refl [] w).drew
  have k0 : 0 ≤ m.seq % 2 := by omega
  have k1 : m.seq % 2 < nb := by omega
  clear hd hm hx hy
  go_enter Tryz.func128, Tryz.ntmps128
  go_wp2_with fail
  go_region_held3 (fun w' => w'.cell? ⟨x, 0, none⟩ = some (.pointer (some ⟨d, 0, none⟩)) ∧ w'.cell? ⟨y, 0, none⟩ = some (.int .i64 m.seq) ∧ w'.cell? ⟨y, 1, none⟩ = some (.int .i64 m.turn) ∧ w'.cell? ⟨y, 2, none⟩ = some (.int .i64 m.old)) (first | exact SK.out _ (gg.mono (by simp)) | exact SK.out _ g6) ((first
    | (go_at_call 130; refine (HB1.out _ gg).mono ?_; rintro e w4 ⟨rfl, f4⟩; replace gg := gg.trans f4; first | (replace bb : Blk _ _ _ := f4.same (by simp) bb) | skip)
    | (go_at_call 131; refine (HL1.out _ gg).mono ?_; rintro e w4 ⟨g5, rfl, bb, hg5, f4⟩; replace gg := gg.trans f4)
    | (go_at_call 129; refine (Dv.write_dev (dev_kept HD.out gg (by simp) (by simp) (by simp)) (m.seq % 2) k0 k1 _ 0 512 (mBytes m) (mBytes_length m) (src_blk bb)).mono ?_; rintro e w5 ⟨rfl, D5, f5⟩; have g6 := (gg.mono (M := [d, bo]) (by simp)).trans (fr_dv f5))))
  all_goals
    go_wp2_with fail
    go_ret
    exact ⟨rfl, D5, g6⟩
end Go.Proofs.YtopaeomjndblkaaGreat

namespace Go.Proofs.YtopaeomjndblkaaGreat
open Go.RowKit Go.Maps

def flW (B : Nat) : List (FuncId × List Value) := [(128, [.pointer (some ⟨B, 0, none⟩), .pointer (some ⟨B + 1, 0, none⟩)]), (132, [.pointer (some ⟨B, 0, none⟩)])]
def WrI (wt : World) (d bs bo : Nat) (nb : Int) (S O : Dv.Tab) (m : Mst) : Nat → World → Prop
  | 0 => fun w' => Dv.Dev w' d bs bo nb 0 false S O ∧ Fr [d, bs, bo] wt w'
  | 1 => fun w' => Dv.Dev w' d bs bo nb 0 false S (O.put (m.seq % 2) (mBytes m)) ∧ Fr [d, bs, bo] wt w'
  | _ => fun w' => Dv.Dev w' d bs bo nb 0 false (Dv.over S (O.put (m.seq % 2) (mBytes m))) Dv.Tab.none ∧ Fr [d, bs, bo] wt w'
theorem WrI.fr {wt : World} {d bs bo : Nat} {nb : Int} {S O : Dv.Tab} {m : Mst} : ∀ {i : Nat} {w' : World}, WrI wt d bs bo nb S O m i w' → Fr [d, bs, bo] wt w'
  | 0, _, h => h.2
  | 1, _, h => h.2
  | _ + 2, _, h => h.2
theorem enW (w : World) (B : Nat) : ∀ (i : Nat) (p : FuncId × List Value), (flW B)[i]? = some p → (callFunc p.1 p.2.toArray).run Tryz.prog w = .ok (.enter p.1 p.2.toArray) w
  | 0, p, h => by cases h; go_simp
  | 1, p, h => by cases h; go_simp
  | n + 2, p, h => by simp [flW] at h
set_option maxRecDepth 100000 in
theorem mw_any (w : World) (d bs bo : Nat) (nb : Int) (S O : Dv.Tab) (hd : Dv.Dev w d bs bo nb 0 false S O) (hn : 24 ≤ nb) (m : Mst) (hm : MOk m) :
    Calls Tryz.prog 38 #[.pointer (some ⟨d, 0, none⟩), .agg (mV m)] w fun e w' => e = .returned (.int .i64 0) ∧ Dv.Dev w' d bs bo nb 0 false (Dv.over S (O.put (m.seq % 2) (mBytes m))) Dv.Tab.none ∧ Fr [d, bs, bo] w w' := by
  have HM := hidI hm
  clear hm
  have z0 : ¬ nb = 0 := by omega
  have z1 : ¬ nb < 24 := by omega
  unfold mV
  have HD := hidI hd
  have s1 : (w.alloc (.cells #[.pointer (some ⟨d, 0, none⟩)] 24)).heap.size = w.heap.size + 1 := by simp
  have bx := (((Fr.refl [] (w.alloc (.cells #[.pointer (some ⟨d, 0, none⟩)] 24))).alloc (.cells #[.int .i64 m.seq, .int .i64 m.turn, .int .i64 m.old] 72))).same (by simp) (heap_alloc_new w (.cells #[.pointer (some ⟨d, 0, none⟩)] 24))
  have by' := heap_alloc_new (w.alloc (.cells #[.pointer (some ⟨d, 0, none⟩)] 24)) (.cells #[.int .i64 m.seq, .int .i64 m.turn, .int .i64 m.old] 72)
  rw [s1] at by'
  have f1 : Fr [] w ((w.alloc (.cells #[.pointer (some ⟨d, 0, none⟩)] 24)).alloc (.cells #[.int .i64 m.seq, .int .i64 m.turn, .int .i64 m.old] 72)) := ((Fr.refl [] w).alloc _).alloc _
  obtain ⟨w1, hw1⟩ : ∃ w1, (w.alloc (.cells #[.pointer (some ⟨d, 0, none⟩)] 24)).alloc (.cells #[.int .i64 m.seq, .int .i64 m.turn, .int .i64 m.old] 72) = w1 := ⟨_, rfl⟩
  rw [hw1] at f1 bx by'
  have D1 := hidI (dev_kept hd f1 (by simp) (by simp) (by simp))
  have x0 := cell_of_row w1 w.heap.size 0 _ _ _ bx
  have y0 := cell_of_row w1 (w.heap.size + 1) 0 _ _ _ by'
  have y1 := cell_of_row w1 (w.heap.size + 1) 1 _ _ _ by'
  have y2 := cell_of_row w1 (w.heap.size + 1) 2 _ _ _ by'
  go_enter Tryz.func38, Tryz.ntmps38
  go_wp2_with (go_at_call 120; refine (Dv.blocks_dev D1.out).mono ?_; rintro e w3 ⟨rfl, hz⟩; rw [hz]; clear hz)
  refine (mayBe_any w1 m HM.out).mono ?_
  rintro e w4 ⟨rfl, g4⟩
  have bx4 := g4.same (by simp) bx
  have by4 := g4.same (by simp) by'
  have f4 := f1.trans g4
  have D4 := hidI (dev_kept HD.out f4 (by simp) (by simp) (by simp))
  have x4 := cell_of_row w4 w.heap.size 0 _ _ _ bx4
  go_wp2_with (go_at_call 120; refine (Dv.blocks_dev D4.out).mono ?_; rintro e w3 ⟨rfl, hz⟩; rw [hz]; clear hz)
  have hfl := heap_alloc_new w4 (.cells #[.func (.func 128) #[] #[.pointer (some ⟨w.heap.size, 0, none⟩), .pointer (some ⟨w.heap.size + 1, 0, none⟩)], .func (.func 132) #[] #[.pointer (some ⟨w.heap.size, 0, none⟩)]] 77)
  have f5 : Fr [] w4 (w4.alloc (.cells #[.func (.func 128) #[] #[.pointer (some ⟨w.heap.size, 0, none⟩), .pointer (some ⟨w.heap.size + 1, 0, none⟩)], .func (.func 132) #[] #[.pointer (some ⟨w.heap.size, 0, none⟩)]] 77)) := (Fr.refl [] w4).alloc _
  obtain ⟨wt, hwt⟩ : ∃ wt, w4.alloc (.cells #[.func (.func 128) #[] #[.pointer (some ⟨w.heap.size, 0, none⟩), .pointer (some ⟨w.heap.size + 1, 0, none⟩)], .func (.func 132) #[] #[.pointer (some ⟨w.heap.size, 0, none⟩)]] 77) = wt := ⟨_, rfl⟩
  rw [hwt] at hfl f5 ⊢
  have bx5 := f5.same (by simp) bx4
  have by5 := f5.same (by simp) by4
  have f6 := f4.trans f5
  have le4 : w.heap.size ≤ w4.heap.size := f4.size
  have hout : ∀ k, w.heap.size ≤ k → k ∉ [d, bs, bo] := by
    intro k hk hm
    have h1 : d < w.heap.size := (Array.getElem?_eq_some_iff.1 HD.out.cells).1
    have h2 : bs < w.heap.size := by
      obtain ⟨D', ⟨es, clock, hb, _⟩, _⟩ := HD.out.safe
      exact (Array.getElem?_eq_some_iff.1 hb).1
    have h3 : bo < w.heap.size := by
      obtain ⟨D', ⟨es, clock, hb, _⟩, _⟩ := HD.out.opn
      exact (Array.getElem?_eq_some_iff.1 hb).1
    simp at hm
    omega
  refine (inTurn_ok wt (some ⟨w4.heap.size, 0, none⟩) 2 2 (flW w.heap.size) rfl (by omega) (WrI wt d bs bo nb S O m) ⟨dev_kept HD.out f6 (by simp) (by simp) (by simp), Fr.refl _ _⟩ ?_ (fun i p hp w' => enW w' _ i p hp) ?_).mono ?_
  · intro i w' hI j p hp
    have h3 := hI.fr.same (hout w4.heap.size le4) hfl
    refine ⟨_, rfl, ?_⟩
    rw [cell_of_row w' _ j _ _ _ h3]
    match j, hp with
    | 0, hp => cases hp; rfl
    | 1, hp => cases hp; rfl
    | n + 2, hp => simp [flW] at hp
  · intro i p hp w' hI
    have hx7 := hI.fr.same (hout _ (Nat.le_refl _)) bx5
    have hy7 := hI.fr.same (hout _ (Nat.le_succ _)) by5
    match i, hp, hI with
    | 0, hp, hI =>
      cases hp
      refine (mw1_any w' d bs bo nb S O hI.1 (by omega) w.heap.size (w.heap.size + 1) _ hx7 m HM.out hy7 (fun h => hout _ (Nat.le_refl _) (by simp at h ⊢; omega)) (fun h => hout _ (Nat.le_succ _) (by simp at h ⊢; omega))).mono ?_
      rintro e w9 ⟨rfl, D9, f9⟩
      exact ⟨rfl, D9, hI.2.trans (f9.mono (by intro k _ hk; simp at hk ⊢; omega))⟩
    | 1, hp, hI =>
      cases hp
      refine (mw2_any w' d bs bo nb _ _ hI.1 w.heap.size _ hx7).mono ?_
      rintro e w9 ⟨rfl, D9, f9⟩
      exact ⟨rfl, D9, hI.2.trans f9⟩
    | n + 2, hp, hI => simp [flW] at hp
  rintro e w9 ⟨rfl, hI⟩
  go_wp2_with fail
  go_ret
  exact ⟨rfl, hI.1, (f6.mono (by simp)).trans hI.2⟩
end Go.Proofs.YtopaeomjndblkaaGreat

namespace Go.Proofs.YtopaeomjndblkaaGreat
open Go.RowKit Go.Maps

section
variable {ops : Array Oper} {rest : List Oper} {o : Oper} {a : Act} {w : World} {Q : Exit → Act → World → Prop}
set_option maxRecDepth 100000 in
theorem wp_make55 (hgd : o.guard = none) (x y : Operand) (ho : o.op = .makeSlice 37 x y) (hx : a.eval x = .int .i64 512) (hy : a.eval y = .int .i64 512)
    (h : ∀ w' g, w.heap.size ≤ g → Blk w' g (zs 512) → Fr [] w w' → wpList Tryz.prog ops Q rest (a.put o.dst (.slice (some ⟨g, 0, none⟩) 512 512)) w') : wpList Tryz.prog ops Q (o :: rest) a w :=
  wpList_plain hgd fun K hK => by
    obtain ⟨i, hi, hz, hs, hb⟩ := info5'
    have hrun := run_makeSlice (P := Tryz.prog) w 37 5 i (.int .u8 0) Tryz.underlying37 hi hz .i64 .i64 (512 : Int) (512 : Int) (by omega) (by omega) (by rw [hs]; decide) (by rw [hb]; decide) (by omega)
    have e1 : (512 : Int).toNat * 1 = 512 := rfl
    rw [hs, e1, arr_zeros] at hrun
    unfold Oper.wp execOp
    simp [ho, hx, hy, hrun, Result.andThen]
    exact hK _ _ (h _ _ (Nat.le_refl _) (heap_alloc_new w _) ((Fr.refl _ _).alloc _))
end
set_option maxHeartbeats 2000000 in
set_option maxRecDepth 100000 in
theorem wipe_any (w : World) (d bs bo : Nat) (nb : Int) (S O : Dv.Tab) (hd : Dv.Dev w d bs bo nb 0 false S O) (hn : 0 ≤ nb) (hn2 : nb ≤ 1000000) :
    Calls Tryz.prog 123 #[.pointer (some ⟨d, 0, none⟩)] w fun e w' => e = .returned (.int .i64 0) ∧ (∃ O', (∀ k : Int, 0 ≤ k → k < nb → O' k = some (zs 512)) ∧ Dv.Dev w' d bs bo nb 0 false S O') ∧ Fr [d, bo] w w' := by
  have HD := hidI hd
  go_enter Tryz.func123, Tryz.ntmps123
  go_wp2_with first
    | (refine wp_make55 rfl _ _ rfl rfl rfl ?_; intro w2 g hg b2 f2; have D2 := hidI (dev_kept HD.out f2 (by simp) (by simp) (by simp)))
    | (go_at_call 120; refine (Dv.blocks_dev D2.out).mono ?_; rintro e w3 ⟨rfl, hz⟩; rw [hz]; clear hz)
  have gd : g ∉ [d, bo] := by
    intro hm
    have h1 : d < w.heap.size := (Array.getElem?_eq_some_iff.1 HD.out.cells).1
    have h3 : bo < w.heap.size := by
      obtain ⟨D', ⟨es, clock, hb, _⟩, _⟩ := HD.out.opn
      exact (Array.getElem?_eq_some_iff.1 hb).1
    simp at hm
    omega
  have F2 := hidI (f2.mono (M := [d, bo]) (by simp))
  go_loopw [9] (fun s9 wr => ∃ j : Nat, s9 = .int .i64 (j : Int) ∧ (j : Int) ≤ nb ∧ Hid ((∃ O', (∀ k : Int, 0 ≤ k → k < (j : Int) → O' k = some (zs 512)) ∧ Dv.Dev wr d bs bo nb 0 false S O') ∧ Fr [d, bo] w2 wr)) (fun i _ => nb.toNat - (intOf i).toNat)
  case atStart => exact ⟨0, rfl, by omega, hidI ⟨⟨O, fun k h1 h2 => absurd h2 (by omega), D2.out⟩, Fr.refl _ _⟩⟩
  case round =>
    obtain ⟨j, rfl, hj, HR⟩ := hrel
    by_cases hlt : (j : Int) < nb
    · obtain ⟨⟨O', hO', D'⟩, FR⟩ := HR.out
      have HO := hidI hO'
      clear hO'
      have b3 : Blk wr g (zs 512) := FR.same gd b2
      go_wp2_with (go_at_call 129; refine (Dv.write_dev D' (j : Int) (by omega) hlt g 0 512 (zs 512) (zs_length 512) (src_blk b3)).mono ?_; rintro e w5 ⟨rfl, D5, f5⟩; rw [show Dv.told (Dv.crash 0) = 0 from rfl])
      refine ⟨⟨j + 1, rfl, by omega, hidI ⟨⟨O'.put (j : Int) (zs 512), ?_, D5⟩, FR.trans (fr_dv f5)⟩⟩, by simp [intOf]; omega⟩
      intro k k0 k1
      by_cases hk : k = (j : Int)
      · simp [Dv.Tab.put, hk]
      · simp only [Dv.Tab.put, if_neg hk]
        exact HO.out k k0 (by omega)
    · obtain rfl : (j : Int) = nb := by omega
      go_wp2_with fail
      go_ret
      exact ⟨rfl, HR.out.1, F2.out.trans HR.out.2⟩
end Go.Proofs.YtopaeomjndblkaaGreat

namespace Go.Proofs.YtopaeomjndblkaaGreat
open Go.RowKit Go.Maps

set_option maxRecDepth 100000 in
theorem fm1_any (w : World) (d bs bo : Nat) (nb : Int) (S O : Dv.Tab) (hd : Dv.Dev w d bs bo nb 0 false S O) (hn : 0 ≤ nb) (hn2 : nb ≤ 1000000) (x : Nat) (t : TypeId) (hx : w.heap[x]? = some (.cells #[.pointer (some ⟨d, 0, none⟩)] t)) :
    Calls Tryz.prog 122 #[.pointer (some ⟨x, 0, none⟩)] w fun e w' => e = .returned (.int .i64 0) ∧ (∃ O', (∀ k : Int, 0 ≤ k → k < nb → O' k = some (zs 512)) ∧ Dv.Dev w' d bs bo nb 0 false S O') ∧ Fr [d, bo] w w' := by
  have c0 := cell_of_row w x 0 _ _ _ hx
  go_enter Tryz.func122, Tryz.ntmps122
  go_wp2_with (go_at_call 123; refine (wipe_any w d bs bo nb S O hd hn hn2).mono ?_; rintro e w3 ⟨rfl, D3, f3⟩)
  go_ret
  exact ⟨rfl, D3, f3⟩
set_option maxRecDepth 100000 in
theorem fm2_any (w : World) (d bs bo : Nat) (nb : Int) (S O : Dv.Tab) (hd : Dv.Dev w d bs bo nb 0 false S O) (x : Nat) (t : TypeId) (hx : w.heap[x]? = some (.cells #[.pointer (some ⟨d, 0, none⟩)] t)) :
    Calls Tryz.prog 124 #[.pointer (some ⟨x, 0, none⟩)] w fun e w' => e = .returned (.int .i64 0) ∧ Dv.Dev w' d bs bo nb 0 false (Dv.over S O) Dv.Tab.none ∧ Fr [d, bs, bo] w w' := by
  have c0 := cell_of_row w x 0 _ _ _ hx
  go_enter Tryz.func124, Tryz.ntmps124
  go_wp2_with (go_at_call 125; refine (Dv.sync_dev hd rfl).mono ?_; rintro e w3 ⟨rfl, D3, f3⟩)
  go_ret
  exact ⟨rfl, D3, fr_dv f3⟩
def m111 : Mst := ⟨1, 1, 1⟩
theorem m111_ok : MOk m111 := ⟨by decide, by decide, by decide, by decide, by decide, by decide⟩
set_option maxRecDepth 100000 in
theorem fm3_any (w : World) (d bs bo : Nat) (nb : Int) (S O : Dv.Tab) (hd : Dv.Dev w d bs bo nb 0 false S O) (hn : 24 ≤ nb) (x : Nat) (t : TypeId) (hx : w.heap[x]? = some (.cells #[.pointer (some ⟨d, 0, none⟩)] t)) :
    Calls Tryz.prog 126 #[.pointer (some ⟨x, 0, none⟩)] w fun e w' => e = .returned (.int .i64 0) ∧ Dv.Dev w' d bs bo nb 0 false (Dv.over S (O.put 1 (mBytes m111))) Dv.Tab.none ∧ Fr [d, bs, bo] w w' := by
  have c0 := cell_of_row w x 0 _ _ _ hx
  go_enter Tryz.func126, Tryz.ntmps126
  go_wp2_with (go_at_call 38; refine (mw_any w d bs bo nb S O hd hn m111 m111_ok).mono ?_; rintro e w3 ⟨rfl, D3, f3⟩)
  go_ret
  exact ⟨rfl, D3, f3⟩
def flF (B : Nat) : List (FuncId × List Value) := [(122, [.pointer (some ⟨B, 0, none⟩)]), (124, [.pointer (some ⟨B, 0, none⟩)]), (126, [.pointer (some ⟨B, 0, none⟩)])]
def FmI (wt : World) (d bs bo : Nat) (nb : Int) (S O : Dv.Tab) : Nat → World → Prop
  | 0 => fun w' => Dv.Dev w' d bs bo nb 0 false S O ∧ Fr [d, bs, bo] wt w'
  | 1 => fun w' => (∃ O', (∀ k : Int, 0 ≤ k → k < nb → O' k = some (zs 512)) ∧ Dv.Dev w' d bs bo nb 0 false S O') ∧ Fr [d, bs, bo] wt w'
  | 2 => fun w' => (∃ O', (∀ k : Int, 0 ≤ k → k < nb → O' k = some (zs 512)) ∧ Dv.Dev w' d bs bo nb 0 false (Dv.over S O') Dv.Tab.none) ∧ Fr [d, bs, bo] wt w'
  | _ => fun w' => (∃ O', (∀ k : Int, 0 ≤ k → k < nb → O' k = some (zs 512)) ∧ Dv.Dev w' d bs bo nb 0 false (Dv.over (Dv.over S O') (Dv.Tab.none.put 1 (mBytes m111))) Dv.Tab.none) ∧ Fr [d, bs, bo] wt w'
theorem FmI.fr {wt : World} {d bs bo : Nat} {nb : Int} {S O : Dv.Tab} : ∀ {i : Nat} {w' : World}, FmI wt d bs bo nb S O i w' → Fr [d, bs, bo] wt w'
  | 0, _, h => h.2
  | 1, _, h => h.2
  | 2, _, h => h.2
  | _ + 3, _, h => h.2
theorem enF (w : World) (B : Nat) : ∀ (i : Nat) (p : FuncId × List Value), (flF B)[i]? = some p → (callFunc p.1 p.2.toArray).run Tryz.prog w = .ok (.enter p.1 p.2.toArray) w
  | 0, p, h => by cases h; go_simp
  | 1, p, h => by cases h; go_simp
  | 2, p, h => by cases h; go_simp
  | n + 3, p, h => by simp [flF] at h
set_option maxRecDepth 100000 in
theorem format_any (w : World) (d bs bo : Nat) (nb : Int) (S O : Dv.Tab) (hd : Dv.Dev w d bs bo nb 0 false S O) (hn : 24 ≤ nb) (hn2 : nb ≤ 1000000) :
    Calls Tryz.prog 37 #[.pointer (some ⟨d, 0, none⟩)] w fun e w' => e = .returned (.int .i64 0) ∧ (∃ O', (∀ k : Int, 0 ≤ k → k < nb → O' k = some (zs 512)) ∧ Dv.Dev w' d bs bo nb 0 false (Dv.over (Dv.over S O') (Dv.Tab.none.put 1 (mBytes m111))) Dv.Tab.none) ∧ Fr [d, bs, bo] w w' := by
  have HD := hidI hd
  have z0 : ¬ nb = 0 := by omega
  have z1 : ¬ nb < 24 := by omega
  have f1 : Fr [] w (w.alloc (.cells #[.pointer (some ⟨d, 0, none⟩)] 24)) := (Fr.refl [] w).alloc _
  have bx := heap_alloc_new w (.cells #[.pointer (some ⟨d, 0, none⟩)] 24)
  have s1 : (w.alloc (.cells #[.pointer (some ⟨d, 0, none⟩)] 24)).heap.size = w.heap.size + 1 := by simp
  obtain ⟨w1, hw1⟩ : ∃ w1, w.alloc (.cells #[.pointer (some ⟨d, 0, none⟩)] 24) = w1 := ⟨_, rfl⟩
  rw [hw1] at f1 bx s1
  have D1 := hidI (dev_kept hd f1 (by simp) (by simp) (by simp))
  have x0 := cell_of_row w1 w.heap.size 0 _ _ _ bx
  go_enter Tryz.func37, Tryz.ntmps37
  go_wp2_with (go_at_call 120; refine (Dv.blocks_dev D1.out).mono ?_; rintro e w3 ⟨rfl, hz⟩; rw [hz]; clear hz)
  have hfl := heap_alloc_new w1 (.cells #[.func (.func 122) #[] #[.pointer (some ⟨w.heap.size, 0, none⟩)], .func (.func 124) #[] #[.pointer (some ⟨w.heap.size, 0, none⟩)], .func (.func 126) #[] #[.pointer (some ⟨w.heap.size, 0, none⟩)]] 77)
  have f5 : Fr [] w1 (w1.alloc (.cells #[.func (.func 122) #[] #[.pointer (some ⟨w.heap.size, 0, none⟩)], .func (.func 124) #[] #[.pointer (some ⟨w.heap.size, 0, none⟩)], .func (.func 126) #[] #[.pointer (some ⟨w.heap.size, 0, none⟩)]] 77)) := (Fr.refl [] w1).alloc _
  obtain ⟨wt, hwt⟩ : ∃ wt, w1.alloc (.cells #[.func (.func 122) #[] #[.pointer (some ⟨w.heap.size, 0, none⟩)], .func (.func 124) #[] #[.pointer (some ⟨w.heap.size, 0, none⟩)], .func (.func 126) #[] #[.pointer (some ⟨w.heap.size, 0, none⟩)]] 77) = wt := ⟨_, rfl⟩
  rw [hwt] at hfl f5
  rw [s1] at hfl
  have bx5 := f5.same (by simp) bx
  have f6 := f1.trans f5
  have hout : ∀ k, w.heap.size ≤ k → k ∉ [d, bs, bo] := by
    intro k hk hm
    have h1 : d < w.heap.size := (Array.getElem?_eq_some_iff.1 HD.out.cells).1
    have h2 : bs < w.heap.size := by
      obtain ⟨D', ⟨es, clock, hb, _⟩, _⟩ := HD.out.safe
      exact (Array.getElem?_eq_some_iff.1 hb).1
    have h3 : bo < w.heap.size := by
      obtain ⟨D', ⟨es, clock, hb, _⟩, _⟩ := HD.out.opn
      exact (Array.getElem?_eq_some_iff.1 hb).1
    simp at hm
    omega
  simp only [hwt]
  refine (inTurn_ok wt (some ⟨w.heap.size + 1, 0, none⟩) 3 3 (flF w.heap.size) rfl (by omega) (FmI wt d bs bo nb S O) ⟨dev_kept HD.out f6 (by simp) (by simp) (by simp), Fr.refl _ _⟩ ?_ (fun i p hp w' => enF w' _ i p hp) ?_).mono ?_
  · intro i w' hI j p hp
    have h3 := hI.fr.same (hout (w.heap.size + 1) (by omega)) hfl
    refine ⟨_, rfl, ?_⟩
    rw [cell_of_row w' _ j _ _ _ h3]
    match j, hp with
    | 0, hp => cases hp; rfl
    | 1, hp => cases hp; rfl
    | 2, hp => cases hp; rfl
    | n + 3, hp => simp [flF] at hp
  · intro i p hp w' hI
    have hx7 := hI.fr.same (hout _ (Nat.le_refl _)) bx5
    match i, hp, hI with
    | 0, hp, hI =>
      cases hp
      refine (fm1_any w' d bs bo nb S O hI.1 (by omega) hn2 w.heap.size _ hx7).mono ?_
      rintro e w9 ⟨rfl, D9, f9⟩
      exact ⟨rfl, D9, hI.2.trans (f9.mono (by intro k _ hk; simp at hk ⊢; omega))⟩
    | 1, hp, ⟨⟨O', hO, D'⟩, hf⟩ =>
      cases hp
      refine (fm2_any w' d bs bo nb S O' D' w.heap.size _ hx7).mono ?_
      rintro e w9 ⟨rfl, D9, f9⟩
      exact ⟨rfl, ⟨O', hO, D9⟩, hf.trans f9⟩
    | 2, hp, ⟨⟨O', hO, D'⟩, hf⟩ =>
      cases hp
      refine (fm3_any w' d bs bo nb _ _ D' hn w.heap.size _ hx7).mono ?_
      rintro e w9 ⟨rfl, D9, f9⟩
      exact ⟨rfl, ⟨O', hO, D9⟩, hf.trans f9⟩
    | n + 3, hp, hI => simp [flF] at hp
  rintro e w9 ⟨rfl, hI⟩
  go_wp2_with fail
  go_ret
  exact ⟨rfl, hI.1, (f6.mono (by simp)).trans hI.2⟩
end Go.Proofs.YtopaeomjndblkaaGreat

namespace Go.Proofs.YtopaeomjndblkaaGreat
open Go.RowKit Go.Maps

theorem decR_nil : decR [] = none := by unfold decR; rw [if_pos (by simp)]

set_option maxHeartbeats 400000 in
set_option maxRecDepth 100000 in
theorem find_zero (w : World) (p : Nat) (x : Lg) (hx : LBox w p x) (h0 : 1 ≤ x.oldest) (h1 : x.oldest ≤ 4611686018427387904) :
    Calls Tryz.prog 175 #[.pointer (some ⟨p, 0, none⟩), .slice none 0 0] w fun e w' => e = .returned (.tuple #[]) ∧ LBox w' p { x with by' := .slice none 0 0, fin := x.oldest, safe := x.oldest } ∧ Fr [p] w w' := by
  have c4 := hx.c4
  have hw := wrapI x.oldest (by omega) (by omega)
  go_enter Tryz.func175, Tryz.ntmps175
  go_wp2
  go_loopw [4, 5] (fun s4 s5 wr => s4 = .int .i64 0 ∧ s5 = .int .i64 1 ∧ wr = w) (fun _ _ _ => 0)
  case atStart => exact ⟨rfl, rfl, rfl⟩
  case round =>
    obtain ⟨rfl, rfl, hwr⟩ := hrel
    subst hwr
    go_wp2_with fail
    refine (get_any _ none 0 0 [] rfl (by omega) (by omega) (BytesAt.nil _ _)).mono ?_
    rintro e w2 hG
    rcases hG with ⟨-, rfl, f2⟩ | ⟨r, n, s, hd, -⟩
    · unfold recV zeroR zeroS
      go_wp2_with fail
      have f3 := f2.alloc (.cells #[.int .i64 0, .int .i64 0, .int .u8 ((0 : Nat) : Int), .int .i64 0, .int .i64 0, .int .i64 0, .int .i64 0, .int .i64 0, .slice none ([] : List UInt8).length 0, .slice none ([] : List UInt8).length 0] 192)
      generalize hw3 : w2.alloc _ = w3 at f3 ⊢
      clear hw3
      go_quiet (fail)
      have f4 := f3.drewN nq
      generalize w3.drewN nq = w4 at f4 ⊢
      have L4 := hx.kept f4 (by simp)
      go_wp2_with fail
      refine (copied_any w4 none 0 0 [] rfl (BytesAt.nil _ _) (by omega)).mono ?_
      rintro e w5 ⟨ad, rfl, cp, f5⟩
      have had : ad = none := by
        cases ad with
        | none => rfl
        | some a => obtain ⟨_, _, _, _, h⟩ := cp.at' a rfl; simp at h
      subst had
      have L5 := L4.kept f5 (by simp)
      have F5 := f4.trans f5
      have k7 := L5.c7
      have z7 := L5.fz 7
      have L6 := L5.s7 (.slice none 0 0)
      have k4 := L6.c4
      have k6 := L6.c6
      have z6 := L6.fz 6
      have L7 := L6.s6 x.oldest
      have k66 := L7.c6
      have k5 := L7.c5
      have z5 := L7.fz 5
      go_wp2_with fail
      refine bodyPost_end (results_none Tryz.results175 _ _ _) rfl ⟨rfl, L7.s5 x.oldest, ?_⟩
      exact (((F5.mono (M := [p]) (fun _ _ e => nomatch e)).trans (fr_set _ p 7 _)).trans (fr_set _ p 6 _)).trans (fr_set _ p 5 _)
    · rw [decR_nil] at hd; cases hd

end Go.Proofs.YtopaeomjndblkaaGreat

