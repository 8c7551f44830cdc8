/-
  A deed, and a page with a deed's bytes put on it: `written`.
-/
import Derived.Test.YtopaeomjndblkaaGreatY42Z
namespace Go.Proofs.YtopaeomjndblkaaGreat
open Go.RowKit Go.Maps Go.Conc

theorem from_empty {w : World} {y : Lo} (h : LoAt w y) (hls : y.ls = []) (k : Int) :
    Calls Tryz.prog 211 #[.pointer (some ⟨y.p, 0, none⟩), .int .i64 k] w fun e w' => e = .returned (.slice none 0 0) ∧ w' = w := by
  have c0 : w.cell? ⟨y.p, 0, none⟩ = some (.pointer (some ⟨y.d, 0, none⟩)) := h.box.c0
  have c9 : w.cell? ⟨y.p, 9, none⟩ = some (.slice y.a2 y.n2 y.c2) := h.box.c9
  have hn : y.n2 = 0 := by
    have h1 := h.lsA.len
    rw [hls] at h1
    simpa using h1.symm
  have HB : Hid (Calls Tryz.prog 203 #[.slice y.a2 y.n2 y.c2, .int .i64 k] w fun e w' => e = .returned (.tuple #[.int .i64 0, .bool false]) ∧ w' = w) := hidI (by
    refine (bin_any w y.a2 y.n2 y.c2 [] k (by simp [hn]) (by omega) (fun j v hj => by simp at hj)).mono ?_
    rintro e w' ⟨i, he, hw, hb⟩
    have h0 : i = 0 := by
      have := hb.le
      simpa using this
    subst h0
    exact ⟨by simpa using he, hw⟩)
  clear h hls hn
  go_enter Tryz.func211, Tryz.ntmps211
  go_wp2_with (first
    | (go_at_call 177; refine (lmade_yes _ _ _ c0).mono ?_; rintro e wz ⟨rfl, hz⟩; rw [hz]; clear hz)
    | (go_at_call 203; refine HB.out.mono ?_; rintro e wz ⟨rfl, hz⟩; rw [hz]; clear hz))
  go_ret
  exact ⟨rfl, rfl⟩
theorem mkR (w : World) : (Instr.makeChan 279 (.int .i64 0)).run Tryz.prog w = .ok (.chan (some w.heap.size)) (w.alloc (.chan 0 #[] false 0 0 false)) := by
  have h : ∃ i, Tryz.prog.info? 192 = some i ∧ i.bytes ≤ 1000 := by
    have h1 : (Tryz.prog.info? 192).map (fun i => decide (i.bytes ≤ 1000)) = some true := by kernel_rfl
    obtain ⟨i, hi, hb⟩ := Option.map_eq_some_iff.1 h1
    exact ⟨i, hi, of_decide_eq_true hb⟩
  obtain ⟨i, hi, hb⟩ := h
  simpa using run_makeChan (P := Tryz.prog) (w := w) Tryz.underlying279 hi .i64 0 (by omega) (by omega)
theorem fr_heap (w : World) (c : Nat) (o : Obj) : Fr [c] w { w with heap := w.heap.setIfInBounds c o } := ⟨rfl, rfl, rfl, by simp, fun k _ hn => Array.getElem?_setIfInBounds_ne (fun e => hn (by simp [e]))⟩
set_option maxRecDepth 100000 in
theorem inLine_nil (w : World) : Calls Tryz.prog 210 #[.slice none 0 0] w fun e w' => ∃ c, e = .returned (.chan (some c)) ∧ w'.heap[c]? = some (.chan 0 #[] true 0 0 false) ∧ Fr [] w w' := by
  have hmc := mkR w
  have f1 : Fr [] w (w.alloc (.chan 0 #[] false 0 0 false)) := (Fr.refl [] w).alloc _
  have h1 : (w.alloc (.chan 0 #[] false 0 0 false)).heap[w.heap.size]? = some (.chan 0 #[] false 0 0 false) := heap_alloc_new w _
  have hcl := fun ats ty => run_close_open (P := Tryz.prog) (w := w.alloc (.chan 0 #[] false 0 0 false)) ats ty h1
  go_enter Tryz.func210, Tryz.ntmps210
  go_wp2_with fail
  go_loopw [11] (fun s11 wr => s11 = .int .i64 0 ∧ wr = w.alloc (.chan 0 #[] false 0 0 false)) (fun _ _ => 0)
  case atStart => exact ⟨rfl, rfl⟩
  case round =>
    obtain ⟨rfl, rfl⟩ := hrel
    go_wp2_with fail
    go_ret
    refine ⟨w.heap.size, rfl, ?_, ?_⟩
    · simp
    · exact f1.then (fr_heap _ w.heap.size _) (fun i hi hm => by simp at hm; omega)
/-- A record without anything, as a value. -/
def zRec : Value := .agg #[.int .i64 0, .int .i64 0, .int .u8 0, .int .i64 0, .int .i64 0, .int .i64 0, .int .i64 0, .int .i64 0, .slice none 0 0, .slice none 0 0]
set_option maxHeartbeats 2000000 in
set_option maxRecDepth 100000 in
theorem redo_none {w : World} {y : Lo} (h : LoAt w y) (hls : y.ls = []) (rb : Nat) (hrb : w.cell? ⟨rb, 0, none⟩ = some (.pointer (some ⟨y.p, 0, none⟩))) :
    Calls Tryz.prog 138 #[.pointer (some ⟨rb, 0, none⟩)] w fun e w' => e = .returned (.int .i64 0) ∧ Fr [] w w' := by
  have HH := hidI h
  have HL := hidI hls
  have HOL := hidI (lo_oldest (h.kept (Fr.refl [] w).drew (by simp)))
  have HFR := hidI (from_empty (h.kept (Fr.refl [] w).drew (by simp)) hls ((y.A : Int) + 1))
  clear h hls
  refine calls_of_wpN Tryz.func138 rfl ?_
  simp only [Tryz.ntmps138, List.size_toArray, List.length_cons, List.length_nil, Nat.reduceAdd, Nat.reduceSub, Array.replicate_succ, Array.replicate_zero, List.push_toArray, List.append_toArray, List.nil_append, List.cons_append]
  refine wpN_seq ?_
  go_wp2_with fail
  refine wpN_seq ?_
  go_region_held3 (fun w' => w'.cell? ⟨rb, 0, none⟩ = some (.pointer (some ⟨y.p, 0, none⟩))) (first | exact hrb | exact hk) ((first
    | (go_at_call 195; refine HOL.out.mono ?_; rintro e wz ⟨rfl, hz⟩; rw [hz]; clear hz)
    | (go_at_call 211; refine HFR.out.mono ?_; rintro e wz ⟨rfl, hz⟩; rw [hz]; clear hz)
    | (go_at_call 210; refine (inLine_nil _).mono ?_; rintro e w2 ⟨c, rfl, hc, f2⟩; have hk : w2.cell? ⟨rb, 0, none⟩ = some (.pointer (some ⟨y.p, 0, none⟩)) := (World.cell?_of_block (f2.block rb (block_lt_of_cell hrb) (by simp))).trans hrb)))
  all_goals
    simp only [Exit.then]
    refine wpN_block_ret (wpN_loop_ret (wpN_block_ret ?_))
    refine wpN_seq ?_
    go_wp2_with fail
    refine wpN_seqN ?_
    refine wpN_sel_shut (rest := [1, 2]) (bl := true) (z := zRec) rfl rfl rfl ?_ hc ?_
    · simp [go_sem, execOp, rcase, Act.eval]
      rfl
    · simp [wpOps, Oper.wp, Oper.upon, execOp, go_sem, Act.eval, Act.put, Region.wanted, goInt]
      refine Or.inl ?_
      first
        | refine wpN_of ?_
        | refine Or.inl (wpN_of ?_)
      unfold zRec
      go_wp2_with fail
      go_ret
      exact ⟨rfl, ((Fr.refl [] w).drew.trans f2).alloc _⟩
end Go.Proofs.YtopaeomjndblkaaGreat

namespace Go.Proofs.YtopaeomjndblkaaGreat
open Go.RowKit Go.Maps

def m221 : Mst := ⟨2, 2, 1⟩
theorem m221_ok : MOk m221 := ⟨by decide, by decide, by decide, by decide, by decide, by decide⟩
set_option maxHeartbeats 2000000 in
set_option maxRecDepth 100000 in
theorem takeTurn_fresh {w : World} {d bs bo : Nat} {nb : Int} {S O : Dv.Tab} (hd : Dv.Dev w d bs bo nb 0 false S O) (hn : 24 ≤ nb) (hm : Mas S O m111) :
    Calls Tryz.prog 136 #[.pointer (some ⟨d, 0, none⟩)] w fun e w' => e = .returned (.tuple #[.agg (mV m221), .int .i64 0]) ∧ Dv.Dev w' d bs bo nb 0 false (Dv.over S (O.put 0 (mBytes m221))) Dv.Tab.none ∧ Fr [d, bs, bo] w w' := by
  have f1 : Fr [] w (w.alloc (.cells #[.int .i64 0, .int .i64 0, .int .i64 0] 72)) := (Fr.refl [] w).alloc _
  have hM := heap_alloc_new w (.cells #[.int .i64 0, .int .i64 0, .int .i64 0] 72)
  obtain ⟨w1, hw1⟩ : ∃ w1, w.alloc (.cells #[.int .i64 0, .int .i64 0, .int .i64 0] 72) = w1 := ⟨_, rfl⟩
  rw [hw1] at f1 hM
  have D1 := hidI (dev_kept hd f1 (by simp) (by simp) (by simp))
  have HM := hidI hm
  have hlt : Hid (∀ k, w.heap.size ≤ k → k ∉ [d, bs, bo]) := hidI (fun k hk hm => by
    have h1 : d < w.heap.size := (Array.getElem?_eq_some_iff.1 hd.cells).1
    have h2 : bs < w.heap.size := by
      obtain ⟨D', ⟨es, clock, hb, _⟩, _⟩ := hd.safe
      exact (Array.getElem?_eq_some_iff.1 hb).1
    have h3 : bo < w.heap.size := by
      obtain ⟨D', ⟨es, clock, hb, _⟩, _⟩ := hd.opn
      exact (Array.getElem?_eq_some_iff.1 hb).1
    simp at hm
    omega)
  clear hd hm
  go_enter Tryz.func136, Tryz.ntmps136
  go_wp2_with fail
  refine (mas_read D1.out (by omega) HM.out).mono ?_
  unfold mV m111
  rintro e w2 ⟨rfl, f2⟩
  dsimp only
  have f3 : Fr [] w2 (w2.alloc (.cells #[.int .i64 1, .int .i64 1, .int .i64 1] 72)) := (Fr.refl [] w2).alloc _
  have hN := heap_alloc_new w2 (.cells #[.int .i64 1, .int .i64 1, .int .i64 1] 72)
  obtain ⟨w3, hw3⟩ : ∃ w3, w2.alloc (.cells #[.int .i64 1, .int .i64 1, .int .i64 1] 72) = w3 := ⟨_, rfl⟩
  rw [hw3] at f3 hN
  have x0 := cell_of_row _ w2.heap.size 0 _ _ _ hN
  have x1 := cell_of_row _ w2.heap.size 1 _ _ _ hN
  have z0 := frozen_of_row w3 w2.heap.size 0 _ _ hN
  have z1 := frozen_of_row w3 w2.heap.size 1 _ _ hN
  go_wp2_with fail
  have h4 := heap_setCell_same _ w2.heap.size 1 _ _ (.int .i64 2) (heap_setCell_same w3 w2.heap.size 0 _ _ (.int .i64 2) hN)
  have f5 : Fr [w2.heap.size] w3 ((w3.setCell ⟨w2.heap.size, 0, none⟩ (.int .i64 2)).setCell ⟨w2.heap.size, 1, none⟩ (.int .i64 2)) := (fr_set w3 w2.heap.size 0 _).trans (fr_set _ w2.heap.size 1 _)
  generalize (w3.setCell ⟨w2.heap.size, 0, none⟩ (.int .i64 2)).setCell ⟨w2.heap.size, 1, none⟩ (.int .i64 2) = w5 at h4 f5 ⊢
  have h5 : MBox w5 w2.heap.size ⟨2, 2, 1⟩ := h4
  have l2 : w.heap.size < w2.heap.size := by
    have h1 := (Array.getElem?_eq_some_iff.1 hM).1
    have h2 := f2.size
    omega
  have hM5 : MBox w5 w.heap.size ⟨0, 0, 0⟩ := f5.same (by simp; omega) (f3.same (by simp) (f2.same (by simp) hM))
  have F5 : Fr [] w w5 := (f1.trans (f2.trans f3)).then f5 (fun i hi hm => by simp at hm; omega)
  have D5 := hidI (dev_kept (dev_kept D1.out (f2.trans f3) (by simp) (by simp) (by simp)) f5 (fun e => hlt.out w2.heap.size (by omega) (by simp at e; simp [e])) (fun e => hlt.out w2.heap.size (by omega) (by simp at e; simp [e])) (fun e => hlt.out w2.heap.size (by omega) (by simp at e; simp [e])))
  have HW : Hid (∀ w', Fr [] w5 w' → Calls Tryz.prog 38 #[.pointer (some ⟨d, 0, none⟩), .agg #[.int .i64 2, .int .i64 2, .int .i64 1]] w' fun e w'' => e = .returned (.int .i64 0) ∧ Hid (Dv.Dev w'' d bs bo nb 0 false (Dv.over S (O.put 0 (mBytes m221))) Dv.Tab.none ∧ Fr [d, bs, bo] w5 w'')) := hidI (fun w' f => by
    refine (mw_any w' d bs bo nb S O (dev_kept D5.out f (by simp) (by simp) (by simp)) hn m221 m221_ok).mono ?_
    rintro e w'' ⟨he, hd, hf⟩
    exact ⟨he, hidI ⟨hd, (f.mono (by simp)).trans hf⟩⟩)
  have y0 := cell_of_row _ w2.heap.size 0 _ _ _ h5
  have y1 := cell_of_row _ w2.heap.size 1 _ _ _ h5
  have y2 := cell_of_row _ w2.heap.size 2 _ _ _ h5
  have H5 := hidI h5
  have HM5 := hidI hM5
  clear x0 x1 z0 z1 h4 h5 hM5 hN hM
  go_region_held3 (fun w' => w'.cell? ⟨w2.heap.size, 0, none⟩ = some (.int .i64 2) ∧ w'.cell? ⟨w2.heap.size, 1, none⟩ = some (.int .i64 2) ∧ w'.cell? ⟨w2.heap.size, 2, none⟩ = some (.int .i64 1)) (first | exact ⟨u0, u1, u2⟩ | exact ⟨y0, y1, y2⟩ | exact ⟨cell_of_row _ w2.heap.size 0 _ _ _ g7, cell_of_row _ w2.heap.size 1 _ _ _ g7, cell_of_row _ w2.heap.size 2 _ _ _ g7⟩) ((first
    | (go_at_call 38; refine (HW.out _ (Fr.refl [] w5).drew).mono ?_; rintro e w6 ⟨rfl, H6⟩; have m6 := H6.out.2.same (hlt.out _ (by omega)) H5.out; have u0 := cell_of_row _ w2.heap.size 0 _ _ _ m6; have u1 := cell_of_row _ w2.heap.size 1 _ _ _ m6; have u2 := cell_of_row _ w2.heap.size 2 _ _ _ m6; have n6 := H6.out.2.same (hlt.out _ (Nat.le_refl _)) HM5.out; have v0 := cell_of_row _ w.heap.size 0 _ _ _ n6; have v1 := cell_of_row _ w.heap.size 1 _ _ _ n6; have v2 := cell_of_row _ w.heap.size 2 _ _ _ n6; have k0 := frozen_of_row w6 w.heap.size 0 _ _ n6; have k1 := frozen_of_row w6 w.heap.size 1 _ _ n6; have k2 := frozen_of_row w6 w.heap.size 2 _ _ n6; have f7 := ((fr_set w6 w.heap.size 0 (.int .i64 2)).trans (fr_set _ w.heap.size 1 (.int .i64 2))).trans (fr_set _ w.heap.size 2 (.int .i64 1)); have g7 := f7.same (by simp; omega) m6)))
  all_goals
    go_wp2_with fail
    have r7 : MBox (((w6.setCell ⟨w.heap.size, 0, none⟩ (.int .i64 2)).setCell ⟨w.heap.size, 1, none⟩ (.int .i64 2)).setCell ⟨w.heap.size, 2, none⟩ (.int .i64 1)) w.heap.size ⟨2, 2, 1⟩ := heap_setCell_same _ w.heap.size 2 _ _ (.int .i64 1) (heap_setCell_same _ w.heap.size 1 _ _ (.int .i64 2) (heap_setCell_same w6 w.heap.size 0 _ _ (.int .i64 2) n6))
    refine bodyPost_ret (resM2 Tryz.results136 _ _ _ ⟨2, 2, 1⟩ rfl r7) rfl ⟨rfl, dev_kept H6.out.1 f7 (fun e => hlt.out w.heap.size (Nat.le_refl _) (by simp at e; simp [e])) (fun e => hlt.out w.heap.size (Nat.le_refl _) (by simp at e; simp [e])) (fun e => hlt.out w.heap.size (Nat.le_refl _) (by simp at e; simp [e])), ?_⟩
    exact ((F5.mono (by simp)).trans H6.out.2).then f7 (fun i hi hm => by simp at hm; omega)
set_option maxRecDepth 100000 in
theorem undo_none {w : World} (rb : Nat) (h2 : w.cell? ⟨rb, 2, none⟩ = some (.int .i64 0)) (h4 : w.cell? ⟨rb, 4, none⟩ = some (.int .u8 0)) :
    Calls Tryz.prog 139 #[.pointer (some ⟨rb, 0, none⟩)] w fun e w' => e = .returned (.int .i64 0) ∧ w' = w := by
  go_enter Tryz.func139, Tryz.ntmps139
  go_wp2_with fail
  go_ret
  exact ⟨rfl, rfl⟩
end Go.Proofs.YtopaeomjndblkaaGreat

namespace Go.Proofs.YtopaeomjndblkaaGreat
open Go.RowKit Go.Maps

/-- A restoring that has just begun. -/
def RsBox (w : World) (rb p pp : Nat) : Prop := w.heap[rb]? = some (.cells #[.pointer (some ⟨p, 0, none⟩), .pointer (some ⟨pp, 0, none⟩), .int .i64 0, .int .i64 0, .int .u8 0, .int .i64 0, .int .i64 0, .int .i64 0, .int .i64 0, .int .i64 0, .slice none 0 0, .slice none 0 0, .int .i64 0, .int .i64 0, .int .i64 0, .int .i64 0] 194)
set_option maxHeartbeats 2000000 in
set_option maxRecDepth 100000 in
theorem rbegin_ok {w : World} {d bs bo : Nat} {S : Dv.Tab} (nb most pages : Nat) (at' cnt : Int) (hd : Dv.Dev w d bs bo (nb : Int) 0 false S Dv.Tab.none) (h0 : 24 ≤ nb) (h1 : nb ≤ 65536) (h3 : 8 ≤ most) (h4 : most ≤ 1024) (hcnt : (nb : Int) / 2 = cnt) (hat : (nb : Int) - cnt = at') (hpages : (nb : Int) - 2 - cnt = (pages : Int)) (hz : Dv.latest S Dv.Tab.none at' = zs 512) :
    Calls Tryz.prog 137 #[.pointer (some ⟨d, 0, none⟩), .agg #[.int .i64 2, .int .i64 2, .int .i64 1], .int .i64 (most : Int)] w fun e w' => ∃ rb, e = .returned (.tuple #[.pointer (some ⟨rb, 0, none⟩), .int .i64 0]) ∧ Hid (∃ p pp rp mp, RsBox w' rb p pp ∧ PoAt w' ⟨loF d bs bo (nb : Int) S p at' cnt 3, pp, rp, mp, 2, pages, most, none, 0, 0, []⟩ ∧ w.heap.size ≤ p ∧ w.heap.size ≤ pp ∧ w.heap.size ≤ rp ∧ w.heap.size ≤ mp ∧ w.heap.size ≤ rb ∧ Fr [] w w') := by
  have z1 : 4 ≤ cnt := by omega
  have z2 : 2 ≤ at' := by omega
  have z3 : at' + cnt ≤ (nb : Int) := by omega
  have z4 : 1 ≤ pages := by omega
  have z5 : 2 + (pages : Int) ≤ at' := by omega
  have HPL : Hid (∀ w', Calls Tryz.prog 87 #[.int .i64 (nb : Int)] w' fun e w'' => e = .returned (.tuple #[.int .i64 2, .int .i64 (pages : Int), .int .i64 at', .int .i64 cnt]) ∧ w'' = w') := hidI (fun w' => place_let w' nb pages at' cnt h0 h1 hcnt hat hpages)
  have HZ := hidI hz
  have f1 : Fr [] w (w.alloc (.cells #[.int .i64 2, .int .i64 2, .int .i64 1] 72)) := (Fr.refl [] w).alloc _
  have hM := heap_alloc_new w (.cells #[.int .i64 2, .int .i64 2, .int .i64 1] 72)
  obtain ⟨w1, hw1⟩ : ∃ w1, w.alloc (.cells #[.int .i64 2, .int .i64 2, .int .i64 1] 72) = w1 := ⟨_, rfl⟩
  rw [hw1] at f1 hM
  have D1 := hidI (dev_kept hd f1 (by simp) (by simp) (by simp))
  have x1 := cell_of_row _ w.heap.size 1 _ _ _ hM
  have x2 := cell_of_row _ w.heap.size 2 _ _ _ hM
  clear hcnt hat hpages hz hd hM
  go_enter Tryz.func137, Tryz.ntmps137
  go_wp2_with (first
    | (go_at_call 120; refine (Dv.blocks_dev D1.out).mono ?_; rintro e wz ⟨rfl, hz⟩; rw [hz]; clear hz)
    | (go_at_call 87; refine (HPL.out _).mono ?_; rintro e wz ⟨rfl, hz⟩; rw [hz]; clear hz))
  refine (open_zero w1 d bs bo (nb : Int) 0 _ _ D1.out at' cnt 3 (by omega) z3 z1 (by omega) (by omega) (by rw [HZ.out]; exact zs_stamp)).mono ?_
  rintro e w2 ⟨p, rfl, L2, hp2, f2⟩
  have A2 : Hid (LoAt w2 (loF d bs bo (nb : Int) S p at' cnt 3)) := hidI (loF_at (dev_kept D1.out f2 (by simp) (by simp) (by simp)) z1 z2 z3 (by omega) L2)
  clear L2 x1 x2
  go_wp2_with fail
  refine (new_ok A2.out 2 pages most z4 (by show (2 : Int) + (pages : Int) ≤ (nb : Int); omega) h3 h4 (Or.inl (by show (2 : Int) + (pages : Int) ≤ at'; omega)) (by show (2 : Int) ≤ 2; omega)).mono ?_
  rintro e w3 ⟨pp, rp, mp, rfl, P3, hpp, hrp, hmp, f3⟩
  have P3' := hidI P3
  clear P3
  go_wp2_with fail
  go_ret2
  have f4 : Fr [] w3 (w3.alloc (.cells #[.pointer (some ⟨p, 0, none⟩), .pointer (some ⟨pp, 0, none⟩), .int .i64 0, .int .i64 0, .int .u8 0, .int .i64 0, .int .i64 0, .int .i64 0, .int .i64 0, .int .i64 0, .slice none 0 0, .slice none 0 0, .int .i64 0, .int .i64 0, .int .i64 0, .int .i64 0] 194)) := (Fr.refl [] w3).alloc _
  have h5 := heap_alloc_new w3 (.cells #[.pointer (some ⟨p, 0, none⟩), .pointer (some ⟨pp, 0, none⟩), .int .i64 0, .int .i64 0, .int .u8 0, .int .i64 0, .int .i64 0, .int .i64 0, .int .i64 0, .int .i64 0, .slice none 0 0, .slice none 0 0, .int .i64 0, .int .i64 0, .int .i64 0, .int .i64 0] 194)
  have l1 := f1.size
  have l2 := f2.size
  have l3 := f3.size
  exact ⟨w3.heap.size, rfl, hidI ⟨p, pp, rp, mp, h5, P3'.out.kept f4 (by simp), by omega, by omega, by omega, by omega, by omega, ((f1.trans f2).trans f3).trans f4⟩⟩
end Go.Proofs.YtopaeomjndblkaaGreat

namespace Go.Proofs.YtopaeomjndblkaaGreat
open Go.RowKit Go.Maps

def m321 : Mst := ⟨3, 2, 1⟩
theorem sizeT : (Tryz.prog.info? 108).map (·.size) = some 4 := by kernel_rfl
theorem resT3 {fn : Func} {p q r : Tmp} (h : fn.results = #[.tmp p, .cell q 108, .tmp r]) (tmps : Array Value) (w : World) (b : Nat) (cs : Array Value) (hs : cs.size = 4) (hp : tmps.getD q undef = .pointer (some ⟨b, 0, none⟩)) (hg : w.heap[b]? = some (.cells cs 108)) :
    (results fn tmps).run Tryz.prog w = .ok (.tuple #[tmps.getD p undef, .agg cs, tmps.getD r undef]) w := by
  have hl := run_loadVar_row w b 108 108 cs (0, 0) _ hg Tryz.underlying108 rfl (by rw [sizeT, hs])
  have hp2 : tmps[q]?.getD undef = .pointer (some ⟨b, 0, none⟩) := by simpa using hp
  simp only [results, h]
  simp [hp2, asAddr, hl]
/-- What stands on a device behind the restoring's first master. -/
def fmS2 (O' : Dv.Tab) : Dv.Tab := Dv.over (fmS O') (Dv.Tab.none.put 0 (mBytes m221))
theorem fm2_zero {O' : Dv.Tab} {nb : Int} (h : ∀ k : Int, 0 ≤ k → k < nb → O' k = some (zs 512)) {k : Int} (h0 : 2 ≤ k) (h1 : k < nb) : Dv.latest (fmS2 O') Dv.Tab.none k = zs 512 := by
  rw [fmS2, latest_sync, latest_put, if_neg (by omega)]
  exact fm_zero h (by omega) h1 (by omega)
theorem fm2_mas {O' : Dv.Tab} {nb : Int} (h : ∀ k : Int, 0 ≤ k → k < nb → O' k = some (zs 512)) (hn : 2 ≤ nb) : Mas (fmS2 O') Dv.Tab.none m221 := by
  have h1 := (fm_mas h hn).put m221_ok (by rfl)
  exact h1.like (fun k _ => latest_sync _ _ k)
set_option maxHeartbeats 4000000 in
set_option maxRecDepth 100000 in
theorem ropen_fresh {w : World} {d bs bo : Nat} {O' : Dv.Tab} (nb : Nat) (hd : Dv.Dev w d bs bo (nb : Int) 0 false (fmS O') Dv.Tab.none) (hO : ∀ k : Int, 0 ≤ k → k < (nb : Int) → O' k = some (zs 512)) (h0 : 24 ≤ nb) (h1 : nb ≤ 65536) :
    Calls Tryz.prog 53 #[.pointer (some ⟨d, 0, none⟩), .int .i64 8] w fun e w' => ∃ bp, e = .returned (.tuple #[.pointer (some ⟨bp, 0, none⟩), .agg #[.int .i64 0, .int .i64 0, .int .i64 0, .int .i64 0], .int .i64 0]) ∧ Hid (∃ b, b.bp = bp ∧ BkAt w' b ∧ Fresh b nb 8 3 m321 ∧ (∀ k ∈ b.dp :: b.x.own, k ∈ [d, bs, bo] ∨ w.heap.size ≤ k) ∧ Fr [d, bs, bo] w w') := by
  obtain ⟨cnt, hcnt⟩ : ∃ cnt : Int, (nb : Int) / 2 = cnt := ⟨_, rfl⟩
  obtain ⟨at', hat⟩ : ∃ at' : Int, (nb : Int) - cnt = at' := ⟨_, rfl⟩
  obtain ⟨pages, hpages⟩ : ∃ pages : Nat, (nb : Int) - 2 - cnt = (pages : Int) := ⟨((nb : Int) - 2 - cnt).toNat, by omega⟩
  have HC := hidI (And.intro hcnt (And.intro hat hpages))
  have HO := hidI hO
  have q0 : ¬ (nb : Int) = 0 := by omega
  have q9 : ((nb : Int) == 0) = false := by rw [beq_eq_false_iff_ne]; omega
  have q8 : ¬ nb = 0 := by omega
  have f1 : Fr [] w (w.alloc (.cells #[.int .i64 0, .int .i64 0, .int .i64 0, .int .i64 0] 108)) := (Fr.refl [] w).alloc _
  have hT := heap_alloc_new w (.cells #[.int .i64 0, .int .i64 0, .int .i64 0, .int .i64 0] 108)
  obtain ⟨w1, hw1⟩ : ∃ w1, w.alloc (.cells #[.int .i64 0, .int .i64 0, .int .i64 0, .int .i64 0] 108) = w1 := ⟨_, rfl⟩
  rw [hw1] at f1 hT
  have D1 := hidI (dev_kept hd f1 (by simp) (by simp) (by simp))
  have hlt : Hid (∀ k, w.heap.size ≤ k → k ∉ [d, bs, bo]) := hidI (fun k hk hm => by
    have h1 : d < w.heap.size := (Array.getElem?_eq_some_iff.1 hd.cells).1
    have h2 : bs < w.heap.size := by
      obtain ⟨D', ⟨es, clock, hb, _⟩, _⟩ := hd.safe
      exact (Array.getElem?_eq_some_iff.1 hb).1
    have h3 : bo < w.heap.size := by
      obtain ⟨D', ⟨es, clock, hb, _⟩, _⟩ := hd.opn
      exact (Array.getElem?_eq_some_iff.1 hb).1
    simp at hm
    omega)
  clear hd hO hcnt hat hpages
  go_enter Tryz.func53, Tryz.ntmps53
  go_wp2_with (go_at_call 120; refine (Dv.blocks_dev D1.out).mono ?_; rintro e wz ⟨rfl, hz⟩; rw [hz]; clear hz)
  refine (takeTurn_fresh D1.out (by omega) (fm_mas HO.out (by omega))).mono ?_
  unfold mV m221
  rintro e w2 ⟨rfl, D2, f2⟩
  dsimp only
  have f3 : Fr [] w2 (w2.alloc (.cells #[.int .i64 2, .int .i64 2, .int .i64 1] 72)) := (Fr.refl [] w2).alloc _
  have hM := heap_alloc_new w2 (.cells #[.int .i64 2, .int .i64 2, .int .i64 1] 72)
  obtain ⟨w3, hw3⟩ : ∃ w3, w2.alloc (.cells #[.int .i64 2, .int .i64 2, .int .i64 1] 72) = w3 := ⟨_, rfl⟩
  rw [hw3] at f3 hM
  have x0 := cell_of_row _ w2.heap.size 0 _ _ _ hM
  have x1 := cell_of_row _ w2.heap.size 1 _ _ _ hM
  have x2 := cell_of_row _ w2.heap.size 2 _ _ _ hM
  have D3 : Hid (Dv.Dev w3 d bs bo (nb : Int) 0 false (fmS2 O') Dv.Tab.none) := hidI (dev_kept D2 f3 (by simp) (by simp) (by simp))
  have hT3 := f3.same (by simp) (f2.same (hlt.out _ (Nat.le_refl _)) hT)
  have F3 : Fr [d, bs, bo] w w3 := ((f1.mono (by simp)).trans f2).trans (f3.mono (by simp))
  clear D2 hM
  go_wp2_with fail
  refine (rbegin_ok nb 8 pages at' cnt D3.out h0 h1 (by omega) (by omega) HC.out.1 HC.out.2.1 HC.out.2.2 (fm2_zero HO.out (by have := HC.out; omega) (by have := HC.out; omega))).mono ?_
  rintro e w4 ⟨rb, rfl, H4⟩
  obtain ⟨p, pp, rp, mp, hq⟩ := H4.out
  have HQ := hidI hq
  clear hq x0 x1 x2 H4
  have r0 := cell_of_row _ rb 0 _ _ _ HQ.out.1
  dsimp only
  go_wp2_with fail
  refine (redo_none HQ.out.2.1.lo rfl rb r0).mono ?_
  rintro e w5 ⟨rfl, f5⟩
  have R5 := hidI (f5.same (by simp) HQ.out.1)
  have P5 := hidI (HQ.out.2.1.kept f5 (by simp))
  have r2 := cell_of_row _ rb 2 _ _ _ R5.out
  have r4 := cell_of_row _ rb 4 _ _ _ R5.out
  go_wp2_with (go_at_call 139; refine (undo_none rb r2 r4).mono ?_; rintro e wz ⟨rfl, hz⟩; rw [hz]; clear hz)
  have s0 := cell_of_row _ rb 0 _ _ _ R5.out
  have s1 := cell_of_row _ rb 1 _ _ _ R5.out
  have HNB : Hid (∀ w', Fr [] w5 w' → Calls Tryz.prog 39 #[.pointer (some ⟨d, 0, none⟩), .pointer (some ⟨p, 0, none⟩), .pointer (some ⟨pp, 0, none⟩)] w' fun e w'' => ∃ bp dp, e = .returned (.pointer (some ⟨bp, 0, none⟩)) ∧ Hid (BkAt w'' ⟨⟨loF d bs bo (nb : Int) (fmS2 O') p at' cnt 3, pp, rp, mp, 2, pages, 8, none, 0, 0, []⟩, bp, dp, dl0⟩ ∧ w5.heap.size ≤ bp ∧ w5.heap.size ≤ dp ∧ Fr [] w5 w'')) := hidI (fun w' f => by
    have e1 := HC.out
    have h9 := new_book (P5.out.kept f (by simp)) (fm2_mas HO.out (by omega)) (by show (24 : Int) ≤ (nb : Int); omega) (by show (pages : Int) = (nb : Int) - 2 - (nb : Int) / 2; omega) (fun f hf => nomatch hf) ⟨List.Pairwise.nil, fun v hv => nomatch hv⟩
    refine h9.mono ?_
    rintro e w'' ⟨bp, dp, he, P, a1, a2, f9⟩
    have hsz := f.size
    exact ⟨bp, dp, he, hidI ⟨P, by omega, by omega, f.trans f9⟩⟩)
  clear r0 r2 r4
  go_region_law ((go_simp; go_at_call 39; refine (HNB.out _ (Fr.refl [] w5).drew).mono ?_; rintro e w6 ⟨bp, dp, rfl, H6⟩))
  all_goals
    obtain ⟨b0, hb0⟩ : ∃ b0 : Bk, b0 = ⟨⟨loF d bs bo (nb : Int) (fmS2 O') p at' cnt 3, pp, rp, mp, 2, pages, 8, none, 0, 0, []⟩, bp, dp, dl0⟩ := ⟨_, rfl⟩
    have B6 : Hid (BkAt w6 b0 ∧ b0.bp = bp ∧ Fresh b0 nb 8 3 m221 ∧ (∀ k ∈ b0.dp :: b0.x.own, k ∈ [d, bs, bo] ∨ w.heap.size ≤ k)) := hidI (by
      subst hb0
      have e1 := HC.out
      obtain ⟨_, _, g1, g2, g3, g4, g5, g6⟩ := HQ.out
      have l3 := F3.size
      have l6 := g6.size
      have l5 := f5.size
      refine ⟨H6.out.1, rfl, ⟨rfl, by show (pages : Int) = _; omega, rfl, rfl, rfl, by show at' = _; omega, by show cnt = _; omega, rfl, rfl, rfl, rfl, fm2_mas HO.out (by omega), fun q hq => Or.inr ⟨by simp [ids], ?_⟩⟩, fun k hk => ?_⟩
      · have hq' : q < pages := hq
        show Dv.latest (fmS2 O') Dv.Tab.none ((2 : Int) + (q : Int)) = zs 512
        exact fm2_zero HO.out (by omega) (by omega)
      · have h7 := H6.out.2.2.1
        simp [Po.own, ownR, loF, Lo.own, Value.ownBlock] at hk
        simp
        omega)
    have R6 := hidI (H6.out.2.2.2.same (by simp) R5.out)
    have T6 := hidI (H6.out.2.2.2.same (by simp) (f5.same (by simp) (HQ.out.2.2.2.2.2.2.2.same (by simp) hT3)))
    have F6 : Fr [d, bs, bo] w w6 := (F3.trans ((HQ.out.2.2.2.2.2.2.2.trans f5).mono (by simp))).trans (H6.out.2.2.2.mono (by simp))
    clear hb0 s0 s1
    go_wp2_with fail
    have PT := hidI (point_any B6.out.1 B6.out.2.2.1.t B6.out.2.2.1.mas (by rw [B6.out.2.2.1.nb]; omega) (by decide) (by rw [B6.out.2.2.1.start]; omega) (by rw [B6.out.2.2.1.lw]; omega))
    rw [B6.out.2.1] at PT
    refine PT.out.mono ?_
    rintro e w7 ⟨rfl, b1, st, pt⟩
    have aR := B6.out.1.away R6.out (by decide) (by decide) (by decide) (by decide)
    have aT := B6.out.1.away T6.out (by decide) (by decide) (by decide) (by decide)
    have R7 := hidI (st.fr.same aR.2.1 R6.out)
    have T7 := hidI (st.fr.same aT.2.1 T6.out)
    have FIN : Hid (∀ W, Fr [w.heap.size] w7 W → ∃ b, b.bp = bp ∧ BkAt W b ∧ Fresh b nb 8 3 m321 ∧ (∀ k ∈ b.dp :: b.x.own, k ∈ [d, bs, bo] ∨ w.heap.size ≤ k) ∧ Fr [d, bs, bo] w W) := hidI (fun W fW => by
      have fr0 := B6.out.2.2.1
      have aT7 := st.at'.away T7.out (by decide) (by decide) (by decide) (by decide)
      refine ⟨b1, st.bp.trans B6.out.2.1, st.at'.kept fW (by simpa using aT7.1) (fun e => aT7.2.1 (by simp at e; simp [e])) (fun k hk e => ?_), ?_, fun k hk => ?_, ?_⟩
      · have e' : k = w.heap.size := by simpa using e
        subst e'
        rcases List.mem_cons.1 hk with e | e
        · exact aT7.2.2 e.symm
        · exact aT7.2.1 (List.mem_cons_of_mem _ e)
      · refine ⟨by rw [pt.t]; exact fr0.t, by rw [pt.al.2.1]; exact fr0.pages, by rw [pt.al.1]; exact fr0.start, by rw [pt.al.2.2.1]; exact fr0.most, by rw [pt.nb]; exact fr0.nb, by rw [pt.first]; exact fr0.first, by rw [pt.count]; exact fr0.count, by rw [pt.T]; exact fr0.T, by rw [pt.A]; exact fr0.E, by rw [pt.E]; exact fr0.E, by rw [pt.lw]; exact fr0.lw, ?_, fr0.sh.alike pt.al⟩
        have h8 := pt.mas
        rw [fr0.E] at h8
        exact h8
      · rcases List.mem_cons.1 hk with e | e
        · rw [e, st.dp]
          exact B6.out.2.2.2 _ List.mem_cons_self
        · rcases st.ow k e with h9 | h9
          · exact B6.out.2.2.2 k (List.mem_cons_of_mem _ h9)
          · exact Or.inr (Nat.le_trans F6.size h9)
      · have f9 : Fr [d, bs, bo] w w7 := F6.then st.fr (fun i hi hm => (B6.out.2.2.2 i hm).resolve_right (by omega))
        exact f9.then fW (fun i hi hm => by simp at hm; omega))
    have t0 := cell_of_row _ w.heap.size 0 _ _ _ T7.out
    have t1 := cell_of_row _ w.heap.size 1 _ _ _ T7.out
    have t2 := cell_of_row _ w.heap.size 2 _ _ _ T7.out
    have t3 := cell_of_row _ w.heap.size 3 _ _ _ T7.out
    have v0 := frozen_of_row w7 w.heap.size 0 _ _ T7.out
    have v1 := frozen_of_row w7 w.heap.size 1 _ _ T7.out
    have v2 := frozen_of_row w7 w.heap.size 2 _ _ T7.out
    have v3 := frozen_of_row w7 w.heap.size 3 _ _ T7.out
    have u0 := cell_of_row _ rb 12 _ _ _ R7.out
    have u1 := cell_of_row _ rb 13 _ _ _ R7.out
    have u2 := cell_of_row _ rb 14 _ _ _ R7.out
    have u3 := cell_of_row _ rb 15 _ _ _ R7.out
    clear st pt aR aT
    go_wp2_with fail
    go_region_law fail
    all_goals
      have f8 := ((((fr_set w7 w.heap.size 0 (.int .i64 0)).trans (fr_set _ w.heap.size 1 (.int .i64 0))).trans (fr_set _ w.heap.size 2 (.int .i64 0))).trans (fr_set _ w.heap.size 3 (.int .i64 0))).drew
      have g8 := heap_setCell_same _ w.heap.size 3 _ _ (.int .i64 0) (heap_setCell_same _ w.heap.size 2 _ _ (.int .i64 0) (heap_setCell_same _ w.heap.size 1 _ _ (.int .i64 0) (heap_setCell_same w7 w.heap.size 0 _ _ (.int .i64 0) T7.out)))
      go_wp2_with fail
      exact bodyPost_ret (resT3 Tryz.results53 _ _ w.heap.size #[.int .i64 0, .int .i64 0, .int .i64 0, .int .i64 0] rfl rfl g8) rfl ⟨bp, rfl, hidI (FIN.out _ f8)⟩
end Go.Proofs.YtopaeomjndblkaaGreat

namespace Go.Proofs.YtopaeomjndblkaaGreat
open Go.RowKit Go.Maps
open Pg (SpE diffS)

structure DdV where
  kind : Int
  page : Int
  off : Int
  many : Int
  ad : Option Addr
  c : Nat
  l : List UInt8
  odd : Bool
structure DdOk (w : World) (d : DdV) : Prop where
  kind : (Lit.int .i64 d.kind).wf = true
  page : (Lit.int .i64 d.page).wf = true
  off : (Lit.int .i64 d.off).wf = true
  many : (Lit.int .i64 d.many).wf = true
  b : BytesAt w d.ad d.l
  n : d.ad = none → d.l.length = 0 ∧ d.c = 0
  s : d.l.length ≤ maxLen
  k : d.l.length ≤ d.c
theorem DdOk.kept {w w' : World} {d : DdV} (h : DdOk w d) (f : Fr [] w w') : DdOk w' d := { h with b := h.b.kept f (by simp) }
theorem pick_in (w : World) (x n : Int) (hx : (Lit.int .i64 x).wf = true) (h1 : 1 ≤ n) (h2 : n ≤ 1000000) : ∃ k : Nat, x % n = (k : Int) ∧ (k : Int) < n ∧ Calls Tryz.prog 40 #[.int .i64 x, .int .i64 n] w fun e w' => e = .returned (.int .i64 (k : Int)) ∧ w' = w := by
  have h := Pg.pick_any w x n hx h1 h2
  have a1 : 0 ≤ x % n := Int.emod_nonneg _ (by omega)
  have a2 : x % n < n := Int.emod_lt_of_pos _ (by omega)
  refine ⟨(x % n).toNat, by omega, by omega, ?_⟩
  rw [show (((x % n).toNat : Nat) : Int) = x % n by omega]
  exact h
end Go.Proofs.YtopaeomjndblkaaGreat

