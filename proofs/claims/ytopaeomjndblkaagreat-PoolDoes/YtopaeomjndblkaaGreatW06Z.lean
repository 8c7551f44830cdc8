/-
  What is done to a pool, as the law's model has it: held, left, changed, the log grown or forced, all flushed.
-/
import Derived.Test.YtopaeomjndblkaaGreatW05Z
namespace Go.Proofs.YtopaeomjndblkaaGreat
open Go.RowKit Go.Maps

set_option maxHeartbeats 400000 in
set_option maxRecDepth 100000 in
/-- A log of twelve blocks on a device that has fewer. -/
theorem open_few (w : World) (d bs bo : Nat) (nb a : Int) (S O : Dv.Tab) (hd : Dv.Dev w d bs bo nb a false S O) (hn : nb < 12) : Calls Tryz.prog 73 #[.pointer (some ⟨d, 0, none⟩), .int .i64 0, .int .i64 12, .int .i64 1, .int .i64 1] w fun e w' => e = .returned (.tuple #[.pointer none, .int .i64 2]) ∧ w' = w := by
  have n1 := hd.n1
  have q0 : (nb == 0) = false := by rw [beq_eq_false_iff_ne]; omega
  have q2 : IntKind.i64.wrap (nb - 12) = nb - 12 := wrapI _ (by omega) (by omega)
  have q3 : nb - 12 < 0 := by omega
  go_enter Tryz.func73, Tryz.ntmps73
  go_wp2_with (go_at_call 120; refine (Dv.blocks_dev hd).mono ?_; rintro e w ⟨rfl, rfl⟩)
  go_ret2
  exact ⟨rfl, rfl⟩
set_option maxHeartbeats 1000000 in
set_option maxRecDepth 100000 in
/-- No pool of frames that may not be. -/
theorem pnew_frames {w : World} {y : Lo} (h : LoAt w y) (p q r : Int) (hp0 : 0 ≤ p) (hq0 : 1 ≤ q) (hq1 : q ≤ 1000000) (hpq : p ≤ y.nb - q) (hr : r < 8 ∨ 1024 < r) : Calls Tryz.prog 74 #[.pointer (some ⟨y.d, 0, none⟩), .pointer (some ⟨y.p, 0, none⟩), .int .i64 p, .int .i64 q, .int .i64 r] w fun e w' => e = .returned (.pointer none) ∧ w' = w := by
  have n1 := h.dev.n1
  have n2 := h.dev.n2
  have q0 : (y.nb == 0) = false := by rw [beq_eq_false_iff_ne]; omega
  have q1 : ((y.E : Int) + 1 == 0) = false := by rw [beq_eq_false_iff_ne]; omega
  have q2 : IntKind.i64.wrap (y.nb - q) = y.nb - q := wrapI _ (by omega) (by omega)
  have q3 : ¬ p < 0 := by omega
  have q4 : ¬ q < 1 := by omega
  have q5 : ¬ y.nb - q < p := by omega
  have HH := hidI h
  clear h hp0 hq0 hpq
  by_cases h1 : r < 8
  · clear hr
    go_enter Tryz.func74, Tryz.ntmps74
    go_wp2_with (first
      | (go_at_call 120; refine (Dv.blocks_dev HH.out.dev).mono ?_; rintro e wz ⟨rfl, hz⟩; rw [hz]; clear hz)
      | (go_at_call 77; refine (lo_end HH.out).mono ?_; rintro e wz ⟨rfl, hz⟩; rw [hz]; clear hz))
    go_ret
    exact ⟨rfl, rfl⟩
  · have h2 : 1024 < r := by omega
    clear hr
    go_enter Tryz.func74, Tryz.ntmps74
    go_wp2_with (first
      | (go_at_call 120; refine (Dv.blocks_dev HH.out.dev).mono ?_; rintro e wz ⟨rfl, hz⟩; rw [hz]; clear hz)
      | (go_at_call 77; refine (lo_end HH.out).mono ?_; rintro e wz ⟨rfl, hz⟩; rw [hz]; clear hz))
    go_ret
    exact ⟨rfl, rfl⟩
set_option maxHeartbeats 1000000 in
set_option maxRecDepth 100000 in
/-- A rig without a pool. -/
theorem begin_none (w : World) (pages most : Int) (h0 : -5 ≤ pages) (h2 : pages ≤ 1000) (hbad : pages < 1 ∨ most < 8 ∨ 1024 < most) :
    Calls Tryz.prog 16 #[.int .i64 pages, .int .i64 most] w fun e w' => ∃ rg d v, e = .returned (.pointer (some ⟨rg, 0, none⟩)) ∧ w'.heap[rg]? = some (.cells #[.pointer (some ⟨d, 0, none⟩), v, .pointer none] 28) ∧ Fr [] w w' := by
  have q1 : IntKind.i64.wrap (12 + pages) = 12 + pages := wrapI _ (by omega) (by omega)
  go_enter Tryz.func16, Tryz.ntmps16
  go_wp2_with fail
  refine (Dv.new_dev (12 + pages) w (by omega) (by omega)).mono ?_
  rintro e w1 ⟨rfl, D1, f1⟩
  have f1' : Fr [] w w1 := fr_dv f1
  obtain ⟨d, hd⟩ : ∃ d, d = w.heap.size + 2 := ⟨_, rfl⟩
  obtain ⟨bo, hbo⟩ : ∃ bo, bo = w.heap.size + 1 := ⟨_, rfl⟩
  rw [← hd, ← hbo] at D1
  rw [← hd]
  have D1' := hidI D1
  clear hd hbo D1 f1
  by_cases hneg : pages < 0
  · clear hbad
    go_wp2_with fail
    refine (open_few w1 d w.heap.size bo (12 + pages) 0 Dv.Tab.none Dv.Tab.none D1'.out (by omega)).mono ?_
    rintro e w2 ⟨rfl, hz⟩
    rw [hz]; clear hz
    go_wp2_with fail
    refine (new_nolog D1'.out 12 pages most).mono ?_
    rintro e w3 ⟨rfl, hz⟩
    rw [hz]; clear hz
    have f4 : Fr [] w1 (w1.alloc (.cells #[.pointer (some ⟨d, 0, none⟩), .pointer none, .pointer none] 28)) := (Fr.refl [] w1).alloc _
    have b4 := heap_alloc_new w1 (.cells #[.pointer (some ⟨d, 0, none⟩), .pointer none, .pointer none] 28)
    go_wp2_with fail
    go_ret
    exact ⟨w1.heap.size, d, _, rfl, b4, f1'.trans f4⟩
  go_wp2_with fail
  refine (open_zero w1 d w.heap.size bo (12 + pages) 0 Dv.Tab.none Dv.Tab.none D1'.out 0 12 1 (by omega) (by omega) (by omega) (by omega) (by omega) (st_none 0)).mono ?_
  rintro e w2 ⟨p, rfl, L2, hp2, f2⟩
  have A2 := hidI (lo0_at (dev_kept D1'.out f2 (by simp) (by simp) (by simp)) (by omega) (by omega) L2)
  have HN : Hid (Calls Tryz.prog 74 #[.pointer (some ⟨d, 0, none⟩), .pointer (some ⟨p, 0, none⟩), .int .i64 12, .int .i64 pages, .int .i64 most] w2 fun e w' => e = .returned (.pointer none) ∧ w' = w2) := by
    by_cases hz : pages < 1
    · exact hidI (new_area A2.out 12 pages most (by omega) (by omega) (Or.inr (Or.inl hz)))
    · exact hidI (pnew_frames A2.out 12 pages most (by omega) (by omega) (by omega) (by show (12 : Int) ≤ 12 + pages - pages; omega) (by omega))
  clear L2 hbad
  go_wp2_with fail
  refine HN.out.mono ?_
  rintro e w3 ⟨rfl, hz⟩
  rw [hz]; clear hz
  have f4 : Fr [] w2 (w2.alloc (.cells #[.pointer (some ⟨d, 0, none⟩), .pointer (some ⟨p, 0, none⟩), .pointer none] 28)) := (Fr.refl [] w2).alloc _
  have b4 := heap_alloc_new w2 (.cells #[.pointer (some ⟨d, 0, none⟩), .pointer (some ⟨p, 0, none⟩), .pointer none] 28)
  go_wp2_with fail
  go_ret
  exact ⟨w2.heap.size, d, _, rfl, b4, (f1'.trans f2).trans f4⟩
end Go.Proofs.YtopaeomjndblkaaGreat

namespace Go.Proofs.YtopaeomjndblkaaGreat
open Go.RowKit Go.Maps
/-- How often each page is held, in memory. -/
def Hd (w : World) (hb n : Nat) (hs : List Int) : Prop := hs.length = n ∧ w.heap[hb]? = some (.cells (hs.map (Value.int .i64 ·)).toArray 3)
theorem Hd.cell {w : World} {hb n : Nat} {hs : List Int} (h : Hd w hb n hs) {i : Nat} {k : Int} (hk : hs[i]? = some k) : w.cell? ⟨hb, i, none⟩ = some (.int .i64 k) :=
  cell_of_row w hb i _ _ _ h.2 |>.trans (by simp [hk])
/-- How many of the first are held. -/
def hN (hs : List Int) (i : Nat) : Nat := ((hs.take i).filter (fun k => decide (0 < k))).length
theorem hN_step {hs : List Int} {i : Nat} {k : Int} (hk : hs[i]? = some k) : hN hs (i + 1) = hN hs i + (if 0 < k then 1 else 0) := by
  unfold hN
  rw [List.take_add_one, hk, List.filter_append, List.length_append]
  by_cases h : 0 < k <;> simp [h]
theorem hN_le (hs : List Int) (i : Nat) : hN hs i ≤ i := by
  unfold hN
  exact Nat.le_trans (List.length_filter_le _ _) (by rw [List.length_take]; omega)
set_option maxHeartbeats 1000000 in
set_option maxRecDepth 100000 in
/-- Are all frames held, and is this page not? -/
theorem full_any (w : World) (m : Nat) (av : Option Addr) (hb nv cv n : Nat) (hs : List Int) (hm : w.heap[m]? = some (.cells #[.slice av nv cv, .slice (some ⟨hb, 0, none⟩) n n] 36)) (hh : Hd w hb n hs) (hn : n ≤ 1000) (page : Nat) (most : Int) (k : Int) (h1 : page < n) (hk : hs[page]? = some k) :
    Calls Tryz.prog 76 #[.pointer (some ⟨m, 0, none⟩), .int .i64 (page : Int), .int .i64 most] w fun e w' => e = .returned (.bool (decide (most ≤ (hN hs n : Int)) && (k == 0))) ∧ w' = w := by
  have x1 : w.cell? ⟨m, 1, none⟩ = some (.slice (some ⟨hb, 0, none⟩) n n) := cell_of_row w m 1 _ _ _ hm
  have HH := hidI hh
  have c1 := hh.cell hk
  have hlen := hh.1
  clear hm hh
  go_enter Tryz.func76, Tryz.ntmps76
  go_wp2_with fail
  go_loopw [7, 8] (fun s7 s8 wr => wr = w ∧ ∃ j : Nat, s8 = .int .i64 (j : Int) ∧ j ≤ n ∧ s7 = .int .i64 (hN hs j : Int)) (fun _ s8 _ => n - (intOf s8).toNat)
  case atStart => exact ⟨rfl, 0, rfl, by omega, rfl⟩
  case round =>
    obtain ⟨rfl, j, rfl, hj, rfl⟩ := hrel
    have hle := hN_le hs j
    by_cases hlt : j < n
    · have q1 : (j : Int) < (n : Int) := by omega
      have q0 : (0 : Int) ≤ (j : Int) := by omega
      obtain ⟨kj, hkj⟩ : ∃ kj, hs[j]? = some kj := ⟨_, List.getElem?_eq_getElem (by omega)⟩
      have c2 := HH.out.cell hkj
      have hst := hN_step hkj
      have e1 : IntKind.i64.wrap ((j : Int) + 1) = (j : Int) + 1 := wrapI _ (by omega) (by omega)
      have e2 : IntKind.i64.wrap ((hN hs j : Int) + 1) = (hN hs j : Int) + 1 := wrapI _ (by omega) (by omega)
      by_cases hp : 0 < kj
      · rw [if_pos hp] at hst
        go_wp2_with fail
        exact ⟨⟨trivial, j + 1, by simp, by omega, by rw [hst]; simp⟩, by simp [intOf]; omega⟩
      · rw [if_neg hp] at hst
        go_wp2_with fail
        exact ⟨⟨trivial, j + 1, by simp, by omega, by rw [hst]; simp⟩, by simp [intOf]; omega⟩
    · have q1 : ¬ (j : Int) < (n : Int) := by omega
      obtain rfl : j = n := by omega
      have q3 : (page : Int) < (j : Int) := by omega
      by_cases hf : most ≤ (hN hs j : Int)
      · go_wp2_with fail
        go_ret
        exact ⟨rfl, rfl⟩
      · go_wp2_with fail
        go_ret
        exact ⟨by rw [decide_eq_false (by omega)]; rfl, rfl⟩
end Go.Proofs.YtopaeomjndblkaaGreat

namespace Go.Proofs.YtopaeomjndblkaaGreat
open Go.RowKit Go.Maps

/-- A version: its bytes' block, their room, its bytes, its lsn. -/
structure Vr where
  g : Nat
  c : Nat
  l : List UInt8
  n : Int
/-- A row of versions: its block, its room. -/
structure Rw where
  g : Nat
  c : Nat
  vs : List Vr
/-- A page is dirty, and was changed last at n or behind it. -/
def Dty (x : Po) (q : Nat) (n : Int) : Prop := ∃ f ∈ x.fs, f.pg = q ∧ 0 < f.fst ∧ n ≤ f.lst
/-- A row of versions says what a page is, and what stands on the device of it. -/
structure RC (x : Po) (q : Nat) (vs : List Vr) : Prop where
  last : ∃ v, vs.getLast? = some v ∧ Val x q v.l ∧ (v.n ≤ (x.y.P : Int) ∨ Dty x q v.n)
  dev : ∃ v ∈ vs, v.l = pgD x.start x.y q ∧ v.n ≤ (x.y.P : Int)
  two : (∃ f ∈ x.fs, f.pg = q ∧ 0 < f.fst) → 2 ≤ vs.length
/-- A pool moves, and a page stays what it is. -/
structure Mv (x x' : Po) (q : Nat) : Prop where
  val : ∀ l, Val x q l → Val x' q l
  P : x.y.P ≤ x'.y.P
  dty : ∀ f ∈ x.fs, f.pg = q → 0 < f.fst → (∃ g ∈ x'.fs, g.pg = q ∧ 0 < g.fst ∧ f.lst ≤ g.lst) ∨ f.lst ≤ (x'.y.P : Int)
  dev : pgD x'.start x'.y q = pgD x.start x.y q ∨ (Val x q (pgD x'.start x'.y q) ∧ ∀ f ∈ x.fs, f.pg = q → 0 < f.fst → f.lst ≤ (x'.y.P : Int))
  back : ∀ g ∈ x'.fs, g.pg = q → 0 < g.fst → ∃ f ∈ x.fs, f.pg = q ∧ 0 < f.fst
theorem RC.mv {x x' : Po} {q : Nat} {vs : List Vr} (h : RC x q vs) (hn : ((ids x.fs).map (·.1)).Nodup) (m : Mv x x' q) : RC x' q vs := by
  obtain ⟨v, hv, hval, hs⟩ := h.last
  have hP := m.P
  refine ⟨⟨v, hv, m.val _ hval, ?_⟩, ?_, ?_⟩
  · rcases hs with hs | ⟨f, hf, hp, h0, hl⟩
    · left
      omega
    · rcases m.dty f hf hp h0 with ⟨g, h1, h2, h3, h4⟩ | h1
      · right
        exact ⟨g, h1, h2, h3, by omega⟩
      · left
        omega
  · rcases m.dev with e | ⟨e, hsafe⟩
    · obtain ⟨u, hu, h1, h2⟩ := h.dev
      exact ⟨u, hu, by rw [h1, e], by omega⟩
    · refine ⟨v, List.mem_of_getLast? hv, Val.uniq hn hval e, ?_⟩
      rcases hs with hs | ⟨f, hf, hp, h0, hl⟩
      · omega
      · have := hsafe f hf hp h0
        omega
  · rintro ⟨g, h1, h2, h3⟩
    exact h.two (m.back g h1 h2 h3)
/-- Frames that are alike, but for what was asked, and for their bytes. -/
def FSame (f g : Fm) : Prop := g.pg = f.pg ∧ g.hd = f.hd ∧ g.fst = f.fst ∧ g.lst = f.lst
/-- What is behind asking for a page: each frame is one that was there, or the page's own, new; none goes but one that nobody holds, and it is written. -/
structure FndF (x x' : Po) (page : Nat) : Prop where
  bk : ∀ g ∈ x'.fs, (∃ f ∈ x.fs, FSame f g) ∨ (g.pg = page ∧ page ∉ (ids x.fs).map (·.1) ∧ g.hd = 0 ∧ g.fst = 0)
  fw : ∀ f ∈ x.fs, (∃ g ∈ x'.fs, FSame f g) ∨ (f.hd = 0 ∧ (0 < f.fst → f.lst ≤ (x'.y.P : Int)))
  dv : ∀ q, q < x.pages → pgD x'.start x'.y q = pgD x.start x.y q ∨ ∃ f ∈ x.fs, f.pg = q ∧ pgD x'.start x'.y q = f.l ∧ (0 < f.fst → f.lst ≤ (x'.y.P : Int))
theorem Fnd.frames {x x' : Po} {page : Nat} {f : Fm} (h : Fnd x x' page f) : FndF x x' page := by
  rcases h with ⟨j, f0, hj, rfl, rfl, rfl⟩ | ⟨hno, hm, hf⟩
  · refine ⟨fun g hg => ?_, fun g hg => ?_, fun q _ => Or.inl rfl⟩
    · rcases mem_set hj hg with rfl | ⟨i, _, hi⟩
      · exact Or.inl ⟨f0, List.mem_of_getElem? hj, rfl, rfl, rfl, rfl⟩
      · exact Or.inl ⟨g, List.mem_of_getElem? hi, rfl, rfl, rfl, rfl⟩
    · left
      obtain ⟨i, hi⟩ := List.mem_iff_getElem?.1 hg
      by_cases e : i = j
      · subst e
        rw [hj] at hi
        cases hi
        exact ⟨{ f0 with ask := true }, List.mem_of_getElem? (List.getElem?_set_self (List.getElem?_eq_some_iff.1 hj).1), rfl, rfl, rfl, rfl⟩
      · exact ⟨g, List.mem_of_getElem? (i := i) (by show (x.fs.set j _)[i]? = _; rw [List.getElem?_set_ne (fun h => e h.symm)]; exact hi), rfl, rfl, rfl, rfl⟩
  · rcases hm with ⟨_, a, c, rfl⟩ | ⟨_, y', k, j, f1, _, _, hf1, hd1, rfl, hk, hpq, hpf, hs⟩
    · refine ⟨fun g hg => ?_, fun g hg => Or.inl ⟨g, List.mem_append_left _ hg, rfl, rfl, rfl, rfl⟩, fun q _ => Or.inl rfl⟩
      rcases List.mem_append.1 hg with h1 | h1
      · exact Or.inl ⟨g, h1, rfl, rfl, rfl, rfl⟩
      · right
        rw [List.mem_singleton.1 h1]
        exact ⟨rfl, hno, rfl, rfl⟩
    · have hlt : j < x.fs.length := (List.getElem?_eq_some_iff.1 hf1).1
      have hat : ∀ (i : Nat) (g : Fm), i ≠ j → (x.swapped y' k j f1 (newF f.b page (pgD x.start x.y page))).fs[i]? = some g → ∃ g' : Fm, x.fs[i]? = some g' ∧ FSame g' g := by
        intro i g hij hg
        change ((turnS k (x.fs.set j { f1 with fst := 0 }, x.hand)).1.set j _)[i]? = _ at hg
        rw [List.getElem?_set_ne (fun h => hij h.symm)] at hg
        obtain ⟨g', h1, h2⟩ := turnS_at k _ i g hg
        change (x.fs.set j { f1 with fst := 0 })[i]? = some g' at h1
        rw [List.getElem?_set_ne (fun h => hij h.symm)] at h1
        refine ⟨g', h1, ?_⟩
        rcases h2 with h2 | h2 <;> rw [h2] <;> exact ⟨rfl, rfl, rfl, rfl⟩
      have hln : (x.swapped y' k j f1 (newF f.b page (pgD x.start x.y page))).fs.length = x.fs.length := by
        show ((turnS k (x.fs.set j { f1 with fst := 0 }, x.hand)).1.set j _).length = _
        rw [List.length_set, turnS_len, List.length_set]
      refine ⟨fun g hg => ?_, fun g hg => ?_, fun q hq => ?_⟩
      · obtain ⟨i, hi⟩ := List.mem_iff_getElem?.1 hg
        by_cases e : i = j
        · subst e
          right
          change ((turnS k (x.fs.set i { f1 with fst := 0 }, x.hand)).1.set i _)[i]? = _ at hi
          rw [List.getElem?_set_self (by rw [turnS_len, List.length_set]; exact hlt)] at hi
          cases hi
          exact ⟨rfl, hno, rfl, rfl⟩
        · obtain ⟨g', h1, h2⟩ := hat i g e hi
          exact Or.inl ⟨g', List.mem_of_getElem? h1, h2⟩
      · obtain ⟨i, hi⟩ := List.mem_iff_getElem?.1 hg
        by_cases e : i = j
        · subst e
          rw [hf1] at hi
          cases hi
          exact Or.inr ⟨hd1, hs⟩
        · left
          have hil : i < (x.swapped y' k j f1 (newF f.b page (pgD x.start x.y page))).fs.length := by rw [hln]; exact (List.getElem?_eq_some_iff.1 hi).1
          obtain ⟨g', h1, h2⟩ := hat i _ e (List.getElem?_eq_getElem hil)
          rw [hi] at h1
          cases h1
          exact ⟨_, List.getElem_mem hil, h2⟩
      · by_cases e : q = f1.pg
        · right
          exact ⟨f1, List.mem_of_getElem? hf1, e.symm, by rw [e]; exact hpf, hs⟩
        · left
          exact hpq q hq e
theorem FSame.pgm {f g : Fm} (h : FSame f g) {q : Nat} (hq : g.pg = q) : f.pg = q := h.1.symm.trans hq
theorem f_uniq {fs : List Fm} (hn : ((ids fs).map (·.1)).Nodup) {f g : Fm} (hf : f ∈ fs) (hg : g ∈ fs) (he : f.pg = g.pg) : f = g := by
  obtain ⟨i, hi⟩ := List.mem_iff_getElem?.1 hf
  obtain ⟨j, hj⟩ := List.mem_iff_getElem?.1 hg
  have e := pg_uniq hn hi hj he
  rw [e, hj] at hi
  exact (Option.some.inj hi).symm
theorem Fnd.mv {x x' : Po} {page : Nat} {f : Fm} (h : Fnd x x' page f) (hn : ((ids x.fs).map (·.1)).Nodup) {q : Nat} (hq : q < x.pages) : Mv x x' q := by
  have F := h.frames
  have A := (h.alike hn).1
  refine ⟨A.2.2.2.2.2.2 q hq, h.kin.P, fun g hg hp h0 => ?_, ?_, fun g hg hp h0 => ?_⟩
  · rcases F.fw g hg with ⟨g', h1, h2⟩ | h1
    · exact Or.inl ⟨g', h1, by rw [h2.1]; exact hp, by rw [h2.2.2.1]; exact h0, by rw [h2.2.2.2]; omega⟩
    · exact Or.inr (h1.2 h0)
  · rcases F.dv q hq with e | ⟨g, hg, h1, h2, h3⟩
    · exact Or.inl e
    · refine Or.inr ⟨Or.inl ⟨g, hg, h1, h2.symm⟩, fun g' hg' h1' h0 => ?_⟩
      have e := f_uniq hn hg' hg (by rw [h1', h1])
      subst e
      exact h3 h0
  · rcases F.bk g hg with ⟨g', h1, h2⟩ | h1
    · exact ⟨g', h1, h2.pgm hp, by rw [← h2.2.2.1]; exact h0⟩
    · have := h1.2.2.2
      omega
/-- How often pages are held, as the law's model and the pool's frames say it. -/
structure Hl (x : Po) (hs : List Int) : Prop where
  hf : ∀ f ∈ x.fs, hs[f.pg]? = some f.hd
  h0 : ∀ q, q < x.pages → q ∉ (ids x.fs).map (·.1) → hs[q]? = some 0
theorem Fnd.hl {x x' : Po} {page : Nat} {f : Fm} (h : Fnd x x' page f) (hn : ((ids x.fs).map (·.1)).Nodup) (hp : page < x.pages) {hs : List Int} (hh : Hl x hs) : Hl x' hs := by
  have F := h.frames
  have A := (h.alike hn).1
  refine ⟨fun g hg => ?_, fun q hq hno => ?_⟩
  · rcases F.bk g hg with ⟨g', h1, h2⟩ | h1
    · rw [h2.1, h2.2.1]
      exact hh.hf g' h1
    · rw [h1.1, h1.2.2.1]
      exact hh.h0 page hp h1.2.1
  · rw [A.2.1] at hq
    by_cases hin : q ∈ (ids x.fs).map (·.1)
    · obtain ⟨g, hg, e⟩ := ids_mem hin
      rcases F.fw g hg with ⟨g', h1, h2⟩ | h1
      · exact absurd (by rw [← e, ← h2.1]; exact mem_ids h1) hno
      · have h3 := hh.hf g hg
        rw [e, h1.1] at h3
        exact h3
    · exact hh.h0 q hq hin
/-- No page is both refused and found. -/
theorem Busy.fnd {x x' : Po} {page : Nat} {f : Fm} (h : Busy x page) (k : Fnd x x' page f) : False := by
  rcases k with ⟨j, f0, hj, h1, _, _⟩ | ⟨_, hm, _⟩
  · exact h.2.1 (by rw [← h1]; exact mem_ids (List.mem_of_getElem? hj))
  · rcases hm with ⟨h1, _⟩ | ⟨_, y', k, j, f1, _, _, hf1, hd1, _⟩
    · have := h.1
      omega
    · exact h.2.2 f1 (List.mem_of_getElem? hf1) hd1
theorem hN_range {hs : List Int} (i : Nat) (h : i ≤ hs.length) : hN hs i = ((List.range i).filter (fun q => decide (0 < hs.getD q 0))).length := by
  induction i with
  | zero => rfl
  | succ i ih =>
    have hk : hs[i]? = some hs[i] := List.getElem?_eq_getElem (by omega)
    rw [hN_step hk, ih (by omega), List.range_succ, List.filter_append, List.length_append]
    have e : hs.getD i 0 = hs[i] := by rw [List.getD_eq_getElem?_getD, hk]; rfl
    by_cases hp : 0 < hs[i]
    · rw [if_pos hp, List.filter_cons_of_pos (by rw [e]; exact decide_eq_true hp)]
      rfl
    · rw [if_neg hp, List.filter_cons_of_neg (by rw [e]; simpa using hp)]
      rfl
/-- As many pages are held as frames. -/
theorem hN_fs {x : Po} {hs : List Int} (hn : ((ids x.fs).map (·.1)).Nodup) (hp : ∀ f ∈ x.fs, f.pg < x.pages) (hh : Hl x hs) (hl : hs.length = x.pages) : hN hs x.pages = (x.fs.filter (fun f => decide (0 < f.hd))).length := by
  rw [hN_range x.pages (by omega)]
  have n1 : ((List.range x.pages).filter (fun q => decide (0 < hs.getD q 0))).Nodup := List.nodup_range.sublist List.filter_sublist
  have n2 : ((x.fs.filter (fun f => decide (0 < f.hd))).map (·.pg)).Nodup := by
    rw [ids_pg] at hn
    exact hn.sublist (List.filter_sublist.map _)
  have hperm : ((List.range x.pages).filter (fun q => decide (0 < hs.getD q 0))).Perm ((x.fs.filter (fun f => decide (0 < f.hd))).map (·.pg)) := by
    rw [List.perm_ext_iff_of_nodup n1 n2]
    intro q
    rw [List.mem_filter, List.mem_map, List.mem_range]
    constructor
    · rintro ⟨h1, h2⟩
      have h2 := of_decide_eq_true h2
      by_cases hin : q ∈ (ids x.fs).map (·.1)
      · obtain ⟨f, hf, e⟩ := ids_mem hin
        refine ⟨f, List.mem_filter.2 ⟨hf, ?_⟩, e⟩
        have h3 := hh.hf f hf
        rw [List.getD_eq_getElem?_getD, ← e, h3] at h2
        simpa using h2
      · rw [List.getD_eq_getElem?_getD, hh.h0 q h1 hin] at h2
        simp at h2
    · rintro ⟨f, hf, rfl⟩
      obtain ⟨h1, h2⟩ := List.mem_filter.1 hf
      refine ⟨hp f h1, ?_⟩
      rw [List.getD_eq_getElem?_getD, hh.hf f h1]
      simpa using h2
  rw [hperm.length_eq, List.length_map]
/-- The law's model says that all frames are held, and this page is not, just where the pool is too busy for it. -/
theorem full_busy {w : World} {x : Po} (hx : PoAt w x) {hs : List Int} (hh : Hl x hs) (hl : hs.length = x.pages) {page : Nat} (hp : page < x.pages) {k : Int} (hk : hs[page]? = some k) : (decide ((x.most : Int) ≤ (hN hs x.pages : Int)) && (k == 0)) = true ↔ Busy x page := by
  have e := hN_fs hx.nod (fun f hf => (hx.ok f hf).pg) hh hl
  have hle := hx.hl
  have hfl := List.length_filter_le (fun f : Fm => decide (0 < f.hd)) x.fs
  rw [Bool.and_eq_true, decide_eq_true_eq, beq_iff_eq, e]
  constructor
  · rintro ⟨h1, h2⟩
    have h3 : (x.fs.filter (fun f => decide (0 < f.hd))).length = x.fs.length := by omega
    have h4 := List.length_filter_eq_length_iff.1 h3
    refine ⟨by omega, fun hin => ?_, fun f hf => ?_⟩
    · obtain ⟨f, hf, e1⟩ := ids_mem hin
      have h5 := of_decide_eq_true (h4 f hf)
      have h6 := hh.hf f hf
      rw [e1, hk] at h6
      have := Option.some.inj h6
      omega
    · have h5 := of_decide_eq_true (h4 f hf)
      omega
  · rintro ⟨h1, h2, h3⟩
    have h4 : x.fs.filter (fun f => decide (0 < f.hd)) = x.fs := List.filter_eq_self.2 (fun f hf => by
      have h5 := h3 f hf
      have h6 := (hx.ok f hf).h0
      exact decide_eq_true (by omega))
    have h7 := hh.h0 page hp h2
    rw [hk] at h7
    exact ⟨by rw [h4]; omega, Option.some.inj h7⟩
/-- Between two deeds of the law. -/
structure Iv (pages most : Nat) (J : Int) (x : Po) (R : List Rw) (hs : List Int) : Prop where
  pg : x.pages = pages
  mo : x.most = most
  st : x.start = 12
  first : x.y.first = 0
  c12 : x.y.count = 12
  T1 : x.y.T = 1
  E : (x.y.E : Int) ≤ 1067 * J
  rl : R.length = pages
  hl : hs.length = pages
  rc : ∀ q r, R[q]? = some r → RC x q r.vs
  hh : Hl x hs
  hb : ∀ k ∈ hs, 0 ≤ k ∧ k ≤ J
  nod : ((ids x.fs).map (·.1)).Nodup
  vb : ∀ r ∈ R, (r.vs.length : Int) ≤ J + 1
theorem Iv.le {pages most : Nat} {J J' : Int} {x : Po} {R : List Rw} {hs : List Int} (h : Iv pages most J x R hs) (hj : J ≤ J') : Iv pages most J' x R hs :=
  { h with E := by have := h.E; omega, hb := fun k hk => ⟨(h.hb k hk).1, Int.le_trans (h.hb k hk).2 hj⟩, vb := fun r hr => by have := h.vb r hr; omega }
theorem Iv.fnd {pages most : Nat} {J : Int} {x x' : Po} {R : List Rw} {hs : List Int} (h : Iv pages most J x R hs) {page : Nat} {f : Fm} (k : Fnd x x' page f) (hp : page < pages) (hn : ((ids x'.fs).map (·.1)).Nodup) : Iv pages most J x' R hs := by
  have A := (k.alike h.nod).1
  have K := k.kin
  exact { pg := A.2.1.trans h.pg, mo := A.2.2.1.trans h.mo, st := A.1.trans h.st, first := K.first.trans h.first, c12 := K.count.trans h.c12, T1 := K.T.trans h.T1, E := by rw [K.E]; exact h.E, rl := h.rl, hl := h.hl, rc := fun q r hq => (h.rc q r hq).mv h.nod (k.mv h.nod (by rw [h.pg, ← h.rl]; exact (List.getElem?_eq_some_iff.1 hq).1)), hh := k.hl h.nod (by rw [h.pg]; exact hp) h.hh, hb := h.hb, nod := hn, vb := h.vb }
end Go.Proofs.YtopaeomjndblkaaGreat

namespace Go.Proofs.YtopaeomjndblkaaGreat
open Go.RowKit Go.Maps

/-- A pool whose log alone moves. -/
theorem mv_y {x : Po} {y' : Lo} (hP : x.y.P ≤ y'.P) {q : Nat} (hpg : pgD x.start y' q = pgD x.start x.y q) : Mv x { x with y := y' } q :=
  ⟨fun l hv => by
    rcases hv with h1 | ⟨h1, h2⟩
    · exact Or.inl h1
    · exact Or.inr ⟨h1, hpg.trans h2⟩, hP, fun f hf hp h0 => Or.inl ⟨f, hf, hp, h0, Int.le_refl _⟩, Or.inl hpg, fun g hg hp h0 => ⟨g, hg, hp, h0⟩⟩
theorem Iv.grew {pages most : Nat} {J : Int} {x : Po} {R : List Rw} {hs : List Int} (h : Iv pages most J x R hs) {y' : Lo} (g : Grew x.y y') : Iv pages most (J + 1) { x with y := y' } R hs :=
  { pg := h.pg, mo := h.mo, st := h.st, first := g.first.trans h.first, c12 := g.count.trans h.c12, T1 := g.T.trans h.T1,
    E := by
      show (y'.E : Int) ≤ _
      have h1 := g.E2
      have h2 := h.E
      omega
    rl := h.rl, hl := h.hl,
    rc := fun q r hq => (h.rc q r hq).mv h.nod (mv_y g.P (g.out _ (by rw [h.first, h.c12, h.st]; omega))),
    hh := ⟨h.hh.hf, h.hh.h0⟩, hb := fun k hk => ⟨(h.hb k hk).1, by have := (h.hb k hk).2; omega⟩, nod := h.nod, vb := fun r hr => by have := h.vb r hr; omega }
theorem Iv.forced {pages most : Nat} {J : Int} {x : Po} {R : List Rw} {hs : List Int} (h : Iv pages most J x R hs) {y' : Lo} (g : Forced x.y y') : Iv pages most J { x with y := y' } R hs :=
  { pg := h.pg, mo := h.mo, st := h.st, first := g.first.trans h.first, c12 := g.count.trans h.c12, T1 := g.T.trans h.T1,
    E := by
      show (y'.E : Int) ≤ _
      rw [g.E]
      exact h.E
    rl := h.rl, hl := h.hl,
    rc := fun q r hq => (h.rc q r hq).mv h.nod (mv_y g.P (g.out _ (by rw [h.first, h.c12, h.st]; omega))),
    hh := ⟨h.hh.hf, h.hh.h0⟩, hb := h.hb, nod := h.nod, vb := h.vb }
/-- One frame changes: all others stay. -/
theorem at_set {fs : List Fm} {j : Nat} {f f' g : Fm} (hj : fs[j]? = some f) (hg : g ∈ fs) : g ∈ fs.set j f' ∨ g = f := by
  obtain ⟨i, hi⟩ := List.mem_iff_getElem?.1 hg
  by_cases e : i = j
  · subst e
    rw [hj] at hi
    exact Or.inr (Option.some.inj hi).symm
  · exact Or.inl (List.mem_of_getElem? (i := i) (by rw [List.getElem?_set_ne (fun h => e h.symm)]; exact hi))
theorem set_in {fs : List Fm} {j : Nat} {f f' : Fm} (hj : fs[j]? = some f) : f' ∈ fs.set j f' := List.mem_of_getElem? (List.getElem?_set_self (List.getElem?_eq_some_iff.1 hj).1)
theorem set_pgs {fs : List Fm} {j : Nat} {f f' : Fm} (hj : fs[j]? = some f) (hp : f'.pg = f.pg) : (ids (fs.set j f')).map (·.1) = (ids fs).map (·.1) := by
  rw [ids_pg, ids_pg, List.map_set]
  exact set_same (by simp [hj, hp])
/-- A page other than that of the frame that changes stays what it is. -/
theorem mv_other {x : Po} {j : Nat} {f f' : Fm} (hj : x.fs[j]? = some f) (hp : f'.pg = f.pg) {q : Nat} (hq : q ≠ f.pg) : Mv x { x with fs := x.fs.set j f' } q := by
  refine ⟨fun l hv => ?_, Nat.le_refl _, fun g hg h1 h0 => ?_, Or.inl rfl, fun g hg h1 h0 => ?_⟩
  · rcases hv with ⟨g, hg, h1, h2⟩ | ⟨h1, h2⟩
    · rcases at_set (f' := f') hj hg with h3 | rfl
      · exact Or.inl ⟨g, h3, h1, h2⟩
      · exact absurd h1.symm hq
    · exact Or.inr ⟨by show q ∉ (ids (x.fs.set j f')).map (·.1); rw [set_pgs hj hp]; exact h1, h2⟩
  · rcases at_set (f' := f') hj hg with h3 | rfl
    · exact Or.inl ⟨g, h3, h1, h0, Int.le_refl _⟩
    · exact absurd h1.symm hq
  · rcases mem_set hj hg with rfl | ⟨i, _, hi⟩
    · exact absurd (h1.symm.trans hp) hq
    · exact ⟨g, List.mem_of_getElem? hi, h1, h0⟩
/-- How often a page is held changes alone. -/
theorem mv_held {x : Po} (hn : ((ids x.fs).map (·.1)).Nodup) {j : Nat} {f : Fm} (hj : x.fs[j]? = some f) (k : Int) (q : Nat) : Mv x { x with fs := x.fs.set j { f with hd := k } } q := by
  by_cases hq : q = f.pg
  · have hf := List.mem_of_getElem? hj
    have hs : ({ f with hd := k } : Fm) ∈ x.fs.set j { f with hd := k } := set_in hj
    refine ⟨fun l hv => ?_, Nat.le_refl _, fun g hg h1 h0 => ?_, Or.inl rfl, fun g hg h1 h0 => ?_⟩
    · have e : f.l = l := Val.uniq hn (Or.inl ⟨f, hf, hq.symm, rfl⟩) hv
      exact Or.inl ⟨_, hs, hq.symm, e⟩
    · have e := f_uniq hn hg hf (by rw [h1, hq])
      subst e
      exact Or.inl ⟨_, hs, hq.symm, h0, Int.le_refl _⟩
    · rcases mem_set hj hg with rfl | ⟨i, _, hi⟩
      · exact ⟨f, hf, hq.symm, h0⟩
      · exact ⟨g, List.mem_of_getElem? hi, h1, h0⟩
  · exact mv_other (f' := { f with hd := k }) hj rfl hq
theorem Iv.held {pages most : Nat} {J : Int} {x : Po} {R : List Rw} {hs : List Int} (h : Iv pages most J x R hs) {j : Nat} {f : Fm} (hj : x.fs[j]? = some f) {k J' : Int} (hJ : J ≤ J') (k0 : 0 ≤ k) (k1 : k ≤ J') : Iv pages most J' { x with fs := x.fs.set j { f with hd := k } } R (hs.set f.pg k) := by
  have hf := List.mem_of_getElem? hj
  have hat := h.hh.hf f hf
  have hlt := (List.getElem?_eq_some_iff.1 hat).1
  have hids := set_pgs (f' := { f with hd := k }) hj rfl
  refine { pg := h.pg, mo := h.mo, st := h.st, first := h.first, c12 := h.c12, T1 := h.T1, E := ?_, rl := h.rl, hl := ?_, rc := fun q r hq => (h.rc q r hq).mv h.nod (mv_held h.nod hj k q), hh := ⟨fun g hg => ?_, fun q hq hno => ?_⟩, hb := fun m hm => ?_, nod := ?_, vb := fun r hr => by have := h.vb r hr; omega }
  · have := h.E
    show (x.y.E : Int) ≤ _
    omega
  · rw [List.length_set]
    exact h.hl
  · rcases mem_set hj hg with rfl | ⟨i, hij, hi⟩
    · exact List.getElem?_set_self hlt
    · rw [List.getElem?_set_ne (fun e => hij (pg_uniq h.nod hi hj e.symm))]
      exact h.hh.hf g (List.mem_of_getElem? hi)
  · have hno' : q ∉ (ids x.fs).map (·.1) := by
      rw [← hids]
      exact hno
    rw [List.getElem?_set_ne (fun e => hno' (by rw [← e]; exact mem_ids hf))]
    exact h.hh.h0 q hq hno'
  · rcases List.mem_or_eq_of_mem_set hm with h1 | rfl
    · exact ⟨(h.hb m h1).1, Int.le_trans (h.hb m h1).2 hJ⟩
    · exact ⟨k0, k1⟩
  · show ((ids (x.fs.set j { f with hd := k })).map (·.1)).Nodup
    rw [hids]
    exact h.nod
/-- A page is changed: one version more. -/
theorem Iv.changed {pages most : Nat} {J : Int} {x : Po} {R : List Rw} {hs : List Int} (h : Iv pages most J x R hs) {j : Nat} {f : Fm} (hj : x.fs[j]? = some f) {off : Nat} {l : List UInt8} {lsn : Int} (h1 : 1 ≤ lsn) {r : Rw} (hr : R[f.pg]? = some r) {v : Vr} (hv : r.vs.getLast? = some v) (r' : Rw) (v' : Vr) (e1 : r'.vs = r.vs ++ [v']) (e2 : v'.l = over v.l off l) (e3 : v'.n = max lsn v.n) (e4 : (r'.vs.length : Int) ≤ J + 1) :
    Iv pages most J { x with fs := x.fs.set j (f.changed off l lsn) } (R.set f.pg r') hs := by
  have hf := List.mem_of_getElem? hj
  have hs0 : f.changed off l lsn ∈ x.fs.set j (f.changed off l lsn) := set_in hj
  have hids := set_pgs (f' := f.changed off l lsn) hj rfl
  have hlt := (List.getElem?_eq_some_iff.1 hr).1
  refine { pg := h.pg, mo := h.mo, st := h.st, first := h.first, c12 := h.c12, T1 := h.T1, E := h.E, rl := by rw [List.length_set]; exact h.rl, hl := h.hl, rc := fun q r2 hq => ?_, hh := ⟨fun g hg => ?_, fun q hq hno => h.hh.h0 q hq (by rw [← hids]; exact hno)⟩, hb := h.hb, nod := by show ((ids (x.fs.set j (f.changed off l lsn))).map (·.1)).Nodup; rw [hids]; exact h.nod, vb := fun r2 hr2 => (List.mem_or_eq_of_mem_set hr2).elim (h.vb r2) (fun h5 => by rw [h5]; exact e4) }
  · by_cases e : q = f.pg
    · subst e
      rw [List.getElem?_set_self hlt] at hq
      cases hq
      have C := h.rc _ r hr
      obtain ⟨v2, hv2, hval, hsafe⟩ := C.last
      rw [hv] at hv2
      obtain rfl := Option.some.inj hv2
      have el : f.l = v.l := Val.uniq h.nod (Or.inl ⟨f, hf, rfl, rfl⟩) hval
      have fst0 : 0 < (f.changed off l lsn).fst := by
        show 0 < (if 0 < f.fst then f.fst else lsn)
        split <;> omega
      have lst0 : (f.changed off l lsn).lst = max f.lst lsn := rfl
      refine ⟨⟨v', by rw [e1]; simp, Or.inl ⟨_, hs0, rfl, by rw [e2, ← el]; rfl⟩, ?_⟩, ?_, fun _ => ?_⟩
      · by_cases hc : lsn < v.n
        · rcases hsafe with h2 | ⟨g, hg, hp, h0, hle⟩
          · left
            rw [e3]
            show max lsn v.n ≤ (x.y.P : Int)
            omega
          · have e := f_uniq h.nod hg hf hp
            subst e
            exact Or.inr ⟨_, hs0, rfl, fst0, by rw [e3, lst0]; omega⟩
        · exact Or.inr ⟨_, hs0, rfl, fst0, by rw [e3, lst0]; omega⟩
      · obtain ⟨u, hu, h2, h3⟩ := C.dev
        exact ⟨u, by rw [e1]; exact List.mem_append_left _ hu, h2, h3⟩
      · rw [e1, List.length_append]
        have := List.length_pos_of_mem (List.mem_of_getLast? hv)
        simp
        omega
    · rw [List.getElem?_set_ne (fun h => e h.symm)] at hq
      exact (h.rc q r2 hq).mv h.nod (mv_other (f' := f.changed off l lsn) hj rfl e)
  · rcases mem_set hj hg with rfl | ⟨i, hij, hi⟩
    · exact h.hh.hf f hf
    · exact h.hh.hf g (List.mem_of_getElem? hi)
/-- All frames are clean. -/
def Clean (x : Po) : Prop := ∀ f ∈ x.fs, f.fst = 0
theorem Clean.val {w : World} {x : Po} (h : PoAt w x) (c : Clean x) {q : Nat} {l : List UInt8} (hv : Val x q l) : pgD x.start x.y q = l := by
  rcases hv with ⟨f, hf, h1, h2⟩ | ⟨_, h2⟩
  · rw [← h2, ← h1]
    exact ((h.ok f hf).cl (c f hf)).symm
  · exact h2
/-- Of a clean pool the last version is all that is asked. -/
theorem RC.clean {w : World} {x : Po} (h : PoAt w x) (c : Clean x) {q : Nat} {vs : List Vr} (C : RC x q vs) {v : Vr} (hv : vs.getLast? = some v) : RC x q [v] ∧ v.l = pgD x.start x.y q := by
  obtain ⟨v2, hv2, hval, hs⟩ := C.last
  rw [hv] at hv2
  obtain rfl := Option.some.inj hv2
  have hn : v.n ≤ (x.y.P : Int) := by
    rcases hs with h1 | ⟨f, hf, _, h0, _⟩
    · exact h1
    · have := c f hf
      omega
  have e := c.val h hval
  refine ⟨⟨⟨v, rfl, hval, Or.inl hn⟩, ⟨v, List.mem_singleton.2 rfl, e.symm, hn⟩, ?_⟩, e.symm⟩
  rintro ⟨f, hf, _, h0⟩
  have := c f hf
  omega
theorem Iv.flushed {pages most : Nat} {J : Int} {x x' : Po} {R : List Rw} {hs : List Int} (h : Iv pages most J x R hs) (F : Flushed x x') : Iv pages most J x' R hs ∧ Clean x' := by
  have hids : (ids x'.fs).map (·.1) = (ids x.fs).map (·.1) := by
    rw [ids_pg, ids_pg, F.fs, List.map_map]
    rfl
  have hcl : Clean x' := F.clean
  have K := F.kin
  refine ⟨{ pg := F.al.2.1.trans h.pg, mo := F.al.2.2.1.trans h.mo, st := F.al.1.trans h.st, first := K.first.trans h.first, c12 := K.count.trans h.c12, T1 := K.T.trans h.T1, E := by rw [K.E]; exact h.E, rl := h.rl, hl := h.hl, rc := fun q r hq => (h.rc q r hq).mv h.nod ?_, hh := ⟨fun g hg => ?_, fun q hq hno => h.hh.h0 q (by rw [F.al.2.1] at hq; exact hq) (by rw [← hids]; exact hno)⟩, hb := h.hb, nod := by rw [hids]; exact h.nod, vb := h.vb }, hcl⟩
  · have hqp : q < x.pages := by
      rw [h.pg, ← h.rl]
      exact (List.getElem?_eq_some_iff.1 hq).1
    refine ⟨F.al.2.2.2.2.2.2 q hqp, K.P, fun f hf _ h0 => Or.inr (F.safe f hf h0), Or.inr ⟨?_, fun f hf _ h0 => F.safe f hf h0⟩, fun g hg _ h0 => ?_⟩
    · obtain ⟨l, hl⟩ := Val.ex x q
      have e := F.on q hqp l hl
      rw [F.al.1, e]
      exact hl
    · have := hcl g hg
      omega
  · rw [F.fs] at hg
    obtain ⟨f, hf, rfl⟩ := List.mem_map.1 hg
    exact h.hh.hf f hf
/-- A row may be cut to its last version, where all is clean. -/
theorem Iv.cut {w : World} {pages most : Nat} {J : Int} {x : Po} {R : List Rw} {hs : List Int} (h : Iv pages most J x R hs) (hx : PoAt w x) (c : Clean x) {q : Nat} {r : Rw} (hr : R[q]? = some r) {v : Vr} (hv : r.vs.getLast? = some v) (r' : Rw) (e : r'.vs = [v]) : Iv pages most J x (R.set q r') hs ∧ v.l = pgD x.start x.y q := by
  have C := RC.clean hx c (h.rc q r hr) hv
  refine ⟨{ h with rl := by rw [List.length_set]; exact h.rl, rc := fun q2 r2 hq2 => ?_, vb := fun r2 hr2 => ?_ }, C.2⟩
  rotate_left
  · rcases List.mem_or_eq_of_mem_set hr2 with h5 | h5
    · exact h.vb r2 h5
    · rw [h5, e]
      have := h.E
      simp
      omega
  by_cases e2 : q2 = q
  · subst e2
    rw [List.getElem?_set_self (List.getElem?_eq_some_iff.1 hr).1] at hq2
    cases hq2
    rw [e]
    exact C.1
  · rw [List.getElem?_set_ne (fun h => e2 h.symm)] at hq2
    exact h.rc q2 r2 hq2
end Go.Proofs.YtopaeomjndblkaaGreat

