/-
  The law's rig: a device that is formatted, its log, its pool, its book.
-/
import Derived.Test.YtopaeomjndblkaaGreatX11Z
import Derived.Test.YtopaeomjndblkaaGreatX13Z
namespace Go.Proofs.YtopaeomjndblkaaGreat
open Go.RowKit Go.Maps

/-- A log that was opened on a device without records. -/
def loF (d bs bo : Nat) (nb : Int) (S : Dv.Tab) (p : Nat) (first count : Int) (T : Nat) : Lo := ⟨d, bs, bo, nb, S, Dv.Tab.none, p, first, count, T, 0, 0, 0, 0, 0, 0, none, 0, 0, none, [], [], 2⟩
theorem loF_at {w : World} {d bs bo : Nat} {nb : Int} {S : Dv.Tab} (hd : Dv.Dev w d bs bo nb 0 false S Dv.Tab.none) {p : Nat} {first count : Int} {T : Nat} (hc : 4 ≤ count) (h0 : 2 ≤ first) (hn : first + count ≤ nb) (hT : T < 2147483648) (hb : LBox w p ⟨.pointer (some ⟨d, 0, none⟩), first, count, (T : Int), 1, 1, 1, .slice none 0 0, 1, .slice none 0 0⟩) : LoAt w (loF d bs bo nb S p first count T) :=
  { dev := hd, box := hb, bsA := BsAt.nil w, lsA := LsAt.nil w, lbl := rfl, hn := rfl, hFP := Nat.le_refl _, hPE := Nat.le_refl _, hFA := Nat.le_refl _, hAE := Nat.le_refl _, hE := by show (0 : Nat) ≤ 400000; omega, h2 := Nat.le_refl _, hT := hT, f0 := by show (0 : Int) ≤ first; omega, f1 := hn, c0 := hc, hlw := h0 }
/-- What stands on a device that was formatted. -/
def fmS (O' : Dv.Tab) : Dv.Tab := Dv.over (Dv.over Dv.Tab.none O') (Dv.Tab.none.put 1 (mBytes m111))
theorem fm_zero {O' : Dv.Tab} {nb : Int} (h : ∀ k : Int, 0 ≤ k → k < nb → O' k = some (zs 512)) {k : Int} (h0 : 0 ≤ k) (h1 : k < nb) (h2 : k ≠ 1) : Dv.latest (fmS O') Dv.Tab.none k = zs 512 := by
  rw [fmS, latest_sync, latest_put, if_neg h2, latest_sync]
  unfold Dv.latest
  rw [h k h0 h1]
  rfl
theorem fm_one (O' : Dv.Tab) : Dv.latest (fmS O') Dv.Tab.none 1 = mBytes m111 := by
  rw [fmS, latest_sync, latest_put, if_pos rfl]
theorem fm_mas {O' : Dv.Tab} {nb : Int} (h : ∀ k : Int, 0 ≤ k → k < nb → O' k = some (zs 512)) (hn : 2 ≤ nb) : Mas (fmS O') Dv.Tab.none m111 :=
  ⟨⟨0, 0, 0⟩, m111, by rw [fm_zero h (by omega) (by omega) (by omega)]; exact Stands.none 0, by rw [fm_one]; exact Stands.one m111 m111_ok, by simp [bestM, later, m111], m111_ok⟩
theorem zs_stamp : stampP ((zs 512).take 64) ≠ 1 := by
  have h2 : stampP ((zs 512).take 64) = 0 := by kernel_rfl
  rw [h2]
  omega
/-- A book that was just made: its pages are noughts, its log is empty. -/
structure Fresh (b : Bk) (n most T : Nat) (m : Mst) : Prop where
  t : b.t = dl0
  pages : (b.x.pages : Int) = (n : Int) - 2 - (n : Int) / 2
  start : b.x.start = 2
  most : b.x.most = most
  nb : b.x.y.nb = (n : Int)
  first : b.x.y.first = (n : Int) - (n : Int) / 2
  count : b.x.y.count = (n : Int) / 2
  T : b.x.y.T = T
  A : b.x.y.A = 0
  E : b.x.y.E = 0
  lw : b.x.y.lw = 2
  mas : Mas b.x.y.S b.x.y.O m
  sh : Shows b.x (fun _ => zs 512)
theorem place_let (w : World) (nb : Nat) (pages : Nat) (at' cnt : Int) (h0 : 24 ≤ nb) (h1 : nb ≤ 65536) (e1 : (nb : Int) / 2 = cnt) (e2 : (nb : Int) - cnt = at') (e3 : (nb : Int) - 2 - cnt = (pages : Int)) : Calls Tryz.prog 87 #[.int .i64 (nb : Int)] w fun e w' => e = .returned (.tuple #[.int .i64 2, .int .i64 (pages : Int), .int .i64 at', .int .i64 cnt]) ∧ w' = w := by
  have h := place_ok w (nb : Int) (by omega) (by omega)
  rw [e1, e2, e3] at h
  exact h
def CBox (w : World) (rg d p pp bp : Nat) : Prop := w.heap[rg]? = some (.cells #[.pointer (some ⟨d, 0, none⟩), .pointer (some ⟨p, 0, none⟩), .pointer (some ⟨pp, 0, none⟩), .pointer (some ⟨bp, 0, none⟩)] 62)
/-- The rig in memory. -/
structure CRig (w : World) (rg : Nat) (b : Bk) : Prop where
  box : CBox w rg b.x.y.d b.x.y.p b.x.pp b.bp
  bk : BkAt w b
theorem CRig.lt {w : World} {rg : Nat} {b : Bk} (h : CRig w rg b) : rg < w.heap.size := (Array.getElem?_eq_some_iff.1 h.box).1
theorem CRig.ne {w : World} {rg : Nat} {b : Bk} (h : CRig w rg b) : rg ∉ b.dp :: b.x.own := by
  intro hm
  rcases List.mem_cons.1 hm with e | e
  · have h1 := h.box
    have h2 := h.bk.dl
    unfold CBox at h1
    unfold DlAt at h2
    rw [e, h2] at h1
    cases h1
  · exact po_notin h.bk.po h.box (by decide) (by decide) (by decide) (List.mem_cons_of_mem _ e)
theorem CRig.step {w w' : World} {rg : Nat} {b b' : Bk} (h : CRig w rg b) (st : BStep w w' b b') (hd : b'.x.y.d = b.x.y.d) (hp : b'.x.y.p = b.x.y.p) : CRig w' rg b' := by
  refine ⟨?_, st.at'⟩
  rw [hd, hp, st.pp, st.bp]
  exact st.fr.same h.ne h.box
theorem CRig.quiet {w w' : World} {rg : Nat} {b : Bk} (h : CRig w rg b) (f : Fr [] w w') : CRig w' rg b := ⟨f.same (by simp) h.box, h.bk.quiet f⟩
theorem CRig.c0 {w : World} {rg : Nat} {b : Bk} (h : CRig w rg b) : w.cell? ⟨rg, 0, none⟩ = some (.pointer (some ⟨b.x.y.d, 0, none⟩)) := cell_of_row w rg 0 _ _ _ h.box
theorem CRig.c1 {w : World} {rg : Nat} {b : Bk} (h : CRig w rg b) : w.cell? ⟨rg, 1, none⟩ = some (.pointer (some ⟨b.x.y.p, 0, none⟩)) := cell_of_row w rg 1 _ _ _ h.box
theorem CRig.c3 {w : World} {rg : Nat} {b : Bk} (h : CRig w rg b) : w.cell? ⟨rg, 3, none⟩ = some (.pointer (some ⟨b.bp, 0, none⟩)) := cell_of_row w rg 3 _ _ _ h.box
set_option maxHeartbeats 2000000 in
set_option maxRecDepth 100000 in
theorem cbegin_ok (w : World) (nb most : Nat) (h0 : 24 ≤ nb) (h1 : nb ≤ 65536) (h3 : 8 ≤ most) (h4 : most ≤ 1024) :
    Calls Tryz.prog 23 #[.int .i64 (nb : Int), .int .i64 (most : Int)] w fun e w' => ∃ rg b, e = .returned (.tuple #[.pointer (some ⟨rg, 0, none⟩), .bool true]) ∧ CRig w' rg b ∧ Fresh b nb most 2 m111 ∧ (∀ k ∈ rg :: b.bp :: b.dp :: b.x.pp :: b.x.own, w.heap.size ≤ k) ∧ Fr [] w w' := by
  obtain ⟨cnt, hcnt⟩ : ∃ cnt : Int, (nb : Int) / 2 = cnt := ⟨_, rfl⟩
  obtain ⟨at', hat⟩ : ∃ at' : Int, (nb : Int) - cnt = at' := ⟨_, rfl⟩
  obtain ⟨pages, hpages⟩ : ∃ pages : Nat, (nb : Int) - 2 - cnt = (pages : Int) := ⟨((nb : Int) - 2 - cnt).toNat, by omega⟩
  have z1 : 4 ≤ cnt := by omega
  have z2 : 2 ≤ at' := by omega
  have z3 : at' + cnt ≤ (nb : Int) := by omega
  have z4 : 1 ≤ pages := by omega
  have z5 : 2 + (pages : Int) ≤ at' := by omega
  have HCN := hidI hcnt
  have HAT := hidI hat
  have HPG := hidI hpages
  have HPL : Hid (∀ w', Calls Tryz.prog 87 #[.int .i64 (nb : Int)] w' fun e w'' => e = .returned (.tuple #[.int .i64 2, .int .i64 (pages : Int), .int .i64 at', .int .i64 cnt]) ∧ w'' = w') := hidI (fun w' => place_let w' nb pages at' cnt h0 h1 hcnt hat hpages)
  clear hcnt hat hpages
  go_enter Tryz.func23, Tryz.ntmps23
  go_wp2_with fail
  refine (Dv.new_dev (nb : Int) w (by omega) (by omega)).mono ?_
  rintro e w1 ⟨rfl, D1, f1⟩
  have f1' : Fr [] w w1 := fr_dv f1
  obtain ⟨d, hd⟩ : ∃ d, d = w.heap.size + 2 := ⟨_, rfl⟩
  obtain ⟨bo, hbo⟩ : ∃ bo, bo = w.heap.size + 1 := ⟨_, rfl⟩
  obtain ⟨bs, hbs⟩ : ∃ bs, bs = w.heap.size := ⟨_, rfl⟩
  rw [← hd, ← hbo, ← hbs] at D1
  rw [← hd]
  have HLT : Hid (w.heap.size ≤ d ∧ w.heap.size ≤ bs ∧ w.heap.size ≤ bo ∧ d < w1.heap.size ∧ bs < w1.heap.size ∧ bo < w1.heap.size) := hidI (by
    have a1 : d < w1.heap.size := (Array.getElem?_eq_some_iff.1 D1.cells).1
    omega)
  have D1' := hidI D1
  clear hd hbo hbs D1 f1
  have f2 : Fr [] w1 (w1.alloc (.cells #[.pointer (some ⟨d, 0, none⟩), .pointer none, .pointer none, .pointer none] 62)) := (Fr.refl [] w1).alloc _
  have r2 := heap_alloc_new w1 (.cells #[.pointer (some ⟨d, 0, none⟩), .pointer none, .pointer none, .pointer none] 62)
  obtain ⟨w2, hw2⟩ : ∃ w2, w1.alloc (.cells #[.pointer (some ⟨d, 0, none⟩), .pointer none, .pointer none, .pointer none] 62) = w2 := ⟨_, rfl⟩
  rw [hw2] at f2 r2
  have D2 := hidI (dev_kept D1'.out f2 (by simp) (by simp) (by simp))
  have x0 := cell_of_row _ w1.heap.size 0 _ _ _ r2
  have nrg : w1.heap.size ∉ [d, bs, bo] := by
    intro hm
    have := HLT.out
    simp at hm
    omega
  go_wp2_with fail
  refine (format_any w2 d bs bo (nb : Int) _ _ D2.out (by omega) (by omega)).mono ?_
  rintro e w3 ⟨rfl, ⟨O', hO, D3⟩, f3⟩
  have r3 := f3.same nrg r2
  have y0 := cell_of_row _ w1.heap.size 0 _ _ _ r3
  have HO := hidI hO
  have D3' : Hid (Dv.Dev w3 d bs bo (nb : Int) 0 false (fmS O') Dv.Tab.none) := hidI D3
  clear hO D3 x0
  go_wp2_with (go_at_call 87; refine (HPL.out _).mono ?_; rintro e w9 ⟨rfl, hz⟩; rw [hz]; clear hz)
  refine (open_zero w3 d bs bo (nb : Int) 0 _ _ D3'.out at' cnt 2 (by omega) z3 z1 (by omega) (by omega) (by rw [fm_zero HO.out (by omega) (by omega) (by omega)]; exact zs_stamp)).mono ?_
  rintro e w4 ⟨p, rfl, L4, hp4, f4⟩
  have r4 := f4.same (by simp) r3
  have v0 := cell_of_row _ w1.heap.size 0 _ _ _ r4
  have v1 := cell_of_row _ w1.heap.size 1 _ _ _ r4
  have fz1 := frozen_of_row w4 w1.heap.size 1 _ _ r4
  have D4 := hidI (dev_kept D3'.out f4 (by simp) (by simp) (by simp))
  have L4' := hidI L4
  clear L4 y0
  have r5 := heap_setCell_same w4 w1.heap.size 1 _ _ (.pointer (some ⟨p, 0, none⟩)) r4
  have f5 := fr_set w4 w1.heap.size 1 (.pointer (some ⟨p, 0, none⟩))
  have np : p ≠ w1.heap.size := fun e => by
    have h1 := L4'.out
    unfold LBox at h1
    rw [e, r4] at h1
    simp at h1
  have LO5 : Hid (LoAt (w4.setCell ⟨w1.heap.size, 1, none⟩ (.pointer (some ⟨p, 0, none⟩))) (loF d bs bo (nb : Int) (fmS O') p at' cnt 2)) := hidI (loF_at (dev_kept D4.out f5 (fun e => nrg (by simp at e; simp [e])) (fun e => nrg (by simp at e; simp [e])) (fun e => nrg (by simp at e; simp [e]))) z1 z2 z3 (by omega) (L4'.out.kept f5 (by simpa using np)))
  go_wp2_with fail
  generalize w4.setCell ⟨w1.heap.size, 1, none⟩ (.pointer (some ⟨p, 0, none⟩)) = w5 at r5 f5 LO5 ⊢
  have r5' : w5.heap[w1.heap.size]? = some (.cells #[.pointer (some ⟨d, 0, none⟩), .pointer (some ⟨p, 0, none⟩), .pointer none, .pointer none] 62) := r5
  have u0 := cell_of_row _ w1.heap.size 0 _ _ _ r5'
  have u1 := cell_of_row _ w1.heap.size 1 _ _ _ r5'
  have HNP : Hid (∀ w', Fr [] w5 w' → Calls Tryz.prog 74 #[.pointer (some ⟨d, 0, none⟩), .pointer (some ⟨p, 0, none⟩), .int .i64 2, .int .i64 (pages : Int), .int .i64 (most : Int)] w' fun e w'' => ∃ pp rp mp, e = .returned (.pointer (some ⟨pp, 0, none⟩)) ∧ Hid (PoAt w'' ⟨loF d bs bo (nb : Int) (fmS O') p at' cnt 2, pp, rp, mp, 2, pages, most, none, 0, 0, []⟩ ∧ w5.heap.size ≤ pp ∧ w5.heap.size ≤ rp ∧ w5.heap.size ≤ mp ∧ Fr [] w5 w'')) := hidI (fun w' f => by
    have h9 := new_ok (LO5.out.kept f (by simp)) 2 pages most z4 (by show (2 : Int) + (pages : Int) ≤ (nb : Int); omega) h3 h4 (Or.inl (by show (2 : Int) + (pages : Int) ≤ at'; omega)) (by show (2 : Int) ≤ 2; omega)
    refine h9.mono ?_
    rintro e w'' ⟨pp, rp, mp, he, P, a1, a2, a3, f9⟩
    have hsz := f.size
    exact ⟨pp, rp, mp, he, hidI ⟨P, by omega, by omega, by omega, f.trans f9⟩⟩)
  clear v0 v1 fz1 r5
  go_region_law ((go_simp; go_at_call 74; refine (HNP.out _ (Fr.refl [] w5).drew).mono ?_; rintro e w6 ⟨pp, rp, mp, rfl, H6⟩; have r6 := H6.out.2.2.2.2.same (by simp) r5'; have t2 := cell_of_row _ w1.heap.size 2 _ _ _ r6; have tz := frozen_of_row w6 w1.heap.size 2 _ _ r6))
  all_goals
    have nrp := po_notin H6.out.1 r6 (by decide) (by decide) (by decide)
    have r7 := heap_setCell_same w6 w1.heap.size 2 _ _ (.pointer (some ⟨pp, 0, none⟩)) r6
    have f7 := fr_set w6 w1.heap.size 2 (.pointer (some ⟨pp, 0, none⟩))
    have P7 := hidI (H6.out.1.kept f7 (fun k hk e => by simp at e; rw [e] at hk; exact nrp hk))
    generalize w6.setCell ⟨w1.heap.size, 2, none⟩ (.pointer (some ⟨pp, 0, none⟩)) = w7 at r7 f7 P7 ⊢
    have r7' : w7.heap[w1.heap.size]? = some (.cells #[.pointer (some ⟨d, 0, none⟩), .pointer (some ⟨p, 0, none⟩), .pointer (some ⟨pp, 0, none⟩), .pointer none] 62) := r7
    have y0 := cell_of_row _ w1.heap.size 0 _ _ _ r7'
    have y1 := cell_of_row _ w1.heap.size 1 _ _ _ r7'
    have y2 := cell_of_row _ w1.heap.size 2 _ _ _ r7'
    have HNB : Hid (∀ w', Fr [] w7 w' → Calls Tryz.prog 39 #[.pointer (some ⟨d, 0, none⟩), .pointer (some ⟨p, 0, none⟩), .pointer (some ⟨pp, 0, none⟩)] w' fun e w'' => ∃ bp dp, e = .returned (.pointer (some ⟨bp, 0, none⟩)) ∧ Hid (BkAt w'' ⟨⟨loF d bs bo (nb : Int) (fmS O') p at' cnt 2, pp, rp, mp, 2, pages, most, none, 0, 0, []⟩, bp, dp, dl0⟩ ∧ w7.heap.size ≤ bp ∧ w7.heap.size ≤ dp ∧ Fr [] w7 w'')) := hidI (fun w' f => by
      have e1 := HPG.out
      have e2 := HCN.out
      have h9 := new_book (P7.out.kept f (by simp)) (fm_mas HO.out (by omega)) (by show (24 : Int) ≤ (nb : Int); omega) (by show (pages : Int) = (nb : Int) - 2 - (nb : Int) / 2; omega) (fun f hf => nomatch hf) ⟨List.Pairwise.nil, fun v hv => nomatch hv⟩
      refine h9.mono ?_
      rintro e w'' ⟨bp, dp, he, P, a1, a2, f9⟩
      have hsz := f.size
      exact ⟨bp, dp, he, hidI ⟨P, by omega, by omega, f.trans f9⟩⟩)
    have HR7 := hidI r7'
    clear r7 r7'
    go_wp2_with fail
    go_region_law ((go_simp; go_at_call 39; refine (HNB.out _ (Fr.refl [] w7).drew).mono ?_; rintro e w8 ⟨bp, dp, rfl, H8⟩; have r8 := H8.out.2.2.2.same (by simp) HR7.out; have t3 := cell_of_row _ w1.heap.size 3 _ _ _ r8; have tz3 := frozen_of_row w8 w1.heap.size 3 _ _ r8))
    all_goals
      have n8 := po_notin H8.out.1.po r8 (by decide) (by decide) (by decide)
      have r9 := heap_setCell_same w8 w1.heap.size 3 _ _ (.pointer (some ⟨bp, 0, none⟩)) r8
      have f9 := fr_set w8 w1.heap.size 3 (.pointer (some ⟨bp, 0, none⟩))
      generalize w8.setCell ⟨w1.heap.size, 3, none⟩ (.pointer (some ⟨bp, 0, none⟩)) = w9 at r9 f9 ⊢
      have r9' : w9.heap[w1.heap.size]? = some (.cells #[.pointer (some ⟨d, 0, none⟩), .pointer (some ⟨p, 0, none⟩), .pointer (some ⟨pp, 0, none⟩), .pointer (some ⟨bp, 0, none⟩)] 62) := r9
      have x3 := cell_of_row _ w1.heap.size 3 _ _ _ r9'
      have HR9 := hidI r9'
      clear r9 r9' r8
      go_wp2_with fail
      go_region_law fail
      all_goals
        go_wp2_with fail
        go_ret2
        have FIN : ∀ W, Fr [] w9 W → (CRig W w1.heap.size ⟨⟨loF d bs bo (nb : Int) (fmS O') p at' cnt 2, pp, rp, mp, 2, pages, most, none, 0, 0, []⟩, bp, dp, dl0⟩ ∧ Fresh ⟨⟨loF d bs bo (nb : Int) (fmS O') p at' cnt 2, pp, rp, mp, 2, pages, most, none, 0, 0, []⟩, bp, dp, dl0⟩ nb most 2 m111 ∧ (∀ k ∈ w1.heap.size :: bp :: dp :: pp :: (⟨loF d bs bo (nb : Int) (fmS O') p at' cnt 2, pp, rp, mp, 2, pages, most, none, 0, 0, []⟩ : Po).own, w.heap.size ≤ k) ∧ Fr [] w W) := fun W fW => by
          obtain ⟨B8, hb8, hd8, g8⟩ := H8.out
          obtain ⟨P6, hp6, hr6, hm6, g6⟩ := H6.out
          have l1 := f1'.size
          have l2 := f2.size
          have l3 := f3.size
          have l4 := f4.size
          have l5 := f5.size
          have l6 := g6.size
          have l7 := f7.size
          have hl := HLT.out
          have r2l : w1.heap.size < w2.heap.size := (Array.getElem?_eq_some_iff.1 r2).1
          have B9 := B8.kept f9 (by simp; omega) (by simp; omega) (fun k hk e => by simp at e; rw [e] at hk; exact n8 hk)
          refine ⟨⟨fW.same (by simp) HR9.out, B9.quiet fW⟩, ?_, ?_, ?_⟩
          · have e1 := HCN.out
            have e2 := HAT.out
            have e3 := HPG.out
            refine ⟨rfl, by show (pages : Int) = _; omega, rfl, rfl, rfl, by show at' = _; omega, by show cnt = _; omega, rfl, rfl, rfl, rfl, fm_mas HO.out (by omega), fun q hq => Or.inr ⟨by simp [ids], ?_⟩⟩
            have hq' : q < pages := hq
            show Dv.latest (fmS O') Dv.Tab.none ((2 : Int) + (q : Int)) = zs 512
            exact fm_zero HO.out (by omega) (by omega) (by omega)
          · intro k hk
            simp [Po.own, ownR, loF, Lo.own, Value.ownBlock] at hk
            omega
          · have a1 : Fr [] w w2 := f1'.trans f2
            have a2 : Fr [] w w3 := a1.then f3 (fun i hi hm => by simp at hm; omega)
            have a3 : Fr [] w w5 := (a2.trans f4).then f5 (fun i hi hm => by simp at hm; omega)
            have a4 : Fr [] w w7 := (a3.trans g6).then f7 (fun i hi hm => by simp at hm; omega)
            exact ((a4.trans g8).then f9 (fun i hi hm => by simp at hm; omega)).trans fW
        first
          | exact ⟨w1.heap.size, _, rfl, FIN _ (Fr.refl [] w9)⟩
          | exact ⟨w1.heap.size, _, rfl, FIN _ (Fr.refl [] w9).drew⟩
end Go.Proofs.YtopaeomjndblkaaGreat

