/-
  A book's space: may it be changed, and has it a head?
-/
import Derived.Test.YthajipigppndgaaGreatY32Z
import Derived.BigQuiet
import Derived.Lib.BufferWrite
namespace Go.Proofs.YthajipigppndgaaGreat
open Go.RowKit Go.Maps
def m321 : Mst := ⟨3, 2, 1⟩
theorem sizeT : (Tryz.prog.info? 97).map (·.size) = some 4 := by kernel_rfl
theorem resT3 {fn : Func} {p q r : Tmp} (h : fn.results = #[.tmp p, .cell q 97, .tmp r]) (tmps : Array Value) (w : World) (b : Nat) (cs : Array Value) (hs : cs.size = 4) (hp : tmps.getD q undef = .pointer (some ⟨b, 0, none⟩)) (hg : w.heap[b]? = some (.cells cs 97)) :
    (results fn tmps).run Tryz.prog w = .ok (.tuple #[tmps.getD p undef, .agg cs, tmps.getD r undef]) w := by
  have hl := run_loadVar_row w b 97 97 cs (0, 0) _ hg Tryz.underlying97 rfl (by rw [sizeT, hs])
  have hp2 : tmps[q]?.getD undef = .pointer (some ⟨b, 0, none⟩) := by simpa using hp
  simp only [results, h]
  simp [hp2, asAddr, hl]
def fmS2 (O' : Dv.Tab) : Dv.Tab := Dv.over (fmS O') (Dv.Tab.none.put 0 (mBytes m221))
theorem fm2_zero {O' : Dv.Tab} {nb : Int} (h : ∀ k : Int, 0 ≤ k → k < nb → O' k = some (zs 512)) {k : Int} (h0 : 2 ≤ k) (h1 : k < nb) : Dv.latest (fmS2 O') Dv.Tab.none k = zs 512 := by
  rw [fmS2, latest_sync, latest_put, if_neg (by omega)]
  exact fm_zero h (by omega) h1 (by omega)
theorem fm2_mas {O' : Dv.Tab} {nb : Int} (h : ∀ k : Int, 0 ≤ k → k < nb → O' k = some (zs 512)) (hn : 2 ≤ nb) : Mas (fmS2 O') Dv.Tab.none m221 := by
  have h1 := (fm_mas h hn).put m221_ok (by rfl)
  exact h1.like (fun k _ => latest_sync _ _ k)
set_option maxHeartbeats 4000000 in
set_option maxRecDepth 100000 in
theorem ropen_fresh {w : World} {d bs bo : Nat} {O' : Dv.Tab} (nb : Nat) (hd : Dv.Dev w d bs bo (nb : Int) 0 false (fmS O') Dv.Tab.none) (hO : ∀ k : Int, 0 ≤ k → k < (nb : Int) → O' k = some (zs 512)) (h0 : 24 ≤ nb) (h1 : nb ≤ 65536) :
    Calls Tryz.prog 72 #[.pointer (some ⟨d, 0, none⟩), .int .i64 8] w fun e w' => ∃ bp, e = .returned (.tuple #[.pointer (some ⟨bp, 0, none⟩), .agg #[.int .i64 0, .int .i64 0, .int .i64 0, .int .i64 0], .int .i64 0]) ∧ Hid (∃ b, b.bp = bp ∧ BkAt w' b ∧ Fresh b nb 8 3 m321 ∧ (∀ k ∈ b.dp :: b.x.own, k ∈ [d, bs, bo] ∨ w.heap.size ≤ k) ∧ Fr [d, bs, bo] w w') := by
  obtain ⟨cnt, hcnt⟩ : ∃ cnt : Int, (nb : Int) / 2 = cnt := ⟨_, rfl⟩
  obtain ⟨at', hat⟩ : ∃ at' : Int, (nb : Int) - cnt = at' := ⟨_, rfl⟩
  obtain ⟨pages, hpages⟩ : ∃ pages : Nat, (nb : Int) - 2 - cnt = (pages : Int) := ⟨((nb : Int) - 2 - cnt).toNat, by omega⟩
  have HC := hidI (And.intro hcnt (And.intro hat hpages))
  have HO := hidI hO
  have q0 : ¬ (nb : Int) = 0 := by omega
  have q9 : ((nb : Int) == 0) = false := by rw [beq_eq_false_iff_ne]; omega
  have q8 : ¬ nb = 0 := by omega
  have f1 : Fr [] w (w.alloc (.cells #[.int .i64 0, .int .i64 0, .int .i64 0, .int .i64 0] 97)) := (Fr.refl [] w).alloc _
  have hT := heap_alloc_new w (.cells #[.int .i64 0, .int .i64 0, .int .i64 0, .int .i64 0] 97)
  obtain ⟨w1, hw1⟩ : ∃ w1, w.alloc (.cells #[.int .i64 0, .int .i64 0, .int .i64 0, .int .i64 0] 97) = w1 := ⟨_, rfl⟩
  rw [hw1] at f1 hT
  have D1 := hidI (dev_kept hd f1 (by simp) (by simp) (by simp))
  have hlt : Hid (∀ k, w.heap.size ≤ k → k ∉ [d, bs, bo]) := hidI (fun k hk hm => by
    have h1 : d < w.heap.size := (Array.getElem?_eq_some_iff.1 hd.cells).1
    have h2 : bs < w.heap.size := by
      obtain ⟨D', ⟨es, clock, hb, _⟩, _⟩ := hd.safe
      exact (Array.getElem?_eq_some_iff.1 hb).1
    have h3 : bo < w.heap.size := by
      obtain ⟨D', ⟨es, clock, hb, _⟩, _⟩ := hd.opn
      exact (Array.getElem?_eq_some_iff.1 hb).1
    simp at hm
    omega)
  clear hd hO hcnt hat hpages
  go_enter Tryz.func72, Tryz.ntmps72
  go_wp2_with (go_at_call 120; refine (Dv.blocks_dev D1.out).mono ?_; rintro e wz ⟨rfl, hz⟩; rw [hz]; clear hz)
  refine (takeTurn_fresh D1.out (by omega) (fm_mas HO.out (by omega))).mono ?_
  unfold mV m221
  rintro e w2 ⟨rfl, D2, f2⟩
  dsimp only
  have f3 : Fr [] w2 (w2.alloc (.cells #[.int .i64 2, .int .i64 2, .int .i64 1] 159)) := (Fr.refl [] w2).alloc _
  have hM := heap_alloc_new w2 (.cells #[.int .i64 2, .int .i64 2, .int .i64 1] 159)
  obtain ⟨w3, hw3⟩ : ∃ w3, w2.alloc (.cells #[.int .i64 2, .int .i64 2, .int .i64 1] 159) = w3 := ⟨_, rfl⟩
  rw [hw3] at f3 hM
  have x0 := cell_of_row _ w2.heap.size 0 _ _ _ hM
  have x1 := cell_of_row _ w2.heap.size 1 _ _ _ hM
  have x2 := cell_of_row _ w2.heap.size 2 _ _ _ hM
  have D3 : Hid (Dv.Dev w3 d bs bo (nb : Int) 0 false (fmS2 O') Dv.Tab.none) := hidI (dev_kept D2 f3 (by simp) (by simp) (by simp))
  have hT3 := f3.same (by simp) (f2.same (hlt.out _ (Nat.le_refl _)) hT)
  have F3 : Fr [d, bs, bo] w w3 := ((f1.mono (by simp)).trans f2).trans (f3.mono (by simp))
  clear D2 hM
  go_wp2_with fail
  refine (rbegin_ok nb 8 pages at' cnt D3.out h0 h1 (by omega) (by omega) HC.out.1 HC.out.2.1 HC.out.2.2 (fm2_zero HO.out (by have := HC.out; omega) (by have := HC.out; omega))).mono ?_
  rintro e w4 ⟨rb, rfl, H4⟩
  obtain ⟨p, pp, rp, mp, hq⟩ := H4.out
  have HQ := hidI hq
  clear hq x0 x1 x2 H4
  have r0 := cell_of_row _ rb 0 _ _ _ HQ.out.1
  dsimp only
  go_wp2_with fail
  refine (redo_none HQ.out.2.1.lo rfl rb r0).mono ?_
  rintro e w5 ⟨rfl, f5⟩
  have R5 := hidI (f5.same (by simp) HQ.out.1)
  have P5 := hidI (HQ.out.2.1.kept f5 (by simp))
  have r2 := cell_of_row _ rb 2 _ _ _ R5.out
  have r4 := cell_of_row _ rb 4 _ _ _ R5.out
  go_wp2_with (go_at_call 128; refine (undo_none rb r2 r4).mono ?_; rintro e wz ⟨rfl, hz⟩; rw [hz]; clear hz)
  have s0 := cell_of_row _ rb 0 _ _ _ R5.out
  have s1 := cell_of_row _ rb 1 _ _ _ R5.out
  have HNB : Hid (∀ w', Fr [] w5 w' → Calls Tryz.prog 129 #[.pointer (some ⟨d, 0, none⟩), .pointer (some ⟨p, 0, none⟩), .pointer (some ⟨pp, 0, none⟩)] w' fun e w'' => ∃ bp dp, e = .returned (.pointer (some ⟨bp, 0, none⟩)) ∧ Hid (BkAt w'' ⟨⟨loF d bs bo (nb : Int) (fmS2 O') p at' cnt 3, pp, rp, mp, 2, pages, 8, none, 0, 0, []⟩, bp, dp, dl0⟩ ∧ w5.heap.size ≤ bp ∧ w5.heap.size ≤ dp ∧ Fr [] w5 w'')) := hidI (fun w' f => by
    have e1 := HC.out
    have h9 := new_book (P5.out.kept f (by simp)) (fm2_mas HO.out (by omega)) (by show (24 : Int) ≤ (nb : Int); omega) (by show (pages : Int) = (nb : Int) - 2 - (nb : Int) / 2; omega) (fun f hf => nomatch hf) ⟨List.Pairwise.nil, fun v hv => nomatch hv⟩
    refine h9.mono ?_
    rintro e w'' ⟨bp, dp, he, P, a1, a2, f9⟩
    have hsz := f.size
    exact ⟨bp, dp, he, hidI ⟨P, by omega, by omega, f.trans f9⟩⟩)
  clear r0 r2 r4
  go_region_law ((go_simp; go_at_call 129; refine (HNB.out _ (Fr.refl [] w5).drew).mono ?_; rintro e w6 ⟨bp, dp, rfl, H6⟩))
  all_goals
    obtain ⟨b0, hb0⟩ : ∃ b0 : Bk, b0 = ⟨⟨loF d bs bo (nb : Int) (fmS2 O') p at' cnt 3, pp, rp, mp, 2, pages, 8, none, 0, 0, []⟩, bp, dp, dl0⟩ := ⟨_, rfl⟩
    have B6 : Hid (BkAt w6 b0 ∧ b0.bp = bp ∧ Fresh b0 nb 8 3 m221 ∧ (∀ k ∈ b0.dp :: b0.x.own, k ∈ [d, bs, bo] ∨ w.heap.size ≤ k)) := hidI (by
      subst hb0
      have e1 := HC.out
      obtain ⟨_, _, g1, g2, g3, g4, g5, g6⟩ := HQ.out
      have l3 := F3.size
      have l6 := g6.size
      have l5 := f5.size
      refine ⟨H6.out.1, rfl, ⟨rfl, by show (pages : Int) = _; omega, rfl, rfl, rfl, by show at' = _; omega, by show cnt = _; omega, rfl, rfl, rfl, rfl, fm2_mas HO.out (by omega), fun q hq => Or.inr ⟨by simp [ids], ?_⟩⟩, fun k hk => ?_⟩
      · have hq' : q < pages := hq
        show Dv.latest (fmS2 O') Dv.Tab.none ((2 : Int) + (q : Int)) = zs 512
        exact fm2_zero HO.out (by omega) (by omega)
      · have h7 := H6.out.2.2.1
        simp [Po.own, ownR, loF, Lo.own, Value.ownBlock] at hk
        simp
        omega)
    have R6 := hidI (H6.out.2.2.2.same (by simp) R5.out)
    have T6 := hidI (H6.out.2.2.2.same (by simp) (f5.same (by simp) (HQ.out.2.2.2.2.2.2.2.same (by simp) hT3)))
    have F6 : Fr [d, bs, bo] w w6 := (F3.trans ((HQ.out.2.2.2.2.2.2.2.trans f5).mono (by simp))).trans (H6.out.2.2.2.mono (by simp))
    clear hb0 s0 s1
    go_wp2_with fail
    have PT := hidI (point_any B6.out.1 B6.out.2.2.1.t B6.out.2.2.1.mas (by rw [B6.out.2.2.1.nb]; omega) (by decide) (by rw [B6.out.2.2.1.start]; omega) (by rw [B6.out.2.2.1.lw]; omega))
    rw [B6.out.2.1] at PT
    refine PT.out.mono ?_
    rintro e w7 ⟨rfl, b1, st, pt⟩
    have aR := B6.out.1.away R6.out (by decide) (by decide) (by decide) (by decide)
    have aT := B6.out.1.away T6.out (by decide) (by decide) (by decide) (by decide)
    have R7 := hidI (st.fr.same aR.2.1 R6.out)
    have T7 := hidI (st.fr.same aT.2.1 T6.out)
    have FIN : Hid (∀ W, Fr [w.heap.size] w7 W → ∃ b, b.bp = bp ∧ BkAt W b ∧ Fresh b nb 8 3 m321 ∧ (∀ k ∈ b.dp :: b.x.own, k ∈ [d, bs, bo] ∨ w.heap.size ≤ k) ∧ Fr [d, bs, bo] w W) := hidI (fun W fW => by
      have fr0 := B6.out.2.2.1
      have aT7 := st.at'.away T7.out (by decide) (by decide) (by decide) (by decide)
      refine ⟨b1, st.bp.trans B6.out.2.1, st.at'.kept fW (by simpa using aT7.1) (fun e => aT7.2.1 (by simp at e; simp [e])) (fun k hk e => ?_), ?_, fun k hk => ?_, ?_⟩
      · have e' : k = w.heap.size := by simpa using e
        subst e'
        rcases List.mem_cons.1 hk with e | e
        · exact aT7.2.2 e.symm
        · exact aT7.2.1 (List.mem_cons_of_mem _ e)
      · refine ⟨by rw [pt.t]; exact fr0.t, by rw [pt.al.2.1]; exact fr0.pages, by rw [pt.al.1]; exact fr0.start, by rw [pt.al.2.2.1]; exact fr0.most, by rw [pt.nb]; exact fr0.nb, by rw [pt.first]; exact fr0.first, by rw [pt.count]; exact fr0.count, by rw [pt.T]; exact fr0.T, by rw [pt.A]; exact fr0.E, by rw [pt.E]; exact fr0.E, by rw [pt.lw]; exact fr0.lw, ?_, fr0.sh.alike pt.al⟩
        have h8 := pt.mas
        rw [fr0.E] at h8
        exact h8
      · rcases List.mem_cons.1 hk with e | e
        · rw [e, st.dp]
          exact B6.out.2.2.2 _ List.mem_cons_self
        · rcases st.ow k e with h9 | h9
          · exact B6.out.2.2.2 k (List.mem_cons_of_mem _ h9)
          · exact Or.inr (Nat.le_trans F6.size h9)
      · have f9 : Fr [d, bs, bo] w w7 := F6.then st.fr (fun i hi hm => (B6.out.2.2.2 i hm).resolve_right (by omega))
        exact f9.then fW (fun i hi hm => by simp at hm; omega))
    have t0 := cell_of_row _ w.heap.size 0 _ _ _ T7.out
    have t1 := cell_of_row _ w.heap.size 1 _ _ _ T7.out
    have t2 := cell_of_row _ w.heap.size 2 _ _ _ T7.out
    have t3 := cell_of_row _ w.heap.size 3 _ _ _ T7.out
    have v0 := frozen_of_row w7 w.heap.size 0 _ _ T7.out
    have v1 := frozen_of_row w7 w.heap.size 1 _ _ T7.out
    have v2 := frozen_of_row w7 w.heap.size 2 _ _ T7.out
    have v3 := frozen_of_row w7 w.heap.size 3 _ _ T7.out
    have u0 := cell_of_row _ rb 12 _ _ _ R7.out
    have u1 := cell_of_row _ rb 13 _ _ _ R7.out
    have u2 := cell_of_row _ rb 14 _ _ _ R7.out
    have u3 := cell_of_row _ rb 15 _ _ _ R7.out
    clear st pt aR aT
    go_wp2_with fail
    go_region_law fail
    all_goals
      have f8 := ((((fr_set w7 w.heap.size 0 (.int .i64 0)).trans (fr_set _ w.heap.size 1 (.int .i64 0))).trans (fr_set _ w.heap.size 2 (.int .i64 0))).trans (fr_set _ w.heap.size 3 (.int .i64 0))).drew
      have g8 := heap_setCell_same _ w.heap.size 3 _ _ (.int .i64 0) (heap_setCell_same _ w.heap.size 2 _ _ (.int .i64 0) (heap_setCell_same _ w.heap.size 1 _ _ (.int .i64 0) (heap_setCell_same w7 w.heap.size 0 _ _ (.int .i64 0) T7.out)))
      go_wp2_with fail
      exact bodyPost_ret (resT3 Tryz.results72 _ _ w.heap.size #[.int .i64 0, .int .i64 0, .int .i64 0, .int .i64 0] rfl rfl g8) rfl ⟨bp, rfl, hidI (FIN.out _ f8)⟩
end Go.Proofs.YthajipigppndgaaGreat

namespace Go.Proofs.YthajipigppndgaaGreat
open Go.RowKit Go.Maps
open Pg (SpE diffS)
structure DdV where
  kind : Int
  page : Int
  off : Int
  many : Int
  ad : Option Addr
  c : Nat
  l : List UInt8
  odd : Bool
structure DdOk (w : World) (d : DdV) : Prop where
  kind : (Lit.int .i64 d.kind).wf = true
  page : (Lit.int .i64 d.page).wf = true
  off : (Lit.int .i64 d.off).wf = true
  many : (Lit.int .i64 d.many).wf = true
  b : BytesAt w d.ad d.l
  n : d.ad = none → d.l.length = 0 ∧ d.c = 0
  s : d.l.length ≤ maxLen
  k : d.l.length ≤ d.c
theorem DdOk.kept {w w' : World} {d : DdV} (h : DdOk w d) (f : Fr [] w w') : DdOk w' d := { h with b := h.b.kept f (by simp) }
theorem pick_in (w : World) (x n : Int) (hx : (Lit.int .i64 x).wf = true) (h1 : 1 ≤ n) (h2 : n ≤ 1000000) : ∃ k : Nat, x % n = (k : Int) ∧ (k : Int) < n ∧ Calls Tryz.prog 26 #[.int .i64 x, .int .i64 n] w fun e w' => e = .returned (.int .i64 (k : Int)) ∧ w' = w := by
  have h := Pg.pick_any w x n hx h1 h2
  have a1 : 0 ≤ x % n := Int.emod_nonneg _ (by omega)
  have a2 : x % n < n := Int.emod_lt_of_pos _ (by omega)
  refine ⟨(x % n).toNat, by omega, by omega, ?_⟩
  rw [show (((x % n).toNat : Nat) : Int) = x % n by omega]
  exact h
end Go.Proofs.YthajipigppndgaaGreat

namespace Go.Proofs.YthajipigppndgaaGreat
open Go.RowKit Go.Maps
set_option maxHeartbeats 2000000 in
set_option maxRecDepth 100000 in
theorem book_ok (w : World) (bl sp : Int) (hbl : (Lit.int .i64 bl).wf = true) (hs0 : 0 ≤ sp) (hs1 : sp ≤ 3000) : ∃ nb : Nat, 24 ≤ nb ∧ (nb : Int) ≤ 24 + sp ∧ (nb : Int) = 24 + bl % (sp + 1) ∧ Calls Tryz.prog 24 #[.int .i64 bl, .int .i64 sp] w fun e w' => ∃ bp, e = .returned (.pointer (some ⟨bp, 0, none⟩)) ∧ Hid (∃ b, Ab w w' bp b [] ∧ Fresh b nb 8 3 m321) := by
  obtain ⟨k, hk0, hk, HP⟩ := pick_in w bl (sp + 1) hbl (by omega) (by omega)
  obtain ⟨nb, hnb⟩ : ∃ nb : Nat, 24 + (k : Int) = (nb : Int) := ⟨24 + k, by omega⟩
  refine ⟨nb, by omega, by omega, by rw [hk0]; omega, ?_⟩
  clear hk0
  have HP' := hidI HP
  have e0 : IntKind.i64.wrap (sp + 1) = sp + 1 := wrapI _ (by omega) (by omega)
  have e1 : IntKind.i64.wrap (24 + (k : Int)) = (nb : Int) := by rw [wrapI _ (by omega) (by omega)]; exact hnb
  have n0 : 24 ≤ nb := by omega
  have n1 : nb ≤ 65536 := by omega
  clear HP hnb hbl
  go_enter Tryz.func24, Tryz.ntmps24
  go_wp2_with (go_at_call 26; refine HP'.out.mono ?_; rintro e wz ⟨rfl, hz⟩; rw [hz]; clear hz)
  refine (Dv.new_dev (nb : Int) w (by omega) (by omega)).mono ?_
  rintro e w1 ⟨rfl, D1, f1⟩
  have f1' : Fr [] w w1 := fr_dv f1
  have D1' := hidI D1
  clear D1 f1
  go_wp2_with fail
  refine (format_any w1 _ _ _ (nb : Int) _ _ D1'.out (by omega) (by omega)).mono ?_
  rintro e w2 ⟨rfl, ⟨O', hO, D2⟩, f2⟩
  have HO := hidI hO
  have D2' : Hid (Dv.Dev w2 (w.heap.size + 2) w.heap.size (w.heap.size + 1) (nb : Int) 0 false (fmS O') Dv.Tab.none) := hidI D2
  clear hO D2
  go_wp2_with fail
  refine (ropen_fresh nb D2'.out HO.out n0 (by omega)).mono ?_
  rintro e w3 ⟨bp, rfl, H3⟩
  have f4 : Fr [] w3 (w3.alloc (.cells #[.int .i64 0, .int .i64 0, .int .i64 0, .int .i64 0] 97)) := (Fr.refl [] w3).alloc _
  dsimp only
  go_wp2_with fail
  go_ret
  refine ⟨bp, rfl, hidI ?_⟩
  obtain ⟨b, hb, B, fr, nw, f3⟩ := H3.out
  have F2 : Fr [] w w2 := f1'.then f2 (fun i hi hm => by simp at hm; omega)
  have F3 : Fr [] w w3 := F2.then f3 (fun i hi hm => by simp at hm; omega)
  refine ⟨b, ⟨B.quiet f4, F3.trans f4, fun k hk => ?_, hb, fun p hp => nomatch hp⟩, fr⟩
  have l2 := F2.size
  rcases nw k hk with h | h
  · simp at h
    omega
  · omega
end Go.Proofs.YthajipigppndgaaGreat

namespace Go.Proofs.YthajipigppndgaaGreat
open Go.RowKit Go.Maps
end Go.Proofs.YthajipigppndgaaGreat

namespace Go.Proofs.YthajipigppndgaaGreat
open Go.RowKit Go.Maps
def ownN (n : Nat) : Nat := 1 + (n + 4095) / 4096
theorem sown_any (w : World) (n : Nat) (hn : n ≤ 1000000) : Calls Tryz.prog 93 #[.int .i64 (n : Int)] w fun e w' => e = .returned (.int .i64 (ownN n : Int)) ∧ w' = w := by
  have d0 : Int.tdiv ((n : Int) + 4096 - 1) 4096 = (((n + 4095) / 4096 : Nat) : Int) := by
    rw [Int.tdiv_eq_ediv_of_nonneg (by omega)]; omega
  have d1 : (n + 4095) / 4096 ≤ 1000000 := by omega
  obtain ⟨q, HQ⟩ : ∃ q, Hid ((n + 4095) / 4096 = q) := ⟨_, hidI rfl⟩
  rw [HQ.out] at d0 d1
  go_enter Tryz.func93, Tryz.ntmps93
  go_wp2
  go_ret
  refine ⟨ret_int ?_, rfl⟩
  have := HQ.out
  unfold ownN
  omega
theorem sfits_any (w : World) (n : Nat) (hn : n ≤ 1000000) (h : 3 ≤ n) : Calls Tryz.prog 74 #[.int .i64 (n : Int)] w fun e w' => e = .returned (.bool true) ∧ w' = w := by
  have h1 : ((ownN n : Nat) : Int) < n := by unfold ownN; omega
  go_enter Tryz.func74, Tryz.ntmps74
  go_wp2_with (go_at_call 93; refine (sown_any _ _ hn).mono ?_; rintro e wz ⟨rfl, hz⟩; rw [hz]; clear hz)
  go_ret
  exact ⟨rfl, rfl⟩
theorem srootAt_any (w : World) (k : Nat) (hk : k < 8) : Calls Tryz.prog 179 #[.int .i64 (k : Int)] w fun e w' => e = .returned (.int .i64 ((8 + 4 * k : Nat) : Int)) ∧ w' = w := by
  go_enter Tryz.func179, Tryz.ntmps179
  go_wp2
  go_ret
  exact ⟨ret_int (by omega), rfl⟩
theorem splace_any (w : World) (k : Nat) (hk : k ≤ 1000000) : Calls Tryz.prog 108 #[.int .i64 (k : Int)] w fun e w' => e = .returned (.tuple #[.int .i64 ((1 + k / 4096 : Nat) : Int), .int .i64 ((k % 4096 / 8 : Nat) : Int), .int .u8 ((2 ^ (k % 8) : Nat) : Int)]) ∧ Fr [] w w' := by
  have d0 : Int.tdiv (k : Int) 4096 = ((k / 4096 : Nat) : Int) := by
    rw [Int.tdiv_eq_ediv_of_nonneg (by omega)]; omega
  have d1 : Int.tmod (k : Int) 4096 = ((k % 4096 : Nat) : Int) := by
    rw [Int.tmod_eq_emod_of_nonneg (by omega)]; omega
  have d2 : Int.tdiv ((k % 4096 : Nat) : Int) 8 = ((k % 4096 / 8 : Nat) : Int) := by
    rw [Int.tdiv_eq_ediv_of_nonneg (by omega)]; omega
  have d3 : Int.tmod (k : Int) 8 = ((k % 8 : Nat) : Int) := by
    rw [Int.tmod_eq_emod_of_nonneg (by omega)]; omega
  obtain ⟨q0, H0⟩ : ∃ q, Hid (k / 4096 = q) := ⟨_, hidI rfl⟩
  obtain ⟨q1, H1⟩ : ∃ q, Hid (k % 4096 = q) := ⟨_, hidI rfl⟩
  obtain ⟨q2, H2⟩ : ∃ q, Hid (q1 / 8 = q) := ⟨_, hidI rfl⟩
  obtain ⟨q3, H3⟩ : ∃ q, Hid (k % 8 = q) := ⟨_, hidI rfl⟩
  have b0 : q0 ≤ 1000000 := by have := H0.out; omega
  have b1 : q1 ≤ 1000000 := by have := H1.out; omega
  have b2 : q2 ≤ 1000000 := by have := H2.out; omega
  have b3 : q3 < 8 := by have := H3.out; omega
  rw [H0.out] at d0
  rw [H1.out] at d1 d2
  rw [H2.out] at d2
  rw [H3.out] at d3
  rw [H0.out, H1.out, H2.out, H3.out]
  go_enter Tryz.func108, Tryz.ntmps108
  go_wp2_with fail
  go_quiet (fail)
  go_wp2_with fail
  go_ret3
  refine ⟨?_, (Fr.refl [] w).drewN nq⟩
  have e1 : ((1 + q0 : Nat) : Int) = 1 + (q0 : Int) := by omega
  have e2 : ((2 ^ q3 : Nat) : Int) = 2 ^ q3 % 256 := by
    have : q3 = 0 ∨ q3 = 1 ∨ q3 = 2 ∨ q3 = 3 ∨ q3 = 4 ∨ q3 = 5 ∨ q3 = 6 ∨ q3 = 7 := by omega
    rcases this with h | h | h | h | h | h | h | h <;> subst h <;> rfl
  rw [e1, e2]
  rfl
end Go.Proofs.YthajipigppndgaaGreat

namespace Go.Proofs.YthajipigppndgaaGreat
open Go.RowKit Go.Maps
def numAt (l : List UInt8) (a : Nat) : Nat := ofBe ((l.drop a).take 4)
theorem i64_or_nat (a b : Nat) (ha : a < 9223372036854775808) (hb : b < 9223372036854775808) : bits .or .i64 (a : Int) (b : Int) = ((a ||| b : Nat) : Int) := by
  have hx : a ||| b < 2 ^ 63 := Nat.or_lt_two_pow (by omega) (by omega)
  show IntKind.i64.wrap ((BitVec.ofInt 64 (a : Int) ||| BitVec.ofInt 64 (b : Int)).toNat : Int) = _
  rw [BitVec.toNat_or, ofInt_u64 a (by omega), ofInt_u64 b (by omega)]
  exact wrapI _ (by omega) (by omega)
theorem i64_or_low (A x : Nat) (hA : A < 16777216) (hx : x < 256) : bits .or .i64 ((A : Int) * 256) (x : Int) = ((256 * A + x : Nat) : Int) := by
  have e : ((A : Int) * 256) = ((A * 256 : Nat) : Int) := by omega
  rw [e, i64_or_nat _ _ (by omega) (by omega), nat_join 8 _ _ (by omega) (by omega), Nat.mul_comm]
theorem num_step (l : List UInt8) (a j : Nat) (hj : j < 4) (h : a + 4 ≤ l.length) : ofBe ((l.drop a).take (j + 1)) = 256 * ofBe ((l.drop a).take j) + (byteAt l (a + j)).toNat := by
  have g1 : j < (l.drop a).length := by simp; omega
  rw [List.take_succ_eq_append_getElem g1, ofBe_snoc, List.getElem_drop, byteAt_lt (by omega)]
set_option maxHeartbeats 1000000 in
set_option maxRecDepth 100000 in
theorem snumber_any (w : World) (g c : Nat) (l : List UInt8) (hl : l.length = 512) (hb : Blk w g l) (hc : 512 ≤ c) (hc2 : c < 4294967296) (a : Nat) (ha : a ≤ 508) :
    Calls Tryz.prog 178 #[.slice (some ⟨g, 0, none⟩) 512 c, .int .i64 (a : Int)] w fun e w' => e = .returned (.int .i64 (numAt l a : Int)) ∧ w' = w := by
  have HL : Hid (l.length = 512) := hidI hl
  clear hl
  go_enter Tryz.func178, Tryz.ntmps178
  go_wp2
  go_loopw [5, 14] (fun v i wr => ∃ j : Nat, j ≤ 4 ∧ i = .int .i64 j ∧ v = .int .i64 (ofBe ((l.drop a).take j)) ∧ wr = w) (fun _ i _ => 4 - (intOf i).toNat)
  case atStart => exact ⟨0, by omega, rfl, rfl, rfl⟩
  case round =>
    obtain ⟨j, hj, rfl, rfl, rfl⟩ := hrel
    have hA : Hid (ofBe ((l.drop a).take j) < 256 ^ j) := hidI (by
      have h1 := ofBe_lt ((l.drop a).take j)
      rw [List.length_take, List.length_drop, HL.out, Nat.min_eq_left (by omega)] at h1
      exact h1)
    by_cases hlt : j < 4
    · have hlt' : (j : Int) < 4 := by omega
      have hj0 : (0 : Int) ≤ (j : Int) := by omega
      have q1 := hb.cell (a + j) (by rw [HL.out]; omega)
      have hjn : (j : Int) < ((a + 4 - a : Nat) : Int) := by omega
      obtain ⟨x, HX⟩ : ∃ x : Nat, Hid ((byteAt l (a + j)).toNat = x) := ⟨_, hidI rfl⟩
      have hx : x < 256 := by rw [← HX.out]; exact (byteAt l (a + j)).toNat_lt
      rw [HX.out] at q1
      obtain ⟨A, HA⟩ : ∃ A : Nat, Hid (ofBe ((l.drop a).take j) = A) := ⟨_, hidI rfl⟩
      have hA2 : A < 16777216 := by
        rw [← HA.out]
        exact Nat.lt_of_lt_of_le hA.out (by
          have : 256 ^ j ≤ 256 ^ 3 := Nat.pow_le_pow_right (by omega) (by omega)
          omega)
      rw [HA.out]
      go_wp2
      refine ⟨⟨j + 1, by omega, by go_num, ?_, trivial⟩, by simp [intOf]; omega⟩
      rw [num_step l a j hlt (by rw [HL.out]; omega), HA.out, HX.out, i64_or_low A x hA2 hx]
    · obtain rfl : j = 4 := by omega
      obtain ⟨A, HA⟩ : ∃ A : Int, Hid ((ofBe ((l.drop a).take 4) : Int) = A) := ⟨_, hidI rfl⟩
      rw [HA.out]
      go_wp2
      go_ret
      exact ⟨ret_int HA.out.symm, rfl⟩
def putAt (l : List UInt8) (a n : Nat) : List UInt8 := l.take a ++ be 4 n ++ l.drop (a + 4)
theorem putAt_length (l : List UInt8) (a n : Nat) (h : a + 4 ≤ l.length) : (putAt l a n).length = l.length := by
  simp [putAt, be_length]; omega
def putK (l : List UInt8) (a n j : Nat) : List UInt8 := l.take a ++ (be 4 n).take j ++ l.drop (a + j)
theorem putK_zero (l : List UInt8) (a n : Nat) : putK l a n 0 = l := by simp [putK]
theorem putK_four (l : List UInt8) (a n : Nat) : putK l a n 4 = putAt l a n := by
  unfold putK putAt
  have e := List.take_of_length_le (show (be 4 n).length ≤ 4 by rw [be_length]; omega)
  rw [e]
theorem putK_length (l : List UInt8) (a n j : Nat) (hj : j ≤ 4) (h : a + 4 ≤ l.length) : (putK l a n j).length = l.length := by
  simp [putK, be_length]; omega
theorem putK_step (l : List UInt8) (a n j : Nat) (hj : j < 4) (h : a + 4 ≤ l.length) : (putK l a n j).set (a + j) (UInt8.ofNat (n / 256 ^ (3 - j))) = putK l a n (j + 1) := by
  have hq : (l.take a ++ (be 4 n).take j).length = a + j := by simp [be_length]; omega
  unfold putK
  rw [List.set_append_right _ _ (by omega), hq, Nat.sub_self, List.drop_eq_getElem_cons (show a + j < l.length by omega), List.set_cons_zero]
  have h4 := be_length 4 n
  have e : (be 4 n).take (j + 1) = (be 4 n).take j ++ [UInt8.ofNat (n / 256 ^ (3 - j))] := by
    rw [List.take_succ_eq_append_getElem (by omega)]
    congr 2
    have := be_at 4 n j hj
    rw [List.getElem?_eq_getElem (by omega)] at this
    exact Option.some.inj this
  rw [e]
  simp [Nat.add_assoc]
set_option maxHeartbeats 1000000 in
set_option maxRecDepth 100000 in
theorem sputNumber_any (w : World) (g c : Nat) (l : List UInt8) (hl : l.length = 512) (hb : Blk w g l) (a : Nat) (ha : a ≤ 508) (n : Nat) (_hn : n < 4294967296) :
    Calls Tryz.prog 131 #[.slice (some ⟨g, 0, none⟩) 512 c, .int .i64 (a : Int), .int .i64 (n : Int)] w fun e w' => e = .returned (.tuple #[]) ∧ Blk w' g (putAt l a n) ∧ Fr [g] w w' := by
  have HL : Hid (l.length = 512) := hidI hl
  clear hl
  go_enter Tryz.func131, Tryz.ntmps131
  go_wp2
  go_loopw [7] (fun i wr => ∃ j : Nat, j ≤ 4 ∧ i = .int .i64 j ∧ Blk wr g (putK l a n j) ∧ Fr [g] w wr) (fun i _ => 4 - (intOf i).toNat)
  case atStart => exact ⟨0, by omega, rfl, by rw [putK_zero]; exact hb, Fr.refl _ _⟩
  case round =>
    obtain ⟨j, hj, rfl, B, f⟩ := hrel
    by_cases hlt : j < 4
    · have hlt' : (j : Int) < 4 := by omega
      have hj0 : (0 : Int) ≤ (j : Int) := by omega
      have q1 := B.cell (a + j) (by rw [putK_length _ _ _ _ (by omega) (by rw [HL.out]; omega), HL.out]; omega)
      have q2 := B.frozen (a + j)
      have HB : Hid ((n : Int) / 2 ^ (8 * (3 - j)) % 256 = ((UInt8.ofNat (n / 256 ^ (3 - j))).toNat : Int)) := hidI (by
        rw [UInt8.toNat_ofNat', show (256 : Nat) ^ (3 - j) = 2 ^ (8 * (3 - j)) by rw [Nat.pow_mul]]
        simp)
      go_wp2
      refine ⟨⟨j + 1, by omega, by go_num, ?_, f.setCell _ _ (fun _ => by simp)⟩, by simp [intOf]; omega⟩
      rw [HB.out, ← putK_step l a n j hlt (by rw [HL.out]; omega)]
      exact B.set _ _
    · obtain rfl : j = 4 := by omega
      rw [putK_four] at B
      go_wp2
      go_end0
      exact ⟨rfl, B, f⟩
end Go.Proofs.YthajipigppndgaaGreat

namespace Go.Proofs.YthajipigppndgaaGreat
open Go.RowKit Go.Maps
section
variable {ops : Array Oper} {rest : List Oper} {o : Oper} {a : Act} {w : World} {Q : Exit → Act → World → Prop}
set_option maxRecDepth 100000 in
theorem wp_copyPS (hgd : o.guard = none) (x y : Operand) (ho : o.op = .call { callee := .builtin .copy, args := #[x, y], argTypes := #[26, 9] }) (g : Nat) (hx : a.eval x = .slice (some ⟨g, 0, none⟩) 512 512) (hy : a.eval y = .string { data := #[80, 83, 48, 49] }) (hf : Blk w g (zs 512))
    (h : ∀ w', Blk w' g ([80, 83, 48, 49] ++ zs 508) → Fr [g] w w' → wpList Tryz.prog ops Q rest (a.put o.dst (goInt 4)) w') : wpList Tryz.prog ops Q (o :: rest) a w :=
  wpList_plain hgd fun K hK => by
    have hrun := Go.Lib.run_copy_row_string (P := Tryz.prog) w 26 9 o.type 5 g 0 512 512 { data := #[80, 83, 48, 49] } (arr (zs 512)) 5 Tryz.underlying26 size5 hf (by decide) (by simp [arr, zs_length]; decide)
    have e1 : ((arr (zs 512)).toList.take 0 ++ Go.Lib.byteCells (ByteArray.mk #[80, 83, 48, 49]).data.toList ++ (arr (zs 512)).toList.drop (0 + (ByteArray.mk #[80, 83, 48, 49]).size)).toArray = arr ([80, 83, 48, 49] ++ zs 508) := by kernel_rfl
    have e2 : (ByteArray.mk #[80, 83, 48, 49]).size = 4 := rfl
    rw [e1, e2] at hrun
    have hF : Blk (w.setRow g (arr ([80, 83, 48, 49] ++ zs 508))) g ([80, 83, 48, 49] ++ zs 508) := setRow_heap w g _ _ _ _ hf
    have hR : Fr [g] w (w.setRow g (arr ([80, 83, 48, 49] ++ zs 508))) := ⟨rfl, rfl, rfl, by simp, fun i _ hn => setRow_other w g i _ (fun e => hn (by simp [e]))⟩
    generalize w.setRow g (arr ([80, 83, 48, 49] ++ zs 508)) = W at hrun hF hR
    unfold Oper.wp execOp
    simp [ho, resolve, invoke, builtin, hx, hy, hrun, Result.andThen]
    exact hK _ _ (h _ hF hR)
end
def hd0 (n : Nat) : List UInt8 := putAt ([80, 83, 48, 49] ++ zs 508) 4 n
theorem hd0_length (n : Nat) : (hd0 n).length = 512 := by
  unfold hd0
  rw [putAt_length _ _ _ (by simp [zs_length])]
  simp [zs_length]
set_option maxHeartbeats 1000000 in
set_option maxRecDepth 100000 in
theorem snewHead_any (w : World) (n : Nat) (hn : n < 4294967296) : Calls Tryz.prog 76 #[.int .i64 (n : Int)] w fun e w' => ∃ g, e = .returned (.slice (some ⟨g, 0, none⟩) 512 512) ∧ Blk w' g (hd0 n) ∧ w.heap.size ≤ g ∧ Fr [] w w' := by
  go_enter Tryz.func76, Tryz.ntmps76
  go_wp2_with (first | (refine wp_make55 rfl _ _ rfl rfl (by rfl) ?_; intro w1 g g0 b1 f1) | (refine wp_copyPS rfl _ _ rfl g rfl rfl b1 ?_; intro w2 b2 f2) | (go_at_call 131; refine (sputNumber_any w2 g 512 _ (by simp [zs_length]) b2 4 (by omega) n hn).mono ?_; rintro e w3 ⟨rfl, b3, f3⟩))
  go_ret
  refine ⟨g, rfl, b3, g0, ?_⟩
  exact (f1.then f2 (fun i hi hm => by simp at hm; omega)).then f3 (fun i hi hm => by simp at hm; omega)
theorem bytesEq_not (w : World) (a1 a2 : Option Addr) (n c1 c2 : Nat) (l l2 : List UInt8) (h1 : l.length = n) (h2 : l2.length = n) (hn : 0 < n) (hb1 : BytesAt w a1 l) (hb2 : BytesAt w a2 l2) (hne : l ≠ l2) : Calls Tryz.prog 180 #[.slice a1 n c1, .slice a2 n c2] w fun e w' => e = .returned (.bool false) ∧ w' = w := by
  have r1 := run_conv (w := w) l a1 n c1 h1 hb1 (fun e => absurd e (by omega))
  have r2 := run_conv (w := w) l2 a2 n c2 h2 hb2 (fun e => absurd e (by omega))
  have e3 : ((mkS l).toList == (mkS l2).toList) = false := by
    rw [beq_eq_false_iff_ne]
    simpa [mkS] using hne
  go_enter Tryz.func180, Tryz.ntmps180
  go_wp2
  go_ret
  exact ⟨rfl, rfl⟩
def hdK (n : Nat) (l : List UInt8) : Nat → List UInt8
  | 0 => hd0 n
  | k + 1 => putAt (hdK n l k) (8 + 4 * k) (numAt l (8 + 4 * k))
theorem hdK_length (n : Nat) (l : List UInt8) (k : Nat) (hk : k ≤ 8) : (hdK n l k).length = 512 := by
  induction k with
  | zero => exact hd0_length n
  | succ k ih =>
    have h := ih (by omega)
    unfold hdK
    rw [putAt_length _ _ _ (by omega), h]
def IsHd (n : Nat) (l : List UInt8) : Prop := (∀ k, k < 8 → numAt l (8 + 4 * k) < n) ∧ l = hdK n l 8
set_option maxHeartbeats 1000000 in
set_option maxRecDepth 100000 in
theorem sisHead_any (w : World) (g c n : Nat) (l : List UInt8) (hl : l.length = 512) (hb : Blk w g l) (hc : 512 ≤ c) (hc2 : c < 4294967296) (hn : n ≤ 1000000) :
    Calls Tryz.prog 107 #[.slice (some ⟨g, 0, none⟩) 512 c, .int .i64 (n : Int)] w fun e w' => ∃ b : Bool, e = .returned (.bool b) ∧ (b = true ↔ IsHd n l) ∧ Fr [] w w' := by
  have HL : Hid (l.length = 512) := hidI hl
  have glt := hb.lt
  clear hl
  go_enter Tryz.func107, Tryz.ntmps107
  go_wp2_with (go_at_call 76; refine (snewHead_any w n (by omega)).mono ?_; rintro e w1 ⟨g1, rfl, b1, n1, f1⟩)
  go_loopw [10] (fun i wr => ∃ k : Nat, k ≤ 8 ∧ i = .int .i64 k ∧ Blk wr g1 (hdK n l k) ∧ Fr [] w wr ∧ (∀ j, j < k → numAt l (8 + 4 * j) < n)) (fun i _ => 8 - (intOf i).toNat)
  case atStart => exact ⟨0, by omega, rfl, b1, f1, fun j hj => absurd hj (by omega)⟩
  case round =>
    obtain ⟨k, hk, rfl, B, f, A⟩ := hrel
    have B0 := hb.kept f (by simp)
    have A' := hidI A
    clear A
    by_cases hlt : k < 8
    · have hlt' : (k : Int) < 8 := by omega
      have NX := snumber_any wr g c l HL.out B0 hc hc2 (8 + 4 * k) (by omega)
      obtain ⟨x, HX⟩ : ∃ x : Nat, Hid (numAt l (8 + 4 * k) = x) := ⟨_, hidI rfl⟩
      rw [HX.out] at NX
      by_cases hx : x < n
      · have hx' : (x : Int) < n := by omega
        have PX := sputNumber_any wr g1 512 (hdK n l k) (hdK_length n l k hk) B (8 + 4 * k) (by omega) x (by omega)
        go_wp2_with (first | (go_at_call 179; refine (srootAt_any wr k hlt).mono ?_; rintro e wz ⟨rfl, hz⟩; rw [hz]; clear hz) | (go_at_call 178; refine NX.mono ?_; rintro e wz ⟨rfl, hz⟩; rw [hz]; clear hz) | (go_at_call 131; refine PX.mono ?_; rintro e w3 ⟨rfl, b3, f3⟩))
        refine ⟨⟨k + 1, by omega, by go_num, ?_, f.then f3 (fun i hi hm => by simp at hm; omega), ?_⟩, by simp [intOf]; omega⟩
        · unfold hdK
          rw [HX.out]
          exact b3
        · intro j hj
          by_cases h : j < k
          · exact A'.out j h
          · obtain rfl : j = k := by omega
            rw [HX.out]; exact hx
      · have hx' : (n : Int) ≤ x := by omega
        go_wp2_with (first | (go_at_call 179; refine (srootAt_any wr k hlt).mono ?_; rintro e wz ⟨rfl, hz⟩; rw [hz]; clear hz) | (go_at_call 178; refine NX.mono ?_; rintro e wz ⟨rfl, hz⟩; rw [hz]; clear hz))
        go_ret
        refine ⟨false, rfl, ⟨fun h => (Bool.false_ne_true h).elim, fun h => ?_⟩, f⟩
        have := h.1 k hlt
        rw [HX.out] at this
        omega
    · obtain rfl : k = 8 := by omega
      by_cases he : l = hdK n l 8
      · have EX := bytesEq_same wr (some ⟨g, 0, none⟩) (some ⟨g1, 0, none⟩) 512 c 512 l HL.out (by omega) B0.bytes (by have := B.bytes; rw [← he] at this; exact this)
        have he' := hidI he
        clear he
        go_wp2_with (go_at_call 180; refine EX.mono ?_; rintro e wz ⟨rfl, hz⟩; rw [hz]; clear hz)
        go_ret
        exact ⟨true, rfl, ⟨fun _ => ⟨A'.out, he'.out⟩, fun _ => rfl⟩, f⟩
      · have EX := bytesEq_not wr (some ⟨g, 0, none⟩) (some ⟨g1, 0, none⟩) 512 c 512 l _ HL.out (hdK_length n l 8 (by omega)) (by omega) B0.bytes B.bytes he
        have he' := hidI he
        clear he
        go_wp2_with (go_at_call 180; refine EX.mono ?_; rintro e wz ⟨rfl, hz⟩; rw [hz]; clear hz)
        go_ret
        exact ⟨false, rfl, ⟨fun h => (Bool.false_ne_true h).elim, fun h => (he'.out h.2).elim⟩, f⟩
end Go.Proofs.YthajipigppndgaaGreat

namespace Go.Proofs.YthajipigppndgaaGreat
open Go.RowKit Go.Maps
section
variable {w0 w : World} {bp : Nat} {b : Bk} {K : List (Nat × Obj)} (h : Ab w0 w bp b K)
include h
theorem ab_pages : Calls Tryz.prog 16 #[.pointer (some ⟨bp, 0, none⟩)] w fun e w' => e = .returned (.int .i64 (b.x.pages : Int)) ∧ w' = w := by
  have h1 := bpages_any h.bk
  rw [h.ebp] at h1
  exact h1
theorem ab_in : Calls Tryz.prog 81 #[.pointer (some ⟨bp, 0, none⟩)] w fun e w' => e = .returned (.bool (b.t.st != 0)) ∧ w' = w := by
  have h1 := bkin_any h.bk.box h.bk.dl
  rw [h.ebp] at h1
  exact h1
theorem smade_any (hp : 0 < b.x.pages) : Calls Tryz.prog 130 #[.pointer (some ⟨bp, 0, none⟩)] w fun e w' => e = .returned (.bool true) ∧ w' = w := by
  have hp' : (0 : Int) < (b.x.pages : Int) := by omega
  have H := hidI h
  clear h
  go_enter Tryz.func130, Tryz.ntmps130
  go_wp2_with (go_at_call 16; refine (ab_pages H.out).mono ?_; rintro e wz ⟨rfl, hz⟩; rw [hz]; clear hz)
  go_ret
  exact ⟨rfl, rfl⟩
theorem swithin_in (hp : 0 < b.x.pages) (hs : b.t.st = 1) : Calls Tryz.prog 73 #[.pointer (some ⟨bp, 0, none⟩)] w fun e w' => e = .returned (.int .i64 0) ∧ w' = w := by
  have HI := ab_in h
  rw [hs] at HI
  have e1 : ((1 : Int) != 0) = true := rfl
  rw [e1] at HI
  have H := hidI h
  clear h hs
  go_enter Tryz.func73, Tryz.ntmps73
  go_wp2_with (first | (go_at_call 130; refine (smade_any H.out hp).mono ?_; rintro e wz ⟨rfl, hz⟩; rw [hz]; clear hz) | (go_at_call 81; refine HI.mono ?_; rintro e wz ⟨rfl, hz⟩; rw [hz]; clear hz))
  go_ret
  exact ⟨rfl, rfl⟩
set_option maxHeartbeats 1000000 in
set_option maxRecDepth 100000 in
theorem shead_yes {V : Pages} (hv : Shows b.x V) (hp : 0 < b.x.pages) (hp2 : b.x.pages ≤ 1000000) (hl : (V 0).length = 512) (hd : IsHd b.x.pages (V 0)) :
    Calls Tryz.prog 55 #[.pointer (some ⟨bp, 0, none⟩)] w fun e w' => ∃ g b', e = .returned (.tuple #[.slice (some ⟨g, 0, none⟩) 512 512, .int .i64 0]) ∧ Hid (Ab w0 w' bp b' K ∧ Blk w' g (V 0) ∧ ∃ w1, PgTo w w1 b (V 0) g b' ∧ Fr [] w1 w') := by
  have PX := ab_page h hv hp
  clear h
  go_enter Tryz.func55, Tryz.ntmps55
  go_wp2_with (first | (go_at_call 106; refine PX.mono ?_; rintro e w1 ⟨g, b', rfl, P⟩; have HQ := ab_pages P.out.1; have ep : b'.x.pages = b.x.pages := P.out.2.tr.pages; rw [ep] at HQ) | (go_at_call 16; refine HQ.mono ?_; rintro e wz ⟨rfl, hz⟩; rw [hz]; clear hz) | (go_at_call 107; refine (sisHead_any w1 g 512 b.x.pages (V 0) hl P.out.2.blk (by omega) (by omega) hp2).mono ?_; rintro e w2 ⟨bo, rfl, hbo, f2⟩; obtain rfl : bo = true := hbo.2 hd))
  go_ret2
  exact ⟨g, b', rfl, hidI ⟨P.out.1.quiet f2, P.out.2.blk.kept f2 (by simp), w1, P.out.2, f2⟩⟩
end
end Go.Proofs.YthajipigppndgaaGreat

