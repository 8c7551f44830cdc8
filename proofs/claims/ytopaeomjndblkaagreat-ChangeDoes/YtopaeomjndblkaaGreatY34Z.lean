/-
  A page's spans, logged and done, one behind the other: what holds between.
-/
import Derived.Test.YtopaeomjndblkaaGreatY29Z
import Derived.Test.YtopaeomjndblkaaGreatY33Z
namespace Go.Proofs.YtopaeomjndblkaaGreat
open Go.RowKit Go.Maps

def chRec (pg off : Nat) (old new : List UInt8) : Rec := ⟨0, 0, 1, 0, 0, 0, (pg : Int), (off : Int), old, new⟩
/-- What lets a book append: its numbers are places. -/
structure TxOk (b : Bk) : Prop where
  num : placeB b.t.num = true
  last : placeB b.t.last = true
  t0 : 1 ≤ b.x.y.T
  t1 : b.x.y.T ≤ 2147483647
theorem chRec_right {b : Bk} (h : TxOk b) (hE : b.x.y.E ≤ 400000) {pg off n : Nat} {old new : List UInt8} (h1 : old.length = n) (h2 : new.length = n) (h0 : 0 < n) (hf : off + n ≤ 512) (hp : pg < 65536) : rightB { txRec b.t (chRec pg off old new) with lsn := (b.x.y.E : Int) + 1, turn := (b.x.y.T : Int) } = true := by
  have a1 := h.num
  have a2 := h.last
  have a3 := h.t0
  have a4 := h.t1
  have e1 : headB { txRec b.t (chRec pg off old new) with lsn := (b.x.y.E : Int) + 1, turn := (b.x.y.T : Int) } = true := by
    simp only [headB, txRec, chRec, a1, a2, Bool.and_true, Bool.and_eq_true, decide_eq_true_eq]
    omega
  have e2 : kindB { txRec b.t (chRec pg off old new) with lsn := (b.x.y.E : Int) + 1, turn := (b.x.y.T : Int) } = true := by
    show (decide ((0 : Int) = 0) && (fitsB (pg : Int) (off : Int) new.length && decide (old.length = new.length))) = true
    have g1 : (0 : Int) ≤ (pg : Int) := by omega
    have g2 : (pg : Int) < 65536 := by omega
    have g3 : (0 : Int) ≤ (off : Int) := by omega
    have g4 : (off : Int) ≤ 512 - (n : Int) := by omega
    rw [h1, h2]
    unfold fitsB
    rw [decide_eq_true g1, decide_eq_true g2, decide_eq_true g3, decide_eq_true h0, decide_eq_true g4, decide_eq_true (rfl : n = n)]
    rfl
  unfold rightB
  rw [e1, e2]
  rfl
theorem chRec_size {b : Bk} {pg off n : Nat} {old new : List UInt8} (h1 : old.length = n) (h2 : new.length = n) (h0 : 0 < n) : (encL { txRec b.t (chRec pg off old new) with lsn := (b.x.y.E : Int) + 1, turn := (b.x.y.T : Int) }).length = 43 + 2 * n := by
  have hn : ¬ n = 0 := by omega
  rw [encL_length]
  simp only [bodyL, b4L, b3L, txRec, chRec, h1, h2, if_neg hn, List.length_append, beK_length]
  simp [beK_length]
  omega
set_option maxHeartbeats 2000000 in
set_option maxRecDepth 100000 in
theorem logChange_any {w : World} {b : Bk} (h : BkAt w b) (ok : TxOk b) {pg off bo bn n : Nat} {old new : List UInt8} (ho : Blk w bo old) (hn : Blk w bn new) (h1 : old.length = n) (h2 : new.length = n) (h0 : 0 < n) (hf : off + n ≤ 512) (hp : pg < 65536) (hroom : ((43 + 2 * n : Nat) : Int) ≤ 408 * (b.x.y.count - 1) - ((b.x.y.E : Int) - (b.x.y.A : Int))) (hE : b.x.y.E + (43 + 2 * n) ≤ 400000) (hc0 : 0 ≤ b.t.chg) (hc1 : b.t.chg ≤ 1000000) (hk0 : 0 ≤ b.t.kept) (hk1 : b.t.kept ≤ 1000000) :
    Calls Tryz.prog 198 #[.pointer (some ⟨b.bp, 0, none⟩), .agg #[.int .i64 (pg : Int), .int .i64 (off : Int), .slice (some ⟨bo, 0, none⟩) n n, .slice (some ⟨bn, 0, none⟩) n n]] w fun e w' => e = .returned (.int .i64 0) ∧ ∃ y', Appd b.x.y y' (43 + 2 * n) (txRec b.t (chRec pg off old new)) ∧ BStep w w' b { b with x := { b.x with y := y' }, t := { b.t with chg := b.t.chg + 1, last := (b.x.y.E : Int) + 1, next := (b.x.y.E : Int) + 1, kept := b.t.kept + (51 + (n : Int)) } } := by
  have hEE := h.po.lo.hE
  have HAD : Hid (∀ w', Fr [] w w' → Calls Tryz.prog 200 #[.pointer (some ⟨b.bp, 0, none⟩), .agg #[.int .i64 0, .int .i64 0, .int .u8 1, .int .i64 0, .int .i64 0, .int .i64 0, .int .i64 (pg : Int), .int .i64 (off : Int), .slice (some ⟨bo, 0, none⟩) n n, .slice (some ⟨bn, 0, none⟩) n n]] w' fun e w'' => e = .returned (.int .i64 0) ∧ ∃ y', Appd b.x.y y' (43 + 2 * n) (txRec b.t (chRec pg off old new)) ∧ BStep w' w'' b { b with x := { b.x with y := y' }, t := { b.t with last := (b.x.y.E : Int) + 1 } }) := hidI (fun w' f => by
    have hx := badd_any (h.quiet f) (chRec pg off old new) ⟨some ⟨bo, 0, none⟩, n, some ⟨bn, 0, none⟩, n⟩ ⟨(ho.kept f (by simp)).bytes, (hn.kept f (by simp)).bytes, (fun e => nomatch e), (fun e => nomatch e)⟩ (chRec_right ok hEE h1 h2 h0 hf hp) (chRec_size h1 h2 h0) hroom hE
    unfold recV at hx
    dsimp only [chRec] at hx
    rw [h1, h2] at hx
    exact hx)
  have fa : Fr [] w (w.alloc (.cells #[.int .i64 (pg : Int), .int .i64 (off : Int), .slice (some ⟨bo, 0, none⟩) n n, .slice (some ⟨bn, 0, none⟩) n n] 42)) := (Fr.refl [] w).alloc _
  have ha := heap_alloc_new w (.cells #[.int .i64 (pg : Int), .int .i64 (off : Int), .slice (some ⟨bo, 0, none⟩) n n, .slice (some ⟨bn, 0, none⟩) n n] 42)
  have HH := hidI h
  have hlt := hidI h.lt
  clear h ok ho hn hroom h1 h2
  obtain ⟨w1, hw1⟩ : ∃ w1, w.alloc (.cells #[.int .i64 (pg : Int), .int .i64 (off : Int), .slice (some ⟨bo, 0, none⟩) n n, .slice (some ⟨bn, 0, none⟩) n n] 42) = w1 := ⟨_, rfl⟩
  rw [hw1] at fa ha
  have c3 : w1.cell? ⟨b.bp, 3, none⟩ = some (.pointer (some ⟨b.dp, 0, none⟩)) := (HH.out.quiet fa).box.c3
  have b0 := cell_of_row w1 w.heap.size 0 _ _ _ ha
  have b1 := cell_of_row w1 w.heap.size 1 _ _ _ ha
  have b2 := cell_of_row w1 w.heap.size 2 _ _ _ ha
  have b3 := cell_of_row w1 w.heap.size 3 _ _ _ ha
  go_enter Tryz.func198, Tryz.ntmps198
  go_wp2_with fail
  refine (HAD.out _ fa).mono ?_
  rintro e w2 ⟨rfl, y', A2, B2⟩
  have HB2 := hidI B2
  have hns : w.heap.size ∉ b.dp :: b.x.own := fun e => by
    have h3 := hlt.out w.heap.size (by rcases List.mem_cons.1 e with e | e <;> simp [e])
    omega
  have ha2 := B2.fr.same hns ha
  have d2 := B2.at'.dl.c2
  have z2 := B2.at'.dl.fz 2
  have D2 := B2.at'.dl.s2 (b.t.chg + 1)
  have S2 := hidI (BStep.deal B2.at' D2 (fr_set _ _ _ _))
  clear B2 b0 b1 b2 b3 c3
  have ec : IntKind.i64.wrap (b.t.chg + 1) = b.t.chg + 1 := wrapI _ (by omega) (by omega)
  obtain ⟨w3, hw3⟩ : ∃ w3, w2.setCell ⟨b.dp, 2, none⟩ (.int .i64 (b.t.chg + 1)) = w3 := ⟨_, rfl⟩
  have S3 := S2
  rw [hw3] at S3
  have d3 := S3.out.at'.dl.c3
  have d4 := S3.out.at'.dl.c4
  have z4 := S3.out.at'.dl.fz 4
  have D4 := S3.out.at'.dl.s4 ((b.x.y.E : Int) + 1)
  have S4 := hidI (BStep.deal S3.out.at' D4 (fr_set _ _ _ _))
  dsimp only at d2 d3 d4
  go_wp2_with fail
  obtain ⟨w4, hw4⟩ : ∃ w4, w3.setCell ⟨b.dp, 4, none⟩ (.int .i64 ((b.x.y.E : Int) + 1)) = w4 := ⟨_, rfl⟩
  have S5 := S4
  rw [hw4] at S5 ⊢
  have f24 : Fr [b.dp] w2 w4 := by
    rw [← hw4, ← hw3]
    exact (fr_set _ _ _ _).trans (fr_set _ _ _ _)
  have ha4 := f24.same (by simp only [List.mem_singleton]; exact fun e => hns (by rw [e]; exact List.mem_cons_self)) ha2
  obtain ⟨Z, HZ⟩ : ∃ Z, Hid (w.heap.size = Z) := ⟨_, rfl⟩
  have hbl : b.bp < w.heap.size := hlt.out _ (by simp)
  have hdl : b.dp < w.heap.size := hlt.out _ (by simp)
  rw [HZ.out] at ha4 hbl hdl ⊢
  have b0 := cell_of_row w4 Z 0 _ _ _ ha4
  have b1 := cell_of_row w4 Z 1 _ _ _ ha4
  have b2 := cell_of_row w4 Z 2 _ _ _ ha4
  have b3 := cell_of_row w4 Z 3 _ _ _ ha4
  have d6 := S5.out.at'.dl.c6
  have z6 := S5.out.at'.dl.fz 6
  dsimp only at d6
  have ek : IntKind.i64.wrap (b.t.kept + (51 + (n : Int))) = b.t.kept + (51 + (n : Int)) := wrapI _ (by omega) (by omega)
  clear d2 d3 d4 z2 z4
  go_region_law ((go_simp; go_at_call 196; refine (undoing_any _ _ _ _ _ _ _ _ _ (by omega)).mono ?_; rintro e6 w6 ⟨rfl, f6⟩; have f46 : Fr [] w4 w6 := (Fr.refl [] w4).drew.trans f6; have B6 := S5.out.at'.quiet f46; have g6 := B6.dl.c6; have y6 := B6.dl.fz 6; have D6 := B6.dl.s6 (b.t.kept + (51 + (n : Int))); have HB6 := hidI B6; clear B6; dsimp only at g6))
  all_goals
    go_wp2_with fail
    go_ret
    refine ⟨rfl, y', A2, ?_⟩
    have st1 := BStep.quiet HH.out fa
    have st2 := (st1.trans HB2.out).trans ((hw3 ▸ S2.out).trans S5.out)
    exact (st2.trans (BStep.quiet S5.out.at' f46)).trans (BStep.deal HB6.out D6 (fr_set _ _ _ _))
end Go.Proofs.YtopaeomjndblkaaGreat

namespace Go.Proofs.YtopaeomjndblkaaGreat
open Go.RowKit Go.Maps
open Pg (SpE diffS)

/-- What stays of a book, whatever a transaction does. -/
structure Tr (b b' : Bk) : Prop where
  pages : b'.x.pages = b.x.pages
  start : b'.x.start = b.x.start
  most : b'.x.most = b.x.most
  nb : b'.x.y.nb = b.x.y.nb
  first : b'.x.y.first = b.x.y.first
  count : b'.x.y.count = b.x.y.count
  T : b'.x.y.T = b.x.y.T
  A : b'.x.y.A = b.x.y.A
  lw : b'.x.y.lw = b.x.y.lw
  low : ∀ k : Int, k < b.x.y.lw → Dv.latest b'.x.y.S b'.x.y.O k = Dv.latest b.x.y.S b.x.y.O k
theorem Tr.refl (b : Bk) : Tr b b := ⟨rfl, rfl, rfl, rfl, rfl, rfl, rfl, rfl, rfl, fun _ _ => rfl⟩
theorem Tr.trans {a b c : Bk} (h : Tr a b) (k : Tr b c) : Tr a c := ⟨k.pages.trans h.pages, k.start.trans h.start, k.most.trans h.most, k.nb.trans h.nb, k.first.trans h.first, k.count.trans h.count, k.T.trans h.T, k.A.trans h.A, k.lw.trans h.lw, fun i hi => (k.low i (by rw [h.lw]; exact hi)).trans (h.low i hi)⟩
theorem Tr.pool {b : Bk} {x' : Po} {t' : Dl} (k : Kin b.x.y x'.y) (h1 : x'.pages = b.x.pages) (h2 : x'.start = b.x.start) (h3 : x'.most = b.x.most) : Tr b { b with x := x', t := t' } := ⟨h1, h2, h3, k.nb, k.first, k.count, k.T, k.A, k.lw, k.low⟩
theorem Tr.appd {b : Bk} {y' : Lo} {t' : Dl} {N : Nat} {r : Rec} (k : Appd b.x.y y' N r) : Tr b { b with x := { b.x with y := y' }, t := t' } := ⟨rfl, rfl, rfl, k.nb, k.first, k.count, k.T, k.A, k.lw, fun i _ => by show Dv.latest y'.S y'.O i = _; rw [k.S, k.O]⟩
theorem Shows.appd {x : Po} {V : Pages} {y' : Lo} {N : Nat} {r : Rec} (h : Shows x V) (k : Appd x.y y' N r) : Shows { x with y := y' } V := h.alike (val_y (fun q _ => by unfold pgD; rw [k.S, k.O]))
def SpBox (w : World) (sb pg off bo bn n : Nat) : Prop := w.heap[sb]? = some (.cells #[.int .i64 (pg : Int), .int .i64 (off : Int), .slice (some ⟨bo, 0, none⟩) n n, .slice (some ⟨bn, 0, none⟩) n n] 42)
set_option maxRecDepth 100000 in
theorem write1_any {w : World} {b : Bk} (h : BkAt w b) (ok : TxOk b) {B sb : Nat} (hB : w.heap[B]? = some (.cells #[.pointer (some ⟨b.bp, 0, none⟩)] 60)) {pg off bo bn n : Nat} (hs : SpBox w sb pg off bo bn n) {old new : List UInt8} (ho : Blk w bo old) (hn : Blk w bn new) (h1 : old.length = n) (h2 : new.length = n) (h0 : 0 < n) (hf : off + n ≤ 512) (hp : pg < 65536) (hroom : ((43 + 2 * n : Nat) : Int) ≤ 408 * (b.x.y.count - 1) - ((b.x.y.E : Int) - (b.x.y.A : Int))) (hE : b.x.y.E + (43 + 2 * n) ≤ 400000) (hc0 : 0 ≤ b.t.chg) (hc1 : b.t.chg ≤ 1000000) (hk0 : 0 ≤ b.t.kept) (hk1 : b.t.kept ≤ 1000000) :
    Calls Tryz.prog 197 #[.pointer (some ⟨B, 0, none⟩), .pointer (some ⟨sb, 0, none⟩)] w fun e w' => e = .returned (.int .i64 0) ∧ ∃ y', Appd b.x.y y' (43 + 2 * n) (txRec b.t (chRec pg off old new)) ∧ BStep w w' b { b with x := { b.x with y := y' }, t := { b.t with chg := b.t.chg + 1, last := (b.x.y.E : Int) + 1, next := (b.x.y.E : Int) + 1, kept := b.t.kept + (51 + (n : Int)) } } := by
  have HC := hidI (logChange_any h ok ho hn h1 h2 h0 hf hp hroom hE hc0 hc1 hk0 hk1)
  have c0 := cell_of_row w B 0 _ _ _ hB
  have b0 := cell_of_row w sb 0 _ _ _ hs
  have b1 := cell_of_row w sb 1 _ _ _ hs
  have b2 := cell_of_row w sb 2 _ _ _ hs
  have b3 := cell_of_row w sb 3 _ _ _ hs
  clear h ok hB hs ho hn h1 h2 h0 hf hp hroom hE hc0 hc1 hk0 hk1
  go_enter Tryz.func197, Tryz.ntmps197
  go_wp2_with fail
  refine HC.out.mono ?_
  rintro e w2 ⟨rfl, h2⟩
  go_wp2_with fail
  go_ret
  exact ⟨rfl, h2⟩
theorem Chg.pages {x x'' : Po} {page off : Nat} {l : List UInt8} {lsn : Int} (h : Chg x x'' page off l lsn) (hn : ((ids x.fs).map (·.1)).Nodup) : x''.pages = x.pages ∧ x''.start = x.start ∧ x''.most = x.most ∧ x''.pp = x.pp := by
  obtain ⟨f, x', j, hf, _, rfl⟩ := h
  obtain ⟨⟨h1, h2, h3, h4, _⟩, _⟩ := hf.alike hn
  exact ⟨h2, h1, h3, h4⟩
theorem Shows.chg {w w' : World} {x x'' : Po} (hx : PoAt w x) (hx2 : PoAt w' x'') {V : Pages} (h : Shows x V) {page off : Nat} {l : List UInt8} {lsn : Int} (k : Chg x x'' page off l lsn) : Shows x'' (setPg V page (over (V page) off l)) := by
  have hpg := k.pages hx.nod
  intro q hq
  rw [hpg.1] at hq
  obtain ⟨_, _, _, _, _, _, hne, heq⟩ := k.val hx.nod hx2.nod
  unfold setPg
  by_cases e : q = page
  · subst e
    rw [if_pos rfl]
    exact heq _ (h q hq)
  · rw [if_neg e]
    exact hne q hq e _ (h q hq)
set_option maxHeartbeats 1000000 in
set_option maxRecDepth 100000 in
theorem bchange_any {w : World} {b : Bk} (h : BkAt w b) {page : Nat} (hp : page < b.x.pages) (off : Nat) (a1 : Option Addr) (n1 c1 : Nat) (bn n c : Nat) (l : List UInt8) (hl : l.length = n) (hl0 : 0 < n) (hfit : off + n ≤ 512) (hb : Blk w bn l) (hbo : bn ∉ b.x.own) (lsn : Int) (hl1 : 1 ≤ lsn) (hl2 : lsn ≤ (b.x.y.E : Int)) :
    Calls Tryz.prog 69 #[.pointer (some ⟨b.x.pp, 0, none⟩), .agg #[.int .i64 (page : Int), .int .i64 (off : Int), .slice a1 n1 c1, .slice (some ⟨bn, 0, none⟩) n c], .int .i64 lsn] w fun e w' => e = .returned (.int .i64 0) ∧ ∃ x'', Chg b.x x'' page off l lsn ∧ BStep w w' b { b with x := x'' } := by
  subst hl
  refine (change_any h.po hp off a1 n1 c1 (some ⟨bn, 0, none⟩) c l hl0 hfit hb.bytes (fun b' o e => by cases e; exact hbo) lsn hl1 hl2).mono ?_
  rintro e w' (⟨rfl, hbz, _⟩ | ⟨f, x', j, rfl, st, hf, hj⟩)
  · exact (hbz.no h.hd0 h.po.m0).elim
  · have hc : Chg b.x { x' with fs := x'.fs.set j (f.changed off l lsn) } page off l lsn := ⟨f, x', j, hf, hj, rfl⟩
    have k := hc.kin
    exact ⟨rfl, _, hc, BStep.pool h st k.d k.p (hc.pages h.po.nod).2.2.2 (hc.hd0 h.hd0) ⟨by rw [k.ls]; exact h.ls.rise, by rw [k.ls, k.A, k.E]; exact h.ls.le⟩⟩
set_option maxHeartbeats 1000000 in
set_option maxRecDepth 100000 in
theorem write2_any {w : World} {b : Bk} (h : BkAt w b) {B sb : Nat} (hB : w.heap[B]? = some (.cells #[.pointer (some ⟨b.bp, 0, none⟩)] 60)) {pg off bo bn n : Nat} (hs : SpBox w sb pg off bo bn n) (hp : pg < b.x.pages) {new : List UInt8} (hn : Blk w bn new) (h2 : new.length = n) (h0 : 0 < n) (hf : off + n ≤ 512) (hbo : bn ∉ b.x.own) (hl1 : 1 ≤ b.t.last) (hl2 : b.t.last ≤ (b.x.y.E : Int)) :
    Calls Tryz.prog 199 #[.pointer (some ⟨B, 0, none⟩), .pointer (some ⟨sb, 0, none⟩)] w fun e w' => e = .returned (.int .i64 0) ∧ ∃ x'', Chg b.x x'' pg off new b.t.last ∧ BStep w w' b { b with x := x'' } := by
  have HC : Hid (∀ w', Fr [] w w' → Calls Tryz.prog 69 #[.pointer (some ⟨b.x.pp, 0, none⟩), .agg #[.int .i64 (pg : Int), .int .i64 (off : Int), .slice (some ⟨bo, 0, none⟩) n n, .slice (some ⟨bn, 0, none⟩) n n], .int .i64 b.t.last] w' fun e w'' => e = .returned (.int .i64 0) ∧ ∃ x'', Chg b.x x'' pg off new b.t.last ∧ BStep w w'' b { b with x := x'' }) := hidI (fun w' f => by
    refine (bchange_any (h.quiet f) hp off _ n n bn n n new h2 h0 hf (hn.kept f (by simp)) hbo b.t.last hl1 hl2).mono ?_
    rintro e w'' ⟨he, x'', hc, st⟩
    exact ⟨he, x'', hc, (BStep.quiet h f).trans st⟩)
  have c0 := cell_of_row w B 0 _ _ _ hB
  have b0 := cell_of_row w sb 0 _ _ _ hs
  have b1 := cell_of_row w sb 1 _ _ _ hs
  have b2 := cell_of_row w sb 2 _ _ _ hs
  have b3 := cell_of_row w sb 3 _ _ _ hs
  have e2 : w.cell? ⟨b.bp, 2, none⟩ = some (.pointer (some ⟨b.x.pp, 0, none⟩)) := h.box.c2
  have e3 : w.cell? ⟨b.bp, 3, none⟩ = some (.pointer (some ⟨b.dp, 0, none⟩)) := h.box.c3
  have d3 := h.dl.c3
  clear h hB hs hp hn h2 h0 hf hbo hl1 hl2
  go_enter Tryz.func199, Tryz.ntmps199
  go_wp2_with fail
  go_region_law ((go_simp; go_at_call 69; refine (HC.out _ (Fr.refl [] w).drew).mono ?_; rintro e w2 ⟨rfl, h2⟩))
  all_goals
    go_wp2_with fail
    go_ret
    exact ⟨rfl, h2⟩
end Go.Proofs.YtopaeomjndblkaaGreat

namespace Go.Proofs.YtopaeomjndblkaaGreat
open Go.RowKit Go.Maps
open Pg (SpE diffS mixL lastE)

def logN : List SpE → Nat
  | [] => 0
  | e :: S => 43 + 2 * e.n + logN S
def undN : List SpE → Int
  | [] => 0
  | e :: S => 51 + (e.n : Int) + undN S
theorem sumN_eq : ∀ S : List SpE, sumN S = (logN S : Int) + undN S
  | [] => by simp [sumN, logN, undN]
  | e :: S => by
    have := sumN_eq S
    simp only [sumN, logN, undN]
    omega
theorem logN_app (S T : List SpE) : logN (S ++ T) = logN S + logN T := by
  induction S with
  | nil => simp [logN]
  | cons e S ih => simp [logN, ih]; omega
theorem undN_app (S T : List SpE) : undN (S ++ T) = undN S + undN T := by
  induction S with
  | nil => simp [undN]
  | cons e S ih => simp [undN, ih]; omega
theorem undN_nonneg : ∀ S : List SpE, 0 ≤ undN S
  | [] => by simp [undN]
  | e :: S => by
    have := undN_nonneg S
    simp only [undN]
    omega
theorem logN_take (S : List SpE) {k : Nat} {e : SpE} (h : S[k]? = some e) : logN (S.take (k + 1)) = logN (S.take k) + (43 + 2 * e.n) := by
  rw [List.take_add_one, h, logN_app]
  simp [logN]
theorem undN_take (S : List SpE) {k : Nat} {e : SpE} (h : S[k]? = some e) : undN (S.take (k + 1)) = undN (S.take k) + (51 + (e.n : Int)) := by
  rw [List.take_add_one, h, undN_app]
  simp [undN]
theorem logN_le (S : List SpE) (k : Nat) : logN (S.take k) ≤ logN S := by
  have h := logN_app (S.take k) (S.drop k)
  rw [List.take_append_drop] at h
  omega
theorem undN_le (S : List SpE) (k : Nat) : undN (S.take k) ≤ undN S := by
  have h := undN_app (S.take k) (S.drop k)
  rw [List.take_append_drop] at h
  have := undN_nonneg (S.drop k)
  omega
/-- The page as it is with the first k spans put. -/
def mixK (la lb : List UInt8) (k : Nat) : List UInt8 := mixL la lb (lastE (diffS la lb) k)
/-- Spans of two pages, one of them. -/
structure SpOk (la lb : List UInt8) (k : Nat) (e : SpE) : Prop where
  n0 : 0 < e.n
  fit : e.off + e.n ≤ 512
  old : ((la.drop e.off).take e.n).length = e.n
  new : ((lb.drop e.off).take e.n).length = e.n
  was : ((mixK la lb k).drop e.off).take e.n = (la.drop e.off).take e.n
  len : (mixK la lb k).length = 512
  put : over (mixK la lb k) e.off ((lb.drop e.off).take e.n) = mixK la lb (k + 1)
theorem spOk {la lb : List UInt8} (ha : la.length = 512) (hb : lb.length = 512) {S : List SpE} (hS : S.map (fun e => (e.off, e.off + e.n)) = diffS la lb) {k : Nat} {e : SpE} (he : S[k]? = some e) : SpOk la lb k e := by
  obtain ⟨hk, hke⟩ := List.getElem?_eq_some_iff.1 he
  have hkd : k < (diffS la lb).length := by rw [← hS, List.length_map]; exact hk
  have hde : (diffS la lb)[k]'hkd = (e.off, e.off + e.n) := by
    have h1 : (diffS la lb)[k]? = some (e.off, e.off + e.n) := by rw [← hS, List.getElem?_map, he]; rfl
    exact (List.getElem?_eq_some_iff.1 h1).2
  have ok := Pg.diff_tok la lb k hkd
  rw [hde] at ok
  have k1 := ok.lt
  have k2 := ok.le
  have k3 := ok.gap
  dsimp only at k1 k2 k3
  have hL : lastE (diffS la lb) k ≤ e.off := by omega
  refine ⟨by omega, k2, by rw [List.length_take, List.length_drop]; omega, by rw [List.length_take, List.length_drop]; omega, ?_, Pg.mixL_length la lb _ ha hb (by omega), ?_⟩
  · congr 1
    unfold mixK mixL
    rw [List.drop_append, List.drop_of_length_le (by rw [List.length_take]; omega), List.nil_append, List.drop_drop]
    congr 1
    rw [List.length_take]
    omega
  · have h1 := Pg.mixL_step la lb _ _ _ ha hb hL ok
    dsimp only at h1
    rw [show e.off + e.n - e.off = e.n by omega] at h1
    unfold mixK
    rw [Pg.lastE_succ _ k hkd, hde]
    exact h1
theorem mixK_zero (la lb : List UInt8) : mixK la lb 0 = la := Pg.mixL_zero la lb
theorem mixK_all {la lb : List UInt8} (ha : la.length = 512) (hb : lb.length = 512) : mixK la lb (diffS la lb).length = lb := by
  unfold mixK
  have hle : lastE (diffS la lb) (diffS la lb).length ≤ 512 := by
    unfold lastE
    split
    · omega
    · next h0 =>
      have hl : (diffS la lb).length - 1 < (diffS la lb).length := by omega
      rw [List.getD_eq_getElem?_getD, List.getElem?_eq_getElem hl]
      exact Pg.diff_ends la lb _ (List.getElem_mem hl)
  exact Pg.mixL_all la lb _ ha hb hle (fun j h1 h2 => Pg.diff_same la lb _ (Nat.le_refl _) j h2 h1 (fun h => absurd h (by omega)))
/-- What holds when k spans are logged, and j of them done. -/
structure WInv (w : World) (b : Bk) (H : List Ch) (V : Pages) (pg : Nat) (la lb : List UInt8) (S : List SpE) (k j : Nat) (wr : World) (b' : Bk) (H' : List Ch) : Prop where
  st : BStep w wr b b'
  tr : Tr b b'
  ss : b'.t.st = b.t.st
  und : b'.t.und = b.t.und
  num : b'.t.num = b.t.num
  chg : b'.t.chg = b.t.chg + (k : Int)
  E : b'.x.y.E = b.x.y.E + logN (S.take k)
  kept : b'.t.kept = keptOf H'
  keq : keptOf H' = keptOf H + undN (S.take k)
  next : b'.t.next = nextOf H'
  last : b'.t.last = nextOf H'
  nx : 0 ≤ nextOf H' ∧ nextOf H' ≤ (b'.x.y.E : Int)
  chain : Chain b'.x.y b.t.num H'
  sh : Shows b'.x (setPg V pg (mixK la lb j))
  un : undoAll H' (setPg V pg (mixK la lb k)) = undoAll H V
  one : j < k → 1 ≤ nextOf H'
  pgs : ∀ c ∈ H', c.pg < b.x.pages
theorem setPg_same (V : Pages) (q : Nat) (l m : List UInt8) : setPg (setPg V q l) q m = setPg V q m := by
  funext k
  unfold setPg
  by_cases e : k = q <;> simp [e]
theorem setPg_at (V : Pages) (q : Nat) (l : List UInt8) : setPg V q l q = l := by simp [setPg]
theorem WInv.log {w wr wr' : World} {b : Bk} {H : List Ch} {V : Pages} {pg : Nat} {la lb : List UInt8} {S : List SpE} {k : Nat} {b' : Bk} {H' : List Ch} (h : WInv w b H V pg la lb S k k wr b' H') {e : SpE} (he : S[k]? = some e) (ok : SpOk la lb k e) (tx : TxOk b') (hE4 : b'.x.y.E ≤ 400000) (hpg : pg < 65536) (hpp : pg < b.x.pages) {y' : Lo} (ap : Appd b'.x.y y' (43 + 2 * e.n) (txRec b'.t (chRec pg e.off ((la.drop e.off).take e.n) ((lb.drop e.off).take e.n))))
    (st : BStep wr wr' b' { b' with x := { b'.x with y := y' }, t := { b'.t with chg := b'.t.chg + 1, last := (b'.x.y.E : Int) + 1, next := (b'.x.y.E : Int) + 1, kept := b'.t.kept + (51 + (e.n : Int)) } }) :
    WInv w b H V pg la lb S (k + 1) k wr' { b' with x := { b'.x with y := y' }, t := { b'.t with chg := b'.t.chg + 1, last := (b'.x.y.E : Int) + 1, next := (b'.x.y.E : Int) + 1, kept := b'.t.kept + (51 + (e.n : Int)) } } (⟨b'.x.y.E, pg, e.off, (la.drop e.off).take e.n, (lb.drop e.off).take e.n⟩ :: H') := by
  have hy := h.st.at'.po.lo
  refine ⟨h.st.trans st, h.tr.trans (Tr.appd ap), h.ss, h.und, h.num, ?_, ?_, ?_, ?_, rfl, rfl, ?_, ⟨?_, h.nx.2, ?_⟩, h.sh.appd ap, ?_, ?_, ?_⟩
  · show b'.t.chg + 1 = b.t.chg + ((k + 1 : Nat) : Int)
    rw [h.chg]
    omega
  · show y'.E = _
    rw [ap.E, h.E, logN_take S he]
    omega
  · show b'.t.kept + (51 + (e.n : Int)) = 51 + (((lb.drop e.off).take e.n).length : Int) + keptOf H'
    rw [ok.new, h.kept]
    omega
  · show 51 + (((lb.drop e.off).take e.n).length : Int) + keptOf H' = _
    rw [ok.new, h.keq, undN_take S he]
    omega
  · show 0 ≤ (b'.x.y.E : Int) + 1 ∧ (b'.x.y.E : Int) + 1 ≤ (y'.E : Int)
    rw [ap.E]
    omega
  · have hr := chRec_right tx hE4 ok.old ok.new ok.n0 ok.fit hpg
    have h1 := RecIn.new hy ap (by omega) hr
    have e1 : recOf b.t.num (y'.T : Int) (nextOf H') ⟨b'.x.y.E, pg, e.off, (la.drop e.off).take e.n, (lb.drop e.off).take e.n⟩ = { txRec b'.t (chRec pg e.off ((la.drop e.off).take e.n) ((lb.drop e.off).take e.n)) with lsn := (b'.x.y.E : Int) + 1, turn := (b'.x.y.T : Int) } := by
      unfold recOf txRec chRec
      rw [ap.T, ← h.num, ← h.last]
    show RecIn y' b'.x.y.E (recOf b.t.num (y'.T : Int) (nextOf H') _)
    rw [e1]
    exact h1
  · exact h.chain.appd hy ap
  · show undoAll H' (undo1 _ (setPg V pg (mixK la lb (k + 1)))) = _
    rw [← h.un]
    congr 1
    have h1 := undo1_do (V := setPg V pg (mixK la lb k)) (c := ⟨b'.x.y.E, pg, e.off, (la.drop e.off).take e.n, (lb.drop e.off).take e.n⟩) (by dsimp only; rw [setPg_at, ok.new, ok.was]) (by dsimp only; rw [setPg_at, ok.new, ok.len]; exact ok.fit)
    dsimp only at h1
    rw [setPg_at, setPg_same, ok.put] at h1
    exact h1
  · intro _
    show (1 : Int) ≤ (b'.x.y.E : Int) + 1
    omega
  · intro c hc
    rcases List.mem_cons.1 hc with rfl | hc
    · exact hpp
    · exact h.pgs c hc
theorem WInv.chg' {w wr wr' : World} {b : Bk} {H : List Ch} {V : Pages} {pg : Nat} {la lb : List UInt8} {S : List SpE} {k : Nat} {b' : Bk} {H' : List Ch} (h : WInv w b H V pg la lb S (k + 1) k wr b' H') {e : SpE} (ok : SpOk la lb k e) {x'' : Po} (c : Chg b'.x x'' pg e.off ((lb.drop e.off).take e.n) b'.t.last) (st : BStep wr wr' b' { b' with x := x'' }) :
    WInv w b H V pg la lb S (k + 1) (k + 1) wr' { b' with x := x'' } H' := by
  have kk := c.kin
  have hp := c.pages h.st.at'.po.nod
  refine ⟨h.st.trans st, h.tr.trans (Tr.pool (t' := b'.t) kk hp.1 hp.2.1 hp.2.2.1), h.ss, h.und, h.num, h.chg, ?_, h.kept, h.keq, h.next, h.last, ?_, h.chain.kin kk, ?_, h.un, fun h1 => absurd h1 (by omega), h.pgs⟩
  · show x''.y.E = _
    rw [kk.E, h.E]
  · show 0 ≤ nextOf H' ∧ nextOf H' ≤ (x''.y.E : Int)
    rw [kk.E]
    exact h.nx
  · have h1 := h.sh.chg h.st.at'.po st.at'.po c
    rw [setPg_at, setPg_same, ok.put] at h1
    exact h1
end Go.Proofs.YtopaeomjndblkaaGreat

