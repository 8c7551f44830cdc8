/-
  A walk past a select: as the library's walk, for frames of ordinary calls alone.
-/
import Derived.Test.YtopaeomjndblkaaGreatY26Z
import Derived.Test.YtopaeomjndblkaaGreatY29Z
import Derived.Test.YtopaeomjndblkaaGreatY41Z
import Derived.Conc.LoneSelectN
import Derived.Conc.LoneCalls
namespace Go.Proofs.YtopaeomjndblkaaGreat
open Go.RowKit Go.Maps

/-- A log that was opened on a device without records. -/
def loF (d bs bo : Nat) (nb : Int) (S : Dv.Tab) (p : Nat) (first count : Int) (T : Nat) : Lo := ⟨d, bs, bo, nb, S, Dv.Tab.none, p, first, count, T, 0, 0, 0, 0, 0, 0, none, 0, 0, none, [], [], 2⟩
theorem loF_at {w : World} {d bs bo : Nat} {nb : Int} {S : Dv.Tab} (hd : Dv.Dev w d bs bo nb 0 false S Dv.Tab.none) {p : Nat} {first count : Int} {T : Nat} (hc : 4 ≤ count) (h0 : 2 ≤ first) (hn : first + count ≤ nb) (hT : T < 2147483648) (hb : LBox w p ⟨.pointer (some ⟨d, 0, none⟩), first, count, (T : Int), 1, 1, 1, .slice none 0 0, 1, .slice none 0 0⟩) : LoAt w (loF d bs bo nb S p first count T) :=
  { dev := hd, box := hb, bsA := BsAt.nil w, lsA := LsAt.nil w, lbl := rfl, hn := rfl, hFP := Nat.le_refl _, hPE := Nat.le_refl _, hFA := Nat.le_refl _, hAE := Nat.le_refl _, hE := by show (0 : Nat) ≤ 400000; omega, h2 := Nat.le_refl _, hT := hT, f0 := by show (0 : Int) ≤ first; omega, f1 := hn, c0 := hc, hlw := h0 }
/-- What stands on a device that was formatted. -/
def fmS (O' : Dv.Tab) : Dv.Tab := Dv.over (Dv.over Dv.Tab.none O') (Dv.Tab.none.put 1 (mBytes m111))
theorem fm_zero {O' : Dv.Tab} {nb : Int} (h : ∀ k : Int, 0 ≤ k → k < nb → O' k = some (zs 512)) {k : Int} (h0 : 0 ≤ k) (h1 : k < nb) (h2 : k ≠ 1) : Dv.latest (fmS O') Dv.Tab.none k = zs 512 := by
  rw [fmS, latest_sync, latest_put, if_neg h2, latest_sync]
  unfold Dv.latest
  rw [h k h0 h1]
  rfl
theorem fm_one (O' : Dv.Tab) : Dv.latest (fmS O') Dv.Tab.none 1 = mBytes m111 := by
  rw [fmS, latest_sync, latest_put, if_pos rfl]
theorem fm_mas {O' : Dv.Tab} {nb : Int} (h : ∀ k : Int, 0 ≤ k → k < nb → O' k = some (zs 512)) (hn : 2 ≤ nb) : Mas (fmS O') Dv.Tab.none m111 :=
  ⟨⟨0, 0, 0⟩, m111, by rw [fm_zero h (by omega) (by omega) (by omega)]; exact Stands.none 0, by rw [fm_one]; exact Stands.one m111 m111_ok, by simp [bestM, later, m111], m111_ok⟩
theorem zs_stamp : stampP ((zs 512).take 64) ≠ 1 := by
  have h2 : stampP ((zs 512).take 64) = 0 := by kernel_rfl
  rw [h2]
  omega
/-- A book that was just made: its pages are noughts, its log is empty. -/
structure Fresh (b : Bk) (n most T : Nat) (m : Mst) : Prop where
  t : b.t = dl0
  pages : (b.x.pages : Int) = (n : Int) - 2 - (n : Int) / 2
  start : b.x.start = 2
  most : b.x.most = most
  nb : b.x.y.nb = (n : Int)
  first : b.x.y.first = (n : Int) - (n : Int) / 2
  count : b.x.y.count = (n : Int) / 2
  T : b.x.y.T = T
  A : b.x.y.A = 0
  E : b.x.y.E = 0
  lw : b.x.y.lw = 2
  mas : Mas b.x.y.S b.x.y.O m
  sh : Shows b.x (fun _ => zs 512)
theorem place_let (w : World) (nb : Nat) (pages : Nat) (at' cnt : Int) (h0 : 24 ≤ nb) (h1 : nb ≤ 65536) (e1 : (nb : Int) / 2 = cnt) (e2 : (nb : Int) - cnt = at') (e3 : (nb : Int) - 2 - cnt = (pages : Int)) : Calls Tryz.prog 87 #[.int .i64 (nb : Int)] w fun e w' => e = .returned (.tuple #[.int .i64 2, .int .i64 (pages : Int), .int .i64 at', .int .i64 cnt]) ∧ w' = w := by
  have h := place_ok w (nb : Int) (by omega) (by omega)
  rw [e1, e2, e3] at h
  exact h
def CBox (w : World) (rg d p pp bp : Nat) : Prop := w.heap[rg]? = some (.cells #[.pointer (some ⟨d, 0, none⟩), .pointer (some ⟨p, 0, none⟩), .pointer (some ⟨pp, 0, none⟩), .pointer (some ⟨bp, 0, none⟩)] 62)
/-- The rig in memory. -/
structure CRig (w : World) (rg : Nat) (b : Bk) : Prop where
  box : CBox w rg b.x.y.d b.x.y.p b.x.pp b.bp
  bk : BkAt w b
theorem CRig.lt {w : World} {rg : Nat} {b : Bk} (h : CRig w rg b) : rg < w.heap.size := (Array.getElem?_eq_some_iff.1 h.box).1
theorem CRig.ne {w : World} {rg : Nat} {b : Bk} (h : CRig w rg b) : rg ∉ b.dp :: b.x.own := by
  intro hm
  rcases List.mem_cons.1 hm with e | e
  · have h1 := h.box
    have h2 := h.bk.dl
    unfold CBox at h1
    unfold DlAt at h2
    rw [e, h2] at h1
    cases h1
  · exact po_notin h.bk.po h.box (by decide) (by decide) (by decide) (List.mem_cons_of_mem _ e)
theorem CRig.step {w w' : World} {rg : Nat} {b b' : Bk} (h : CRig w rg b) (st : BStep w w' b b') (hd : b'.x.y.d = b.x.y.d) (hp : b'.x.y.p = b.x.y.p) : CRig w' rg b' := by
  refine ⟨?_, st.at'⟩
  rw [hd, hp, st.pp, st.bp]
  exact st.fr.same h.ne h.box
theorem CRig.quiet {w w' : World} {rg : Nat} {b : Bk} (h : CRig w rg b) (f : Fr [] w w') : CRig w' rg b := ⟨f.same (by simp) h.box, h.bk.quiet f⟩
theorem CRig.c0 {w : World} {rg : Nat} {b : Bk} (h : CRig w rg b) : w.cell? ⟨rg, 0, none⟩ = some (.pointer (some ⟨b.x.y.d, 0, none⟩)) := cell_of_row w rg 0 _ _ _ h.box
theorem CRig.c1 {w : World} {rg : Nat} {b : Bk} (h : CRig w rg b) : w.cell? ⟨rg, 1, none⟩ = some (.pointer (some ⟨b.x.y.p, 0, none⟩)) := cell_of_row w rg 1 _ _ _ h.box
theorem CRig.c3 {w : World} {rg : Nat} {b : Bk} (h : CRig w rg b) : w.cell? ⟨rg, 3, none⟩ = some (.pointer (some ⟨b.bp, 0, none⟩)) := cell_of_row w rg 3 _ _ _ h.box
end Go.Proofs.YtopaeomjndblkaaGreat

namespace Go.Proofs.YtopaeomjndblkaaGreat
open Go.RowKit Go.Maps
open Pg (SpE diffS byteAt)

/-- Where a book lies on its device, and its masters. -/
structure Env (b : Bk) (n : Nat) (m : Mst) : Prop where
  n0 : 24 ≤ n
  n1 : n ≤ 65536
  pages : (b.x.pages : Int) = (n : Int) - 2 - (n : Int) / 2
  start : b.x.start = 2
  nb : b.x.y.nb = (n : Int)
  first : b.x.y.first = (n : Int) - (n : Int) / 2
  count : b.x.y.count = (n : Int) / 2
  lw : b.x.y.lw = 2
  mas : Mas b.x.y.S b.x.y.O m
theorem Env.tr {b b' : Bk} {nb : Nat} {m : Mst} (h : Env b nb m) (t : Tr b b') : Env b' nb m :=
  ⟨h.n0, h.n1, by rw [t.pages]; exact h.pages, by rw [t.start]; exact h.start, by rw [t.nb]; exact h.nb, by rw [t.first]; exact h.first, by rw [t.count]; exact h.count, by rw [t.lw]; exact h.lw, h.mas.like (fun k hk => t.low k (by rw [h.lw]; exact hk))⟩
theorem Env.begun {b b' : Bk} {nb : Nat} {m m' : Mst} (h : Env b nb m) (t : Begun b b' m m') : Env b' nb m' :=
  ⟨h.n0, h.n1, by rw [t.al.2.1]; exact h.pages, by rw [t.al.1]; exact h.start, by rw [t.nb]; exact h.nb, by rw [t.first]; exact h.first, by rw [t.count]; exact h.count, by rw [t.lw]; exact h.lw, t.mas⟩
theorem Fresh.env {b : Bk} {nb most T : Nat} {m : Mst} (h : Fresh b nb most T m) (h0 : 24 ≤ nb) (h1 : nb ≤ 65536) : Env b nb m := ⟨h0, h1, h.pages, h.start, h.nb, h.first, h.count, h.lw, h.mas⟩
theorem Fresh.idle {b : Bk} {nb most T : Nat} {m : Mst} (h : Fresh b nb most T m) (h0 : 1 ≤ T) (h1 : T ≤ 2147483647) : Idle b (fun _ => zs 512) := ⟨h.t, h.sh, by rw [h.T]; exact h0, by rw [h.T]; exact h1⟩
theorem Env.pgn {b : Bk} {nb : Nat} {m : Mst} (h : Env b nb m) : b.x.pages ≤ 65536 := by
  have h1 := h.pages
  have h2 := h.n1
  omega
theorem InTx.Ele {b : Bk} {H : List Ch} {V : Pages} (h : InTx b H V) : (b.x.y.E : Int) + keptOf H + 35 ≤ (b.x.y.A : Int) + 408 * (b.x.y.count - 1) := by
  have h1 := h.room
  omega
theorem Val.eq {w : World} {b : Bk} (h : BkAt w b) {V : Pages} (hs : Shows b.x V) {q : Nat} (hq : q < b.x.pages) {l : List UInt8} (hv : Val b.x q l) : l = V q := hv.uniq h.po.nod (hs q hq)
theorem BStep.same {w w' : World} {b b' : Bk} (h : BkAt w b) (st : BStep w w' b b') : b'.x.y.d = b.x.y.d ∧ b'.x.y.p = b.x.y.p := by
  have n1 : b.bp ∉ b.dp :: b.x.own := fun hm => by
    rcases List.mem_cons.1 hm with e | e
    · exact h.bd e
    · exact h.bn (List.mem_cons_of_mem _ e)
  have h1 := st.fr.same n1 h.box
  have h2 := st.at'.box
  unfold BBox at h2
  rw [st.bp, h1] at h2
  simp at h2
  exact ⟨h2.1.symm, h2.2.1.symm⟩
theorem CRig.go {w w' : World} {rg : Nat} {b b' : Bk} (h : CRig w rg b) (st : BStep w w' b b') : CRig w' rg b' := h.step st (st.same h.bk).1 (st.same h.bk).2
/-- Begin. -/
structure BegTo (w w' : World) (b : Bk) (nb : Nat) (m : Mst) (V : Pages) (b' : Bk) (m' : Mst) : Prop where
  st : BStep w w' b b'
  env : Env b' nb m'
  tx : InTx b' [] V
  T : b'.x.y.T = b.x.y.T
  E : b'.x.y.E = b.x.y.E
  A : b'.x.y.A = b.x.y.A ∨ b'.x.y.A = b.x.y.E
  s1 : m'.seq ≤ m.seq + 1
  turn : m'.turn = m.turn
  room : 204 * b'.x.y.count ≤ b'.room
  more : b.room ≤ b'.room
  most : b'.x.most = b.x.most
  chg : b'.t.chg = 0
theorem beg_to {w : World} {b : Bk} (h : BkAt w b) {nb : Nat} {m : Mst} (en : Env b nb m) {V : Pages} (hi : Idle b V) (hs : m.seq ≤ 1000000) :
    Calls Tryz.prog 30 #[.pointer (some ⟨b.bp, 0, none⟩)] w fun e w' => e = .returned (.int .i64 0) ∧ ∃ b' m', BegTo w w' b nb m V b' m' := by
  have h1 := en.nb
  have h2 := en.count
  have h3 := en.n0
  have h4 := en.start
  have h5 := en.lw
  refine (begin_any h hi.t en.mas (by omega) hs (by omega) (by omega) (by omega)).mono ?_
  rintro e w' ⟨he, b', m', st, bg⟩
  exact ⟨he, b', m', st, en.begun bg, bg.tx hi h.po.lo.hE (by omega), bg.T, bg.E, bg.A, bg.s1, bg.turn, bg.room, bg.more, bg.al.2.2.1, by rw [bg.t]; rfl⟩
/-- A page read. -/
structure PgTo (w w' : World) (b : Bk) (l : List UInt8) (g : Nat) (b' : Bk) : Prop where
  st : BStep w w' b b'
  tr : Tr b b'
  t : b'.t = b.t
  E : b'.x.y.E = b.x.y.E
  blk : Blk w' g l
  new : w.heap.size ≤ g
  out : g ∉ b'.dp :: b'.x.own
  idle : ∀ V, Idle b V → Idle b' V
  tx : ∀ H V, InTx b H V → InTx b' H V
  sh : ∀ V, Shows b.x V → Shows b'.x V
theorem page_to {w : World} {b : Bk} (h : BkAt w b) {V : Pages} (hv : Shows b.x V) {page : Nat} (hp : page < b.x.pages) :
    Calls Tryz.prog 28 #[.pointer (some ⟨b.bp, 0, none⟩), .int .i64 (page : Int)] w fun e w' => ∃ g b', e = .returned (.tuple #[.slice (some ⟨g, 0, none⟩) 512 512, .int .i64 0]) ∧ PgTo w w' b (V page) g b' := by
  refine (bpage_any h hp).mono ?_
  rintro e w' ⟨g, he, x', l, r⟩
  have hl := Val.eq h hv hp r.val
  subst hl
  have ho : g ∉ b.dp :: x'.own := fun hm => by
    rcases List.mem_cons.1 hm with e | e
    · have := h.dl.lt
      have := r.new
      omega
    · exact r.out e
  exact ⟨g, _, he, r.st, Tr.pool r.kin r.al.2.1 r.al.1 r.al.2.2.1, rfl, r.kin.E, r.blk, r.new, ho, fun V hi => ⟨hi.t, hi.sh.alike r.al, by show 1 ≤ x'.y.T; rw [r.kin.T]; exact hi.t0, by show x'.y.T ≤ _; rw [r.kin.T]; exact hi.t1⟩, fun H V tx => tx.kin r.kin r.al, fun V hs => hs.alike r.al⟩
/-- Commit. -/
structure ComTo (w w' : World) (b : Bk) (nb : Nat) (m : Mst) (V : Pages) (b' : Bk) : Prop where
  st : BStep w w' b b'
  tr : Tr b b'
  env : Env b' nb m
  idle : Idle b' V
  E : b'.x.y.E = b.x.y.E + 35
  P : b'.x.y.P = b'.x.y.E
theorem com_to {w : World} {b : Bk} (h : BkAt w b) {nb : Nat} {m : Mst} (en : Env b nb m) {H : List Ch} {V : Pages} (tx : InTx b H V) (hE : b.x.y.E ≤ 399000) :
    Calls Tryz.prog 32 #[.pointer (some ⟨b.bp, 0, none⟩)] w fun e w' => e = .returned (.int .i64 0) ∧ ∃ b', ComTo w w' b nb m V b' := by
  refine (commit_any h tx (by omega)).mono ?_
  rintro e w' ⟨he, b', st, ct, hP, ht⟩
  exact ⟨he, b', st, ct.tr, en.tr ct.tr, ⟨ht, ct.sh, by rw [ct.tr.T]; exact tx.t0, by rw [ct.tr.T]; exact tx.t1⟩, ct.E, hP⟩
/-- Abort. -/
structure AboTo (w w' : World) (b : Bk) (nb : Nat) (m : Mst) (H : List Ch) (V : Pages) (b' : Bk) : Prop where
  st : BStep w w' b b'
  tr : Tr b b'
  env : Env b' nb m
  idle : Idle b' (undoAll H V)
  E : (b'.x.y.E : Int) = (b.x.y.E : Int) + keptOf H + 35
theorem abo_to {w : World} {b : Bk} (h : BkAt w b) {nb : Nat} {m : Mst} (en : Env b nb m) {H : List Ch} {V : Pages} (tx : InTx b H V) (hE : b.x.y.A ≤ 300000) (hn : nb ≤ 400) :
    Calls Tryz.prog 33 #[.pointer (some ⟨b.bp, 0, none⟩)] w fun e w' => e = .returned (.int .i64 0) ∧ ∃ b', AboTo w w' b nb m H V b' := by
  have h1 := tx.Ele
  have h2 := en.count
  refine (abort_any h tx.st (tx.un (by omega) (by omega) en.pgn)).mono ?_
  rintro e w' ⟨he, b', st, tr, sh, hE', ht⟩
  exact ⟨he, b', st, tr, en.tr tr, ⟨ht, sh, by rw [tr.T]; exact tx.t0, by rw [tr.T]; exact tx.t1⟩, hE'⟩
/-- Put. -/
theorem put_to {w : World} {b : Bk} (h : BkAt w b) {nb : Nat} {m : Mst} (en : Env b nb m) {H : List Ch} {V : Pages} (tx : InTx b H V) {page : Nat} (hp : page < b.x.pages) {g c : Nat} {data : List UInt8} (hd : data.length = 512) (hc : 512 ≤ c) (hb : BytesAt w (some ⟨g, 0, none⟩) data) (hgo : g ∉ b.dp :: b.x.own) (hE : b.x.y.E ≤ 390000) :
    Calls Tryz.prog 31 #[.pointer (some ⟨b.bp, 0, none⟩), .int .i64 (page : Int), .slice (some ⟨g, 0, none⟩) 512 c] w fun e w' => ∃ r : Int, e = .returned (.int .i64 r) ∧ ∃ S : List SpE, S.map (fun e => (e.off, e.off + e.n)) = diffS (V page) data ∧ PutTo w w' b H V page data S r := put_in h tx hp en.pgn hd hc hb hgo hE
end Go.Proofs.YtopaeomjndblkaaGreat

namespace Go.Proofs.YtopaeomjndblkaaGreat
open Go.RowKit Go.Maps
open Pg (SpE diffS byteAt)

theorem BkAt.blk {w w' : World} {b : Bk} (h : BkAt w b) {g : Nat} {l : List UInt8} (hb : Blk w g l) (f : Fr [g] w w') (ho : g ∉ b.x.own) : BkAt w' b := by
  have e1 : b.bp ≠ g := fun e => by
    have h1 := h.box
    unfold BBox at h1
    rw [e] at h1
    have h2 : w.heap[g]? = some (.cells (arr l) 5) := hb
    rw [h2] at h1
    simp at h1
  have e2 : b.dp ≠ g := fun e => by
    have h1 := h.dl
    unfold DlAt at h1
    rw [e] at h1
    have h2 : w.heap[g]? = some (.cells (arr l) 5) := hb
    rw [h2] at h1
    simp at h1
  have e3 : b.x.pp ≠ g := fun e => by
    have h1 := h.po.box
    unfold PBox' at h1
    rw [e] at h1
    have h2 : w.heap[g]? = some (.cells (arr l) 5) := hb
    rw [h2] at h1
    simp at h1
  refine h.kept f (by simpa using e1) (by simpa using e2) (fun k hk hm => ?_)
  have e : k = g := by simpa using hm
  subst e
  rcases List.mem_cons.1 hk with e | e
  · exact e3 e.symm
  · exact ho e
/-- A book that a law has made itself, and what else it holds: K, blocks that are none of the book's. -/
structure Ab (w0 w : World) (bp : Nat) (b : Bk) (K : List (Nat × Obj)) : Prop where
  bk : BkAt w b
  fr : Fr [] w0 w
  new : ∀ k ∈ b.dp :: b.x.own, w0.heap.size ≤ k
  ebp : b.bp = bp
  kp : ∀ p ∈ K, w.heap[p.1]? = some p.2 ∧ p.1 ∉ b.dp :: b.x.own
theorem Ab.go {w0 w w' : World} {bp : Nat} {b b' : Bk} {K : List (Nat × Obj)} (h : Ab w0 w bp b K) (st : BStep w w' b b') : Ab w0 w' bp b' K := by
  refine ⟨st.at', h.fr.then st.fr (fun i hi hm => by have := h.new i hm; omega), fun k hk => ?_, st.bp.trans h.ebp, fun p hp => ⟨st.fr.same (h.kp p hp).2 (h.kp p hp).1, fun hm => ?_⟩⟩
  · rcases List.mem_cons.1 hk with e | e
    · rw [e, st.dp]
      exact h.new _ List.mem_cons_self
    · rcases st.ow k e with h1 | h1
      · exact h.new k (List.mem_cons_of_mem _ h1)
      · exact Nat.le_trans h.fr.size h1
  · rcases List.mem_cons.1 hm with e | e
    · exact (h.kp p hp).2 (by rw [e, st.dp]; exact List.mem_cons_self)
    · rcases st.ow _ e with h1 | h1
      · exact (h.kp p hp).2 (List.mem_cons_of_mem _ h1)
      · have := (Array.getElem?_eq_some_iff.1 (h.kp p hp).1).1
        omega
theorem Ab.quiet {w0 w w' : World} {bp : Nat} {b : Bk} {K : List (Nat × Obj)} (h : Ab w0 w bp b K) (f : Fr [] w w') : Ab w0 w' bp b K := ⟨h.bk.quiet f, h.fr.trans f, h.new, h.ebp, fun p hp => ⟨f.same (by simp) (h.kp p hp).1, (h.kp p hp).2⟩⟩
theorem Ab.less {w0 w : World} {bp : Nat} {b : Bk} {K K' : List (Nat × Obj)} (h : Ab w0 w bp b K) (hk : ∀ p ∈ K', p ∈ K) : Ab w0 w bp b K' := ⟨h.bk, h.fr, h.new, h.ebp, fun p hp => h.kp p (hk p hp)⟩
theorem Ab.add {w0 w : World} {bp : Nat} {b : Bk} {K : List (Nat × Obj)} (h : Ab w0 w bp b K) {g : Nat} {o : Obj} (hg : w.heap[g]? = some o) (hn : g ∉ b.dp :: b.x.own) : Ab w0 w bp b ((g, o) :: K) := ⟨h.bk, h.fr, h.new, h.ebp, fun p hp => by
  rcases List.mem_cons.1 hp with rfl | hp
  · exact ⟨hg, hn⟩
  · exact h.kp p hp⟩
/-- A block that is none of the book's is turned. -/
theorem Ab.put {w0 w w' : World} {bp : Nat} {b : Bk} {K : List (Nat × Obj)} (h : Ab w0 w bp b K) {g : Nat} (f : Fr [g] w w') (h1 : b.bp ≠ g) (h2 : g ∉ b.dp :: b.x.own) (h3 : b.x.pp ≠ g) (hg : w0.heap.size ≤ g) (hK : ∀ p ∈ K, p.1 ≠ g) : Ab w0 w' bp b K :=
  ⟨h.bk.kept f (by simpa using h1) (fun e => h2 (by simp at e; simp [e])) (fun k hk e => by
    have e' : k = g := by simpa using e
    subst e'
    rcases List.mem_cons.1 hk with e | e
    · exact h3 e.symm
    · exact h2 (List.mem_cons_of_mem _ e)), h.fr.then f (fun i hi hm => by simp at hm; omega), h.new, h.ebp, fun p hp => ⟨f.same (by simpa using hK p hp) (h.kp p hp).1, (h.kp p hp).2⟩⟩
/-- Blocks of types that a book has not, are none of its own. -/
theorem BkAt.away {w : World} {b : Bk} (h : BkAt w b) {g : Nat} {cur : Array Value} {t : TypeId} (hg : w.heap[g]? = some (.cells cur t)) (h1 : t ≠ 223 ∧ t ≠ 180 ∧ t ≠ 5 ∧ t ≠ 2) (h2 : t ≠ 162 ∧ t ≠ 159 ∧ t ≠ 157) (h3 : t ≠ 148) (h4 : t ≠ 168 ∧ t ≠ 75) : b.bp ≠ g ∧ g ∉ b.dp :: b.x.own ∧ b.x.pp ≠ g := by
  have h5 := po_notin h.po hg h1 h2 h3
  refine ⟨fun e => ?_, fun hm => ?_, fun e => h5 (by rw [e]; exact List.mem_cons_self)⟩
  · have h6 := h.box
    unfold BBox at h6
    rw [e, hg] at h6
    cases h6
    exact h4.2 rfl
  · rcases List.mem_cons.1 hm with e | e
    · have h6 := h.dl
      unfold DlAt at h6
      rw [← e, hg] at h6
      cases h6
      exact h4.1 rfl
    · exact h5 (List.mem_cons_of_mem _ e)
theorem BkAt.awayB {w : World} {b : Bk} (h : BkAt w b) {g : Nat} {cur : Array Value} (hg : w.heap[g]? = some (.cells cur 5)) : b.bp ≠ g ∧ b.x.pp ≠ g := by
  refine ⟨fun e => ?_, fun e => ?_⟩
  · have h6 := h.box
    unfold BBox at h6
    rw [e, hg] at h6
    simp at h6
  · have h6 := h.po.box
    unfold PBox' at h6
    rw [e, hg] at h6
    simp at h6
theorem Ab.blk {w0 w w' : World} {bp : Nat} {b : Bk} {K : List (Nat × Obj)} (h : Ab w0 w bp b K) {g : Nat} {cur : Array Value} (hb : w.heap[g]? = some (.cells cur 5)) (f : Fr [g] w w') (ho : g ∉ b.dp :: b.x.own) (hg : w0.heap.size ≤ g) (hK : ∀ p ∈ K, p.1 ≠ g) : Ab w0 w' bp b K := h.put f (h.bk.awayB hb).1 ho (h.bk.awayB hb).2 hg hK
section
variable {w0 w : World} {bp : Nat} {b : Bk} {K : List (Nat × Obj)} (h : Ab w0 w bp b K) {nb : Nat} {m : Mst} (en : Env b nb m)
include h
theorem ab_page {V : Pages} (hv : Shows b.x V) {page : Nat} (hp : page < b.x.pages) :
    Calls Tryz.prog 28 #[.pointer (some ⟨bp, 0, none⟩), .int .i64 (page : Int)] w fun e w' => ∃ g b', e = .returned (.tuple #[.slice (some ⟨g, 0, none⟩) 512 512, .int .i64 0]) ∧ Hid (Ab w0 w' bp b' K ∧ PgTo w w' b (V page) g b') := by
  have h1 := page_to h.bk hv hp
  rw [h.ebp] at h1
  refine h1.mono ?_
  rintro e w' ⟨g, b', he, P⟩
  exact ⟨g, b', he, hidI ⟨h.go P.st, P⟩⟩
include en
theorem ab_beg {V : Pages} (hi : Idle b V) (hs : m.seq ≤ 1000000) :
    Calls Tryz.prog 30 #[.pointer (some ⟨bp, 0, none⟩)] w fun e w' => e = .returned (.int .i64 0) ∧ ∃ b' m', Hid (Ab w0 w' bp b' K ∧ BegTo w w' b nb m V b' m') := by
  have h1 := beg_to h.bk en hi hs
  rw [h.ebp] at h1
  refine h1.mono ?_
  rintro e w' ⟨he, b', m', B⟩
  exact ⟨he, b', m', hidI ⟨h.go B.st, B⟩⟩
theorem ab_com {H : List Ch} {V : Pages} (tx : InTx b H V) (hE : b.x.y.E ≤ 399000) :
    Calls Tryz.prog 32 #[.pointer (some ⟨bp, 0, none⟩)] w fun e w' => e = .returned (.int .i64 0) ∧ ∃ b', Hid (Ab w0 w' bp b' K ∧ ComTo w w' b nb m V b') := by
  have h1 := com_to h.bk en tx hE
  rw [h.ebp] at h1
  refine h1.mono ?_
  rintro e w' ⟨he, b', B⟩
  exact ⟨he, b', hidI ⟨h.go B.st, B⟩⟩
theorem ab_abo {H : List Ch} {V : Pages} (tx : InTx b H V) (hE : b.x.y.A ≤ 300000) (hn : nb ≤ 400) :
    Calls Tryz.prog 33 #[.pointer (some ⟨bp, 0, none⟩)] w fun e w' => e = .returned (.int .i64 0) ∧ ∃ b', Hid (Ab w0 w' bp b' K ∧ AboTo w w' b nb m H V b') := by
  have h1 := abo_to h.bk en tx hE hn
  rw [h.ebp] at h1
  refine h1.mono ?_
  rintro e w' ⟨he, b', B⟩
  exact ⟨he, b', hidI ⟨h.go B.st, B⟩⟩
theorem ab_put {H : List Ch} {V : Pages} (tx : InTx b H V) {page : Nat} (hp : page < b.x.pages) {g c : Nat} {data : List UInt8} (hd : data.length = 512) (hc : 512 ≤ c) (hb : BytesAt w (some ⟨g, 0, none⟩) data) (hgo : g ∉ b.dp :: b.x.own) (hE : b.x.y.E ≤ 390000) :
    Calls Tryz.prog 31 #[.pointer (some ⟨bp, 0, none⟩), .int .i64 (page : Int), .slice (some ⟨g, 0, none⟩) 512 c] w fun e w' => ∃ r : Int, e = .returned (.int .i64 r) ∧ Hid (∃ S : List SpE, S.map (fun e => (e.off, e.off + e.n)) = diffS (V page) data ∧ ((r = 5 ∧ b.room < keptOf H + 35 + sumN S ∧ ∃ b', Ab w0 w' bp b' K ∧ PutNo w w' b H V b') ∨ (r = 0 ∧ keptOf H + 35 + sumN S ≤ b.room ∧ ∃ b' H', Ab w0 w' bp b' K ∧ PutOk w w' b H V page data S b' H'))) := by
  have h1 := put_to h.bk en tx hp hd hc hb hgo hE
  rw [h.ebp] at h1
  refine h1.mono ?_
  rintro e w' ⟨r, he, S, hS, pt⟩
  refine ⟨r, he, hidI ⟨S, hS, ?_⟩⟩
  rcases pt with ⟨h1, h2, b', h3⟩ | ⟨h1, h2, b', H', h3⟩
  · exact Or.inl ⟨h1, h2, b', h.go h3.st, h3⟩
  · exact Or.inr ⟨h1, h2, b', H', h.go h3.st, h3⟩
end
theorem PutOk.env {w w' : World} {b : Bk} {H : List Ch} {V : Pages} {page : Nat} {data : List UInt8} {S : List SpE} {b' : Bk} {H' : List Ch} (h : PutOk w w' b H V page data S b' H') {nb : Nat} {m : Mst} (en : Env b nb m) : Env b' nb m := en.tr h.tr
end Go.Proofs.YtopaeomjndblkaaGreat

namespace Go.Proofs.YtopaeomjndblkaaGreat
open Go.RowKit Go.Maps
open Pg (SpE diffS byteAt)

def p57 : List UInt8 := (zs 512).set 5 7
theorem BegTo.ab {w w' : World} {b b' : Bk} {nb : Nat} {m m' : Mst} {V : Pages} (h : BegTo w w' b nb m V b' m') {a : Nat} (h1 : b.x.y.A ≤ a) (h2 : b.x.y.E ≤ a) : b'.x.y.A ≤ a := by
  rcases h.A with e | e <;> omega
def V0 : Pages := fun _ => zs 512
def V1 : Pages := setPg V0 0 p57
end Go.Proofs.YtopaeomjndblkaaGreat

namespace Go.Proofs.YtopaeomjndblkaaGreat
open Go.RowKit Go.Maps Go.Conc

/-- As Code.wp, for frames of ordinary calls. -/
def wpN (P : Program) (c : Code) (Q : Exit → Act → World → Prop) (a : Act) (w : World) : Prop :=
  ∀ (b : Frame) (k : List Item) (cs : List Frame), b.kind ≠ .early → ∃ e a' w', Q e a' w' ∧ Arrives P (lone (b.at a (.code c :: k)) cs w) b k cs e a' w'
section
variable {P : Program} {Q : Exit → Act → World → Prop} {a : Act} {w : World}
theorem wpN_of {c : Code} (h : c.wp P Q a w) : wpN P c Q a w := fun b k cs _ => h b k cs
theorem wpN_seqN {x y : Code} (h : wpN P x (Exit.then (wpN P y Q) Q) a w) : wpN P (Code.seq x y) Q a w := by
  intro b k cs hk
  obtain ⟨e, a₁, w₁, hq, harr⟩ := h b (.code y :: k) cs hk
  cases e with
  | normal =>
    obtain ⟨e₂, a₂, w₂, hq₂, harr₂⟩ := hq b k cs hk
    exact ⟨e₂, a₂, w₂, hq₂, .of_steps (.head step_seq harr) harr₂⟩
  | exit id => exact ⟨_, a₁, w₁, hq, .of_steps (.one step_seq) (.pass (x := .code y) rfl (fun _ _ => .inl (by simp)) harr)⟩
  | goto l => exact ⟨_, a₁, w₁, hq, .of_steps (.one step_seq) (.pass (x := .code y) rfl (fun _ _ => .inl (by simp)) harr)⟩
  | ret => exact ⟨_, a₁, w₁, hq, .of_steps (.one step_seq) (.pass (x := .code y) rfl (fun _ _ => .inl (by simp)) harr)⟩
  | panic ch => exact ⟨_, a₁, w₁, hq, .of_steps (.one step_seq) (.pass (x := .code y) rfl (fun _ _ => .inl (by simp)) harr)⟩
  | outgrown => exact ⟨_, a₁, w₁, hq, .of_steps (.one step_seq) (.pass (x := .code y) rfl (fun _ _ => .inl (by simp)) harr)⟩
theorem wpN_seq {x y : Code} (h : x.wp P (Exit.then (wpN P y Q) Q) a w) : wpN P (Code.seq x y) Q a w := wpN_seqN (wpN_of h)
/-- A block that is left by a return. -/
theorem wpN_block_ret {id : Nat} {c : Code} (h : wpN P c (fun e a w => e = .ret ∧ Q .ret a w) a w) : wpN P (Code.block id c) Q a w := by
  intro b k cs hk
  obtain ⟨e, a₁, w₁, ⟨rfl, hq⟩, harr⟩ := h b (.inBlock id :: k) cs hk
  obtain ⟨todo, hs⟩ := harr
  exact ⟨.ret, a₁, w₁, hq, todo, .head step_block hs⟩
/-- A loop that is left by a return in its first round. -/
theorem wpN_loop_ret {c : Code} (h : wpN P c (fun e a w => e = .ret ∧ Q .ret a w) a w) : wpN P (Code.loop c) Q a w := by
  intro b k cs hk
  obtain ⟨e, a₁, w₁, ⟨rfl, hq⟩, harr⟩ := h b (.inLoop c :: k) cs hk
  obtain ⟨todo, hs⟩ := harr
  exact ⟨.ret, a₁, w₁, hq, todo, .head step_loop hs⟩
theorem calls_of_wpN {f : FuncId} {fn : Func} {c : Code} {args : Array Value} {R : Ending → World → Prop}
    (hf : P.funcs[f]? = some fn) (hb : fn.body = some c)
    (h : wpN P c (bodyPost P fn R) { tmps := args ++ Array.replicate (fn.ntmps - args.size) undef, defers := [] } w) :
    Calls P f args w R := by
  intro cs
  let b : Frame := { (default : Frame) with fn := f, kind := .normal }
  have henter : Frame.enter P f args .normal =
      b.at { tmps := args ++ Array.replicate (fn.ntmps - args.size) undef, defers := [] } [.code c] := by
    simp [Frame.enter, Frame.at, hf, hb, b]
  obtain ⟨e, a', w', hq, harr⟩ := h b [] cs (by simp [b])
  rw [← henter] at harr
  cases e with
  | normal =>
    obtain ⟨hd, v, hr, hR⟩ := hq
    exact ⟨.returned v, w', _, hR, Steps.trans harr (.one step_end), rfl, rfl, hd, rfl, fn, hf, hr⟩
  | ret =>
    obtain ⟨hd, v, hr, hR⟩ := hq
    obtain ⟨todo, hs⟩ := harr
    exact ⟨.returned v, w', _, hR, hs, rfl, rfl, hd, rfl, fn, hf, hr⟩
  | panic chain =>
    obtain ⟨hd, hR⟩ := hq
    obtain ⟨todo, hs⟩ := harr
    exact ⟨.panicked chain, w', _, hR, hs, rfl, rfl, hd, fn, hf⟩
  | exit id => exact hq.elim
  | goto l => exact hq.elim
  | outgrown => exact ⟨.outgrown, w', b, hq, harr.resolve_left (by simp [b]), rfl, trivial⟩
theorem res_r0 (c : Nat) (z v : Value) (ok : Bool) : commResult #[rcase c z] .select ((0 : Nat) : Int) v ok = .tuple #[goInt 0, .bool ok, v] := by
  simp [commResult, rcase]
/-- A region that begins with a select of one receive, from a closed channel without anything. -/
theorem wpN_sel_shut {id : Nat} {ops : Array Oper} {o : Oper} {rest : List Nat} {c cap s r : Nat} {tm bl : Bool} {z : Value} (hl : List.range ops.size = 0 :: rest) (ho : ops[0]? = some o) (hw : Region.wanted o (yielded ops a.tmps) = true) (hr : (execOp a.eval o).run P w = .ok (.comm #[rcase c z] bl .select) w) (hc : w.heap[c]? = some (.chan cap #[] true s r tm))
    (h : wpOps P ops Q rest (a.put o.dst (.tuple #[goInt 0, .bool false, z])) w) : wpN P (Code.region id ops false) Q a w := by
  intro b k cs hk
  obtain ⟨e, a', w', q, arr⟩ := wp_ops rest _ w h b k cs
  refine ⟨e, a', w', q, .of_steps (.one step_region) (.of_steps (.one ?_) arr)⟩
  rw [hl, lone_eq_solo]
  have h1 := step_lone_sel_recv_shut (k := 0) (c := c) (z := z) (stepG_comm (main := true) (b := b) (a := a) (k := k) (cs := cs) (rest := rest) ho hw hk hr) rfl (fun m c' hm hc' => by
    rcases m with _ | m
    · exact absurd rfl hm
    · simp at hc') hc
  rw [h1, Frame.finish_at, res_r0]
  simp only [ho, Option.bind_some]
  rfl
end
end Go.Proofs.YtopaeomjndblkaaGreat

