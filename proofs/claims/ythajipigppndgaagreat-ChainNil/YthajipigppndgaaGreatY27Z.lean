/-
  The book's write: steps are made of spans, then done.
-/
import Derived.Test.YthajipigppndgaaGreatY26Z
namespace Go.Proofs.YthajipigppndgaaGreat
open Go.RowKit Go.Maps
open Pg (SpE diffS)

/-- What stays of a book, whatever a transaction does. -/
structure Tr (b b' : Bk) : Prop where
  pages : b'.x.pages = b.x.pages
  start : b'.x.start = b.x.start
  most : b'.x.most = b.x.most
  nb : b'.x.y.nb = b.x.y.nb
  first : b'.x.y.first = b.x.y.first
  count : b'.x.y.count = b.x.y.count
  T : b'.x.y.T = b.x.y.T
  A : b'.x.y.A = b.x.y.A
  lw : b'.x.y.lw = b.x.y.lw
  low : ∀ k : Int, k < b.x.y.lw → Dv.latest b'.x.y.S b'.x.y.O k = Dv.latest b.x.y.S b.x.y.O k
theorem Tr.refl (b : Bk) : Tr b b := ⟨rfl, rfl, rfl, rfl, rfl, rfl, rfl, rfl, rfl, fun _ _ => rfl⟩
theorem Tr.trans {a b c : Bk} (h : Tr a b) (k : Tr b c) : Tr a c := ⟨k.pages.trans h.pages, k.start.trans h.start, k.most.trans h.most, k.nb.trans h.nb, k.first.trans h.first, k.count.trans h.count, k.T.trans h.T, k.A.trans h.A, k.lw.trans h.lw, fun i hi => (k.low i (by rw [h.lw]; exact hi)).trans (h.low i hi)⟩
theorem Tr.pool {b : Bk} {x' : Po} {t' : Dl} (k : Kin b.x.y x'.y) (h1 : x'.pages = b.x.pages) (h2 : x'.start = b.x.start) (h3 : x'.most = b.x.most) : Tr b { b with x := x', t := t' } := ⟨h1, h2, h3, k.nb, k.first, k.count, k.T, k.A, k.lw, k.low⟩
theorem Tr.appd {b : Bk} {y' : Lo} {t' : Dl} {N : Nat} {r : Rec} (k : Appd b.x.y y' N r) : Tr b { b with x := { b.x with y := y' }, t := t' } := ⟨rfl, rfl, rfl, k.nb, k.first, k.count, k.T, k.A, k.lw, fun i _ => by show Dv.latest y'.S y'.O i = _; rw [k.S, k.O]⟩
theorem Shows.appd {x : Po} {V : Pages} {y' : Lo} {N : Nat} {r : Rec} (h : Shows x V) (k : Appd x.y y' N r) : Shows { x with y := y' } V := h.alike (val_y (fun q _ => by unfold pgD; rw [k.S, k.O]))
def SpBox (w : World) (sb pg off bo bn n : Nat) : Prop := w.heap[sb]? = some (.cells #[.int .i64 (pg : Int), .int .i64 (off : Int), .slice (some ⟨bo, 0, none⟩) n n, .slice (some ⟨bn, 0, none⟩) n n] 146)
set_option maxRecDepth 100000 in
theorem write1_any {w : World} {b : Bk} (h : BkAt w b) (ok : TxOk b) {B sb : Nat} (hB : w.heap[B]? = some (.cells #[.pointer (some ⟨b.bp, 0, none⟩)] 32)) {pg off bo bn n : Nat} (hs : SpBox w sb pg off bo bn n) {old new : List UInt8} (ho : Blk w bo old) (hn : Blk w bn new) (h1 : old.length = n) (h2 : new.length = n) (h0 : 0 < n) (hf : off + n ≤ 512) (hp : pg < 65536) (hroom : ((43 + 2 * n : Nat) : Int) ≤ 408 * (b.x.y.count - 1) - ((b.x.y.E : Int) - (b.x.y.A : Int))) (hE : b.x.y.E + (43 + 2 * n) ≤ 400000) (hc0 : 0 ≤ b.t.chg) (hc1 : b.t.chg ≤ 1000000) (hk0 : 0 ≤ b.t.kept) (hk1 : b.t.kept ≤ 1000000) :
    Calls Tryz.prog 156 #[.pointer (some ⟨B, 0, none⟩), .pointer (some ⟨sb, 0, none⟩)] w fun e w' => e = .returned (.int .i64 0) ∧ ∃ y', Appd b.x.y y' (43 + 2 * n) (txRec b.t (chRec pg off old new)) ∧ BStep w w' b { b with x := { b.x with y := y' }, t := { b.t with chg := b.t.chg + 1, last := (b.x.y.E : Int) + 1, next := (b.x.y.E : Int) + 1, kept := b.t.kept + (51 + (n : Int)) } } := by
  have HC := hidI (logChange_any h ok ho hn h1 h2 h0 hf hp hroom hE hc0 hc1 hk0 hk1)
  have c0 := cell_of_row w B 0 _ _ _ hB
  have b0 := cell_of_row w sb 0 _ _ _ hs
  have b1 := cell_of_row w sb 1 _ _ _ hs
  have b2 := cell_of_row w sb 2 _ _ _ hs
  have b3 := cell_of_row w sb 3 _ _ _ hs
  clear h ok hB hs ho hn h1 h2 h0 hf hp hroom hE hc0 hc1 hk0 hk1
  go_enter Tryz.func156, Tryz.ntmps156
  go_wp2_with fail
  refine HC.out.mono ?_
  rintro e w2 ⟨rfl, h2⟩
  go_wp2_with fail
  go_ret
  exact ⟨rfl, h2⟩
theorem Chg.pages {x x'' : Po} {page off : Nat} {l : List UInt8} {lsn : Int} (h : Chg x x'' page off l lsn) (hn : ((ids x.fs).map (·.1)).Nodup) : x''.pages = x.pages ∧ x''.start = x.start ∧ x''.most = x.most ∧ x''.pp = x.pp := by
  obtain ⟨f, x', j, hf, _, rfl⟩ := h
  obtain ⟨⟨h1, h2, h3, h4, _⟩, _⟩ := hf.alike hn
  exact ⟨h2, h1, h3, h4⟩
theorem Shows.chg {w w' : World} {x x'' : Po} (hx : PoAt w x) (hx2 : PoAt w' x'') {V : Pages} (h : Shows x V) {page off : Nat} {l : List UInt8} {lsn : Int} (k : Chg x x'' page off l lsn) : Shows x'' (setPg V page (over (V page) off l)) := by
  have hpg := k.pages hx.nod
  intro q hq
  rw [hpg.1] at hq
  obtain ⟨_, _, _, _, _, _, hne, heq⟩ := k.val hx.nod hx2.nod
  unfold setPg
  by_cases e : q = page
  · subst e
    rw [if_pos rfl]
    exact heq _ (h q hq)
  · rw [if_neg e]
    exact hne q hq e _ (h q hq)
set_option maxHeartbeats 1000000 in
set_option maxRecDepth 100000 in
theorem bchange_any {w : World} {b : Bk} (h : BkAt w b) {page : Nat} (hp : page < b.x.pages) (off : Nat) (a1 : Option Addr) (n1 c1 : Nat) (bn n c : Nat) (l : List UInt8) (hl : l.length = n) (hl0 : 0 < n) (hfit : off + n ≤ 512) (hb : Blk w bn l) (hbo : bn ∉ b.x.own) (lsn : Int) (hl1 : 1 ≤ lsn) (hl2 : lsn ≤ (b.x.y.E : Int)) :
    Calls Tryz.prog 159 #[.pointer (some ⟨b.x.pp, 0, none⟩), .agg #[.int .i64 (page : Int), .int .i64 (off : Int), .slice a1 n1 c1, .slice (some ⟨bn, 0, none⟩) n c], .int .i64 lsn] w fun e w' => e = .returned (.int .i64 0) ∧ ∃ x'', Chg b.x x'' page off l lsn ∧ BStep w w' b { b with x := x'' } := by
  subst hl
  refine (change_any h.po hp off a1 n1 c1 (some ⟨bn, 0, none⟩) c l hl0 hfit hb.bytes (fun b' o e => by cases e; exact hbo) lsn hl1 hl2).mono ?_
  rintro e w' (⟨rfl, hbz, _⟩ | ⟨f, x', j, rfl, st, hf, hj⟩)
  · exact (hbz.no h.hd0 h.po.m0).elim
  · have hc : Chg b.x { x' with fs := x'.fs.set j (f.changed off l lsn) } page off l lsn := ⟨f, x', j, hf, hj, rfl⟩
    have k := hc.kin
    exact ⟨rfl, _, hc, BStep.pool h st k.d k.p (hc.pages h.po.nod).2.2.2 (hc.hd0 h.hd0) ⟨by rw [k.ls]; exact h.ls.rise, by rw [k.ls, k.A, k.E]; exact h.ls.le⟩⟩
set_option maxHeartbeats 1000000 in
set_option maxRecDepth 100000 in
theorem write2_any {w : World} {b : Bk} (h : BkAt w b) {B sb : Nat} (hB : w.heap[B]? = some (.cells #[.pointer (some ⟨b.bp, 0, none⟩)] 32)) {pg off bo bn n : Nat} (hs : SpBox w sb pg off bo bn n) (hp : pg < b.x.pages) {new : List UInt8} (hn : Blk w bn new) (h2 : new.length = n) (h0 : 0 < n) (hf : off + n ≤ 512) (hbo : bn ∉ b.x.own) (hl1 : 1 ≤ b.t.last) (hl2 : b.t.last ≤ (b.x.y.E : Int)) :
    Calls Tryz.prog 158 #[.pointer (some ⟨B, 0, none⟩), .pointer (some ⟨sb, 0, none⟩)] w fun e w' => e = .returned (.int .i64 0) ∧ ∃ x'', Chg b.x x'' pg off new b.t.last ∧ BStep w w' b { b with x := x'' } := by
  have HC : Hid (∀ w', Fr [] w w' → Calls Tryz.prog 159 #[.pointer (some ⟨b.x.pp, 0, none⟩), .agg #[.int .i64 (pg : Int), .int .i64 (off : Int), .slice (some ⟨bo, 0, none⟩) n n, .slice (some ⟨bn, 0, none⟩) n n], .int .i64 b.t.last] w' fun e w'' => e = .returned (.int .i64 0) ∧ ∃ x'', Chg b.x x'' pg off new b.t.last ∧ BStep w w'' b { b with x := x'' }) := hidI (fun w' f => by
    refine (bchange_any (h.quiet f) hp off _ n n bn n n new h2 h0 hf (hn.kept f (by simp)) hbo b.t.last hl1 hl2).mono ?_
    rintro e w'' ⟨he, x'', hc, st⟩
    exact ⟨he, x'', hc, (BStep.quiet h f).trans st⟩)
  have c0 := cell_of_row w B 0 _ _ _ hB
  have b0 := cell_of_row w sb 0 _ _ _ hs
  have b1 := cell_of_row w sb 1 _ _ _ hs
  have b2 := cell_of_row w sb 2 _ _ _ hs
  have b3 := cell_of_row w sb 3 _ _ _ hs
  have e2 : w.cell? ⟨b.bp, 2, none⟩ = some (.pointer (some ⟨b.x.pp, 0, none⟩)) := h.box.c2
  have e3 : w.cell? ⟨b.bp, 3, none⟩ = some (.pointer (some ⟨b.dp, 0, none⟩)) := h.box.c3
  have d3 := h.dl.c3
  clear h hB hs hp hn h2 h0 hf hbo hl1 hl2
  go_enter Tryz.func158, Tryz.ntmps158
  go_wp2_with fail
  go_region_law ((go_simp; go_at_call 159; refine (HC.out _ (Fr.refl [] w).drew).mono ?_; rintro e w2 ⟨rfl, h2⟩))
  all_goals
    go_wp2_with fail
    go_ret
    exact ⟨rfl, h2⟩
end Go.Proofs.YthajipigppndgaaGreat

namespace Go.Proofs.YthajipigppndgaaGreat
open Go.RowKit Go.Maps
open Pg (SpE diffS mixL lastE)

def logN : List SpE → Nat
  | [] => 0
  | e :: S => 43 + 2 * e.n + logN S
def undN : List SpE → Int
  | [] => 0
  | e :: S => 51 + (e.n : Int) + undN S
theorem sumN_eq : ∀ S : List SpE, sumN S = (logN S : Int) + undN S
  | [] => by simp [sumN, logN, undN]
  | e :: S => by
    have := sumN_eq S
    simp only [sumN, logN, undN]
    omega
theorem logN_app (S T : List SpE) : logN (S ++ T) = logN S + logN T := by
  induction S with
  | nil => simp [logN]
  | cons e S ih => simp [logN, ih]; omega
theorem undN_app (S T : List SpE) : undN (S ++ T) = undN S + undN T := by
  induction S with
  | nil => simp [undN]
  | cons e S ih => simp [undN, ih]; omega
theorem undN_nonneg : ∀ S : List SpE, 0 ≤ undN S
  | [] => by simp [undN]
  | e :: S => by
    have := undN_nonneg S
    simp only [undN]
    omega
theorem logN_take (S : List SpE) {k : Nat} {e : SpE} (h : S[k]? = some e) : logN (S.take (k + 1)) = logN (S.take k) + (43 + 2 * e.n) := by
  rw [List.take_add_one, h, logN_app]
  simp [logN]
theorem undN_take (S : List SpE) {k : Nat} {e : SpE} (h : S[k]? = some e) : undN (S.take (k + 1)) = undN (S.take k) + (51 + (e.n : Int)) := by
  rw [List.take_add_one, h, undN_app]
  simp [undN]
theorem logN_le (S : List SpE) (k : Nat) : logN (S.take k) ≤ logN S := by
  have h := logN_app (S.take k) (S.drop k)
  rw [List.take_append_drop] at h
  omega
theorem undN_le (S : List SpE) (k : Nat) : undN (S.take k) ≤ undN S := by
  have h := undN_app (S.take k) (S.drop k)
  rw [List.take_append_drop] at h
  have := undN_nonneg (S.drop k)
  omega
/-- The page as it is with the first k spans put. -/
def mixK (la lb : List UInt8) (k : Nat) : List UInt8 := mixL la lb (lastE (diffS la lb) k)
/-- Spans of two pages, one of them. -/
structure SpOk (la lb : List UInt8) (k : Nat) (e : SpE) : Prop where
  n0 : 0 < e.n
  fit : e.off + e.n ≤ 512
  old : ((la.drop e.off).take e.n).length = e.n
  new : ((lb.drop e.off).take e.n).length = e.n
  was : ((mixK la lb k).drop e.off).take e.n = (la.drop e.off).take e.n
  len : (mixK la lb k).length = 512
  put : over (mixK la lb k) e.off ((lb.drop e.off).take e.n) = mixK la lb (k + 1)
theorem spOk {la lb : List UInt8} (ha : la.length = 512) (hb : lb.length = 512) {S : List SpE} (hS : S.map (fun e => (e.off, e.off + e.n)) = diffS la lb) {k : Nat} {e : SpE} (he : S[k]? = some e) : SpOk la lb k e := by
  obtain ⟨hk, hke⟩ := List.getElem?_eq_some_iff.1 he
  have hkd : k < (diffS la lb).length := by rw [← hS, List.length_map]; exact hk
  have hde : (diffS la lb)[k]'hkd = (e.off, e.off + e.n) := by
    have h1 : (diffS la lb)[k]? = some (e.off, e.off + e.n) := by rw [← hS, List.getElem?_map, he]; rfl
    exact (List.getElem?_eq_some_iff.1 h1).2
  have ok := Pg.diff_tok la lb k hkd
  rw [hde] at ok
  have k1 := ok.lt
  have k2 := ok.le
  have k3 := ok.gap
  dsimp only at k1 k2 k3
  have hL : lastE (diffS la lb) k ≤ e.off := by omega
  refine ⟨by omega, k2, by rw [List.length_take, List.length_drop]; omega, by rw [List.length_take, List.length_drop]; omega, ?_, Pg.mixL_length la lb _ ha hb (by omega), ?_⟩
  · congr 1
    unfold mixK mixL
    rw [List.drop_append, List.drop_of_length_le (by rw [List.length_take]; omega), List.nil_append, List.drop_drop]
    congr 1
    rw [List.length_take]
    omega
  · have h1 := Pg.mixL_step la lb _ _ _ ha hb hL ok
    dsimp only at h1
    rw [show e.off + e.n - e.off = e.n by omega] at h1
    unfold mixK
    rw [Pg.lastE_succ _ k hkd, hde]
    exact h1
theorem mixK_zero (la lb : List UInt8) : mixK la lb 0 = la := Pg.mixL_zero la lb
theorem mixK_all {la lb : List UInt8} (ha : la.length = 512) (hb : lb.length = 512) : mixK la lb (diffS la lb).length = lb := by
  unfold mixK
  have hle : lastE (diffS la lb) (diffS la lb).length ≤ 512 := by
    unfold lastE
    split
    · omega
    · next h0 =>
      have hl : (diffS la lb).length - 1 < (diffS la lb).length := by omega
      rw [List.getD_eq_getElem?_getD, List.getElem?_eq_getElem hl]
      exact Pg.diff_ends la lb _ (List.getElem_mem hl)
  exact Pg.mixL_all la lb _ ha hb hle (fun j h1 h2 => Pg.diff_same la lb _ (Nat.le_refl _) j h2 h1 (fun h => absurd h (by omega)))
/-- What holds when k spans are logged, and j of them done. -/
structure WInv (w : World) (b : Bk) (H : List Ch) (V : Pages) (pg : Nat) (la lb : List UInt8) (S : List SpE) (k j : Nat) (wr : World) (b' : Bk) (H' : List Ch) : Prop where
  st : BStep w wr b b'
  tr : Tr b b'
  ss : b'.t.st = b.t.st
  und : b'.t.und = b.t.und
  num : b'.t.num = b.t.num
  chg : b'.t.chg = b.t.chg + (k : Int)
  E : b'.x.y.E = b.x.y.E + logN (S.take k)
  kept : b'.t.kept = keptOf H'
  keq : keptOf H' = keptOf H + undN (S.take k)
  next : b'.t.next = nextOf H'
  last : b'.t.last = nextOf H'
  nx : 0 ≤ nextOf H' ∧ nextOf H' ≤ (b'.x.y.E : Int)
  chain : Chain b'.x.y b.t.num H'
  sh : Shows b'.x (setPg V pg (mixK la lb j))
  un : undoAll H' (setPg V pg (mixK la lb k)) = undoAll H V
  one : j < k → 1 ≤ nextOf H'
  pgs : ∀ c ∈ H', c.pg < b.x.pages
theorem setPg_same (V : Pages) (q : Nat) (l m : List UInt8) : setPg (setPg V q l) q m = setPg V q m := by
  funext k
  unfold setPg
  by_cases e : k = q <;> simp [e]
theorem setPg_at (V : Pages) (q : Nat) (l : List UInt8) : setPg V q l q = l := by simp [setPg]
theorem WInv.log {w wr wr' : World} {b : Bk} {H : List Ch} {V : Pages} {pg : Nat} {la lb : List UInt8} {S : List SpE} {k : Nat} {b' : Bk} {H' : List Ch} (h : WInv w b H V pg la lb S k k wr b' H') {e : SpE} (he : S[k]? = some e) (ok : SpOk la lb k e) (tx : TxOk b') (hE4 : b'.x.y.E ≤ 400000) (hpg : pg < 65536) (hpp : pg < b.x.pages) {y' : Lo} (ap : Appd b'.x.y y' (43 + 2 * e.n) (txRec b'.t (chRec pg e.off ((la.drop e.off).take e.n) ((lb.drop e.off).take e.n))))
    (st : BStep wr wr' b' { b' with x := { b'.x with y := y' }, t := { b'.t with chg := b'.t.chg + 1, last := (b'.x.y.E : Int) + 1, next := (b'.x.y.E : Int) + 1, kept := b'.t.kept + (51 + (e.n : Int)) } }) :
    WInv w b H V pg la lb S (k + 1) k wr' { b' with x := { b'.x with y := y' }, t := { b'.t with chg := b'.t.chg + 1, last := (b'.x.y.E : Int) + 1, next := (b'.x.y.E : Int) + 1, kept := b'.t.kept + (51 + (e.n : Int)) } } (⟨b'.x.y.E, pg, e.off, (la.drop e.off).take e.n, (lb.drop e.off).take e.n⟩ :: H') := by
  have hy := h.st.at'.po.lo
  refine ⟨h.st.trans st, h.tr.trans (Tr.appd ap), h.ss, h.und, h.num, ?_, ?_, ?_, ?_, rfl, rfl, ?_, ⟨?_, h.nx.2, ?_⟩, h.sh.appd ap, ?_, ?_, ?_⟩
  · show b'.t.chg + 1 = b.t.chg + ((k + 1 : Nat) : Int)
    rw [h.chg]
    omega
  · show y'.E = _
    rw [ap.E, h.E, logN_take S he]
    omega
  · show b'.t.kept + (51 + (e.n : Int)) = 51 + (((lb.drop e.off).take e.n).length : Int) + keptOf H'
    rw [ok.new, h.kept]
    omega
  · show 51 + (((lb.drop e.off).take e.n).length : Int) + keptOf H' = _
    rw [ok.new, h.keq, undN_take S he]
    omega
  · show 0 ≤ (b'.x.y.E : Int) + 1 ∧ (b'.x.y.E : Int) + 1 ≤ (y'.E : Int)
    rw [ap.E]
    omega
  · have hr := chRec_right tx hE4 ok.old ok.new ok.n0 ok.fit hpg
    have h1 := RecIn.new hy ap (by omega) hr
    have e1 : recOf b.t.num (y'.T : Int) (nextOf H') ⟨b'.x.y.E, pg, e.off, (la.drop e.off).take e.n, (lb.drop e.off).take e.n⟩ = { txRec b'.t (chRec pg e.off ((la.drop e.off).take e.n) ((lb.drop e.off).take e.n)) with lsn := (b'.x.y.E : Int) + 1, turn := (b'.x.y.T : Int) } := by
      unfold recOf txRec chRec
      rw [ap.T, ← h.num, ← h.last]
    show RecIn y' b'.x.y.E (recOf b.t.num (y'.T : Int) (nextOf H') _)
    rw [e1]
    exact h1
  · exact h.chain.appd hy ap
  · show undoAll H' (undo1 _ (setPg V pg (mixK la lb (k + 1)))) = _
    rw [← h.un]
    congr 1
    have h1 := undo1_do (V := setPg V pg (mixK la lb k)) (c := ⟨b'.x.y.E, pg, e.off, (la.drop e.off).take e.n, (lb.drop e.off).take e.n⟩) (by dsimp only; rw [setPg_at, ok.new, ok.was]) (by dsimp only; rw [setPg_at, ok.new, ok.len]; exact ok.fit)
    dsimp only at h1
    rw [setPg_at, setPg_same, ok.put] at h1
    exact h1
  · intro _
    show (1 : Int) ≤ (b'.x.y.E : Int) + 1
    omega
  · intro c hc
    rcases List.mem_cons.1 hc with rfl | hc
    · exact hpp
    · exact h.pgs c hc
theorem WInv.chg' {w wr wr' : World} {b : Bk} {H : List Ch} {V : Pages} {pg : Nat} {la lb : List UInt8} {S : List SpE} {k : Nat} {b' : Bk} {H' : List Ch} (h : WInv w b H V pg la lb S (k + 1) k wr b' H') {e : SpE} (ok : SpOk la lb k e) {x'' : Po} (c : Chg b'.x x'' pg e.off ((lb.drop e.off).take e.n) b'.t.last) (st : BStep wr wr' b' { b' with x := x'' }) :
    WInv w b H V pg la lb S (k + 1) (k + 1) wr' { b' with x := x'' } H' := by
  have kk := c.kin
  have hp := c.pages h.st.at'.po.nod
  refine ⟨h.st.trans st, h.tr.trans (Tr.pool (t' := b'.t) kk hp.1 hp.2.1 hp.2.2.1), h.ss, h.und, h.num, h.chg, ?_, h.kept, h.keq, h.next, h.last, ?_, h.chain.kin kk, ?_, h.un, fun h1 => absurd h1 (by omega), h.pgs⟩
  · show x''.y.E = _
    rw [kk.E, h.E]
  · show 0 ≤ nextOf H' ∧ nextOf H' ≤ (x''.y.E : Int)
    rw [kk.E]
    exact h.nx
  · have h1 := h.sh.chg h.st.at'.po st.at'.po c
    rw [setPg_at, setPg_same, ok.put] at h1
    exact h1
end Go.Proofs.YthajipigppndgaaGreat

namespace Go.Proofs.YthajipigppndgaaGreat
open Go.RowKit Go.Maps
open Pg (SpE diffS)

theorem infoSt : ∃ i, Tryz.prog.info? 53 = some i ∧ i.zero = some .nilFunc ∧ i.size = 1 ∧ i.bytes = 8 := by
  have h : (Tryz.prog.info? 53).map (fun i => (i.zero, i.size, i.bytes)) = some (some .nilFunc, 1, 8) := by kernel_rfl
  cases hi : Tryz.prog.info? 53 with
  | none => rw [hi] at h; cases h
  | some i =>
    rw [hi] at h
    simp at h
    exact ⟨i, rfl, h.1, h.2.1, h.2.2⟩
section
variable {ops : Array Oper} {rest : List Oper} {o : Oper} {a : Act} {w : World} {Q : Exit → Act → World → Prop}
/-- append of two steps. -/
theorem wp_appSt (hgd : o.guard = none) (s x : Operand) (ho : o.op = .call { callee := .builtin .append, args := #[s, x], argTypes := #[142, 142] }) (w0 : World) (ad : Option Addr) (n c : Nat) (xs : List Value) (b : Nat) (u v : Value) (hs : a.eval s = .slice ad n c) (hx : a.eval x = .slice (some ⟨b, 0, none⟩) 2 2)
    (hown : w.ownsRow w0.heap.size 53 1 (.slice ad n c) n xs) (f0 : Fr [] w0 w) (hb : w.heap[b]? = some (.cells #[u, v] 53)) (hu : u.oneCell' = true) (hv : v.oneCell' = true) (hm : n + 2 ≤ 10000)
    (h : ∀ g c' w', w'.ownsRow w0.heap.size 53 1 (.slice (some ⟨g, 0, none⟩) (n + 2) c') (n + 2) (xs ++ [u, v]) → Fr (Value.ownBlock (.slice ad n c)).toList w w' → Fr [] w0 w' → wpList Tryz.prog ops Q rest (a.put o.dst (.slice (some ⟨g, 0, none⟩) (n + 2) c')) w') : wpList Tryz.prog ops Q (o :: rest) a w :=
  wpList_plain hgd fun K hK => by
    obtain ⟨i, hi, hz, hsz, hbb⟩ := infoSt
    obtain ⟨v', w', hrun, h2, h3, h4, h5⟩ := run_append_own_at (P := Tryz.prog) w w0.heap.size 142 o.type 53 i .nilFunc 1 8 Tryz.underlying142 hi hz hsz hbb rfl (by omega) _ n xs hown ⟨b, 0, none⟩ 2 2 [u, v] (by simp)
      (by
        intro j x hx
        rw [Addr.add_mid, cell_of_row w b _ _ _ _ hb]
        simpa using hx) (by intro x hx; simp at hx; rcases hx with rfl | rfl <;> assumption) (by unfold maxLen; omega) (by omega) f0.size
    have hfr : Fr [] w0 w' := f0.grown h3 (fun j e hj => by
      have := (hown.lt j e).1
      omega)
    rcases h2.2 with ⟨e, hn0⟩ | ⟨g, c', cur, e, r⟩
    · omega
    · subst e
      unfold Oper.wp execOp
      simp [ho, resolve, invoke, builtin, hs, hx, hrun, Result.andThen]
      exact hK _ _ (h _ _ _ h2 ((Fr.refl _ _).grown h3 (fun j e _ => by simp [e])) hfr)
end
/-- The steps of the spans whose boxes are these. -/
def stepV (B : Nat) (i sb : Nat) : Value := .func (.func (if i = 0 then 156 else 158)) #[] #[.pointer (some ⟨B, 0, none⟩), .pointer (some ⟨sb, 0, none⟩)]
def stepsV (B : Nat) (bl : List Nat) : List Value := bl.flatMap fun sb => [stepV B 0 sb, stepV B 1 sb]
theorem stepsV_length (B : Nat) (bl : List Nat) : (stepsV B bl).length = 2 * bl.length := by
  induction bl with
  | nil => rfl
  | cons x r ih => simp [stepsV] at ih ⊢; omega
/-- The boxes of the first spans. -/
def Boxes (w : World) (lo pg : Nat) (S : List SpE) (bl : List Nat) : Prop := ∀ (m sb : Nat), bl[m]? = some sb → lo ≤ sb ∧ ∃ e : SpE, S[m]? = some e ∧ SpBox w sb pg e.off e.bo e.bn e.n
theorem Boxes.kept {w w' : World} {lo pg : Nat} {S : List SpE} {bl : List Nat} {L : List Nat} (h : Boxes w lo pg S bl) (f : Fr L w w') (hL : ∀ k ∈ L, ∀ cur t, w.heap[k]? = some (.cells cur t) → t ≠ 146) : Boxes w' lo pg S bl := fun m sb hm => by
  obtain ⟨h1, e, he, hb⟩ := h m sb hm
  exact ⟨h1, e, he, f.same (fun hk => hL sb hk _ _ hb rfl) hb⟩
def flB (B : Nat) (bl : List Nat) : List (FuncId × List Value) := bl.flatMap fun sb => [(156, [.pointer (some ⟨B, 0, none⟩), .pointer (some ⟨sb, 0, none⟩)]), (158, [.pointer (some ⟨B, 0, none⟩), .pointer (some ⟨sb, 0, none⟩)])]
theorem stepsV_fl (B : Nat) (bl : List Nat) : stepsV B bl = (flB B bl).map fun p => .func (.func p.1) #[] p.2.toArray := by
  induction bl with
  | nil => rfl
  | cons x r ih =>
    show stepV B 0 x :: stepV B 1 x :: stepsV B r = _
    rw [ih]
    rfl
theorem flB_length (B : Nat) (bl : List Nat) : (flB B bl).length = 2 * bl.length := by
  have h := stepsV_length B bl
  rw [stepsV_fl, List.length_map] at h
  exact h
theorem flB_at (B : Nat) : ∀ (bl : List Nat) (i : Nat) (p : FuncId × List Value), (flB B bl)[i]? = some p → ∃ m sb, bl[m]? = some sb ∧ ((i = 2 * m ∧ p = (156, [.pointer (some ⟨B, 0, none⟩), .pointer (some ⟨sb, 0, none⟩)])) ∨ (i = 2 * m + 1 ∧ p = (158, [.pointer (some ⟨B, 0, none⟩), .pointer (some ⟨sb, 0, none⟩)])))
  | [], i, p, h => by simp [flB] at h
  | x :: r, 0, p, h => ⟨0, x, rfl, Or.inl ⟨rfl, by simpa [flB] using h.symm⟩⟩
  | x :: r, 1, p, h => ⟨0, x, rfl, Or.inr ⟨rfl, by simpa [flB] using h.symm⟩⟩
  | x :: r, i + 2, p, h => by
    have e : flB B (x :: r) = (156, [.pointer (some ⟨B, 0, none⟩), .pointer (some ⟨x, 0, none⟩)]) :: (158, [.pointer (some ⟨B, 0, none⟩), .pointer (some ⟨x, 0, none⟩)]) :: flB B r := rfl
    rw [e] at h
    obtain ⟨m, sb, h1, h2⟩ := flB_at B r i p (by simpa using h)
    refine ⟨m + 1, sb, by simpa using h1, ?_⟩
    rcases h2 with ⟨h2, h3⟩ | ⟨h2, h3⟩
    · exact Or.inl ⟨by omega, h3⟩
    · exact Or.inr ⟨by omega, h3⟩
theorem en_1 (w : World) (l : Array Value) : (callFunc 156 l).run Tryz.prog w = .ok (.enter 156 l) w := by go_simp
theorem en_2 (w : World) (l : Array Value) : (callFunc 158 l).run Tryz.prog w = .ok (.enter 158 l) w := by go_simp
theorem WInv.base {w w' wr wr' : World} {b : Bk} {H : List Ch} {V : Pages} {pg : Nat} {la lb : List UInt8} {S : List SpE} {k j : Nat} {b' : Bk} {H' : List Ch} (h : WInv w b H V pg la lb S k j wr b' H') (st : BStep w' wr' b b') : WInv w' b H V pg la lb S k j wr' b' H' := { h with st := st }
set_option maxHeartbeats 2000000 in
set_option maxRecDepth 100000 in
theorem write_any {w : World} {b : Bk} (h : BkAt w b) {H : List Ch} {V : Pages} {pg : Nat} {la lb : List UInt8} {w0 : World} {AD : Option Addr} {N CAP : Nat} {S : List SpE} (hS : Spans w0 w la lb (pg : Int) AD N CAP S) (ha : la.length = 512) (hb : lb.length = 512) (hpg : pg < b.x.pages) (hpg2 : pg < 65536)
    (hnew : ∀ k ∈ b.dp :: b.x.own, k < w0.heap.size) (iv : WInv w b H V pg la lb S 0 0 w b H) (hnum : placeB b.t.num = true) (hT0 : 1 ≤ b.x.y.T) (hT1 : b.x.y.T ≤ 2147483647) (hroom : keptOf H + 35 + sumN S ≤ 408 * (b.x.y.count - 1) - ((b.x.y.E : Int) - (b.x.y.A : Int))) (hE : b.x.y.E + logN S ≤ 400000) (hc0 : 0 ≤ b.t.chg) (hc1 : b.t.chg ≤ 900000) (hk1 : keptOf H ≤ 700000) :
    Calls Tryz.prog 86 #[.pointer (some ⟨b.bp, 0, none⟩), .slice AD N CAP] w fun e w' => e = .returned (.int .i64 0) ∧ ∃ b' H', WInv w b H V pg la lb S N N w' b' H' := by
  have HS := hidI hS
  have hN := hS.few
  have HI := hidI iv
  have HH := hidI h
  have HNEW := hidI hnew
  have HRM := hidI hroom
  have fa : Fr [] w (w.alloc (.cells #[.pointer (some ⟨b.bp, 0, none⟩)] 32)) := (Fr.refl [] w).alloc _
  have hB := heap_alloc_new w (.cells #[.pointer (some ⟨b.bp, 0, none⟩)] 32)
  obtain ⟨wa, hwa⟩ : ∃ wa, w.alloc (.cells #[.pointer (some ⟨b.bp, 0, none⟩)] 32) = wa := ⟨_, rfl⟩
  rw [hwa] at fa hB
  obtain ⟨B, HB⟩ : ∃ B, Hid (w.heap.size = B) := ⟨_, rfl⟩
  rw [HB.out] at hB
  clear h hS iv hnew hroom
  go_enter Tryz.func86, Tryz.ntmps86
  go_wp2_with fail
  rw [HB.out]
  go_loopw [5, 11] (fun s5 s11 wr => ∃ k : Nat, ∃ ad c bl, s5 = .slice ad (2 * k) c ∧ s11 = .int .i64 (k : Int) ∧ k ≤ N ∧ Hid (bl.length = k ∧ wr.ownsRow wa.heap.size 53 1 (.slice ad (2 * k) c) (2 * k) (stepsV B bl) ∧ Boxes wr wa.heap.size pg S bl ∧ Fr [] wa wr)) (fun _ i _ => N - (intOf i).toNat)
  case atStart => exact ⟨0, none, 0, [], rfl, rfl, by omega, hidI ⟨rfl, World.ownsRow_nil _ _ _ _, fun m sb hm => by simp at hm, Fr.refl _ _⟩⟩
  case round =>
    obtain ⟨k, ad, c, bl, rfl, rfl, hk, HK⟩ := hrel
    have hcB : wr.cell? ⟨B, 0, none⟩ = some (.pointer (some ⟨b.bp, 0, none⟩)) := cell_of_row wr B 0 _ _ _ (HK.out.2.2.2.same (by simp) hB)
    by_cases hlt : k < N
    · have q1 : (k : Int) < (N : Int) := by omega
      have q0 : (0 : Int) ≤ (k : Int) := by omega
      obtain ⟨e, he⟩ : ∃ e, S[k]? = some e := ⟨_, List.getElem?_eq_getElem (by have := HS.out.len; omega)⟩
      obtain ⟨g, hAD, hg0, hrow⟩ : ∃ g, AD = some ⟨g, 0, none⟩ ∧ w0.heap.size ≤ g ∧ SpRow w g N (pg : Int) S := HS.out.row.resolve_left (by omega)
      subst hAD
      obtain ⟨k0, k1, k2, k3⟩ := (hrow.kept (fa.trans HK.out.2.2.2) (by simp)).cells he
      rw [if_pos hlt] at k0
      have HE := hidI he
      clear he hrow
      have f1 : Fr [] wr (wr.alloc (.cells #[.int .i64 (pg : Int), .int .i64 (e.off : Int), .slice (some ⟨e.bo, 0, none⟩) e.n e.n, .slice (some ⟨e.bn, 0, none⟩) e.n e.n] 146)) := (Fr.refl [] wr).alloc _
      have hsb := heap_alloc_new wr (.cells #[.int .i64 (pg : Int), .int .i64 (e.off : Int), .slice (some ⟨e.bo, 0, none⟩) e.n e.n, .slice (some ⟨e.bn, 0, none⟩) e.n e.n] 146)
      have hsz1 : (wr.alloc (.cells #[.int .i64 (pg : Int), .int .i64 (e.off : Int), .slice (some ⟨e.bo, 0, none⟩) e.n e.n, .slice (some ⟨e.bn, 0, none⟩) e.n e.n] 146)).heap.size = wr.heap.size + 1 := by simp
      obtain ⟨w1, hw1⟩ : ∃ w1, wr.alloc (.cells #[.int .i64 (pg : Int), .int .i64 (e.off : Int), .slice (some ⟨e.bo, 0, none⟩) e.n e.n, .slice (some ⟨e.bn, 0, none⟩) e.n e.n] 146) = w1 := ⟨_, rfl⟩
      rw [hw1] at f1 hsb hsz1
      have f2 : Fr [] w1 (w1.alloc (.cells #[stepV B 0 wr.heap.size, stepV B 1 wr.heap.size] 53)) := (Fr.refl [] w1).alloc _
      have hst := heap_alloc_new w1 (.cells #[stepV B 0 wr.heap.size, stepV B 1 wr.heap.size] 53)
      have OW : Hid ((w1.alloc (.cells #[stepV B 0 wr.heap.size, stepV B 1 wr.heap.size] 53)).ownsRow wa.heap.size 53 1 (.slice ad (2 * k) c) (2 * k) (stepsV B bl)) := hidI (by
        obtain ⟨h1, h2⟩ := HK.out.2.1
        refine ⟨h1, ?_⟩
        rcases h2 with hn | ⟨g', cap, cur, e1, hb', hg', r⟩
        · exact Or.inl hn
        · exact Or.inr ⟨g', cap, cur, e1, hb', (f1.trans f2).same (by simp) hg', r⟩)
      have FW : Hid (Fr [] wa (w1.alloc (.cells #[stepV B 0 wr.heap.size, stepV B 1 wr.heap.size] 53))) := hidI ((HK.out.2.2.2.trans f1).trans f2)
      have HST := hidI hst
      rw [hsz1] at HST
      go_wp2_with (refine wp_appSt rfl _ _ rfl wa ad (2 * k) c (stepsV B bl) (wr.heap.size + 1) (stepV B 0 wr.heap.size) (stepV B 1 wr.heap.size) rfl rfl OW.out FW.out HST.out rfl rfl (by omega) ?_; intro g5 c5 w5 o5 f5 fr5)
      refine ⟨⟨k + 1, some ⟨g5, 0, none⟩, c5, bl ++ [wr.heap.size], rfl, by go_num, by omega, hidI ⟨by rw [List.length_append, HK.out.1]; rfl, ?_, ?_, fr5⟩⟩, ?_⟩
      · have e5 : stepsV B (bl ++ [wr.heap.size]) = stepsV B bl ++ [stepV B 0 wr.heap.size, stepV B 1 wr.heap.size] := by simp [stepsV]
        rw [e5]
        exact o5
      · have hty : ∀ g' ∈ (Value.ownBlock (.slice ad (2 * k) c)).toList, ∀ cur t, (w1.alloc (.cells #[stepV B 0 wr.heap.size, stepV B 1 wr.heap.size] 53)).heap[g']? = some (.cells cur t) → t ≠ 146 := by
          intro g' hg' cur t hc et
          rcases OW.out.2 with ⟨ev, _⟩ | ⟨g2, cap, cur2, ev, _, hg2, _⟩
          · rw [ev] at hg'
            simp [Value.ownBlock] at hg'
          · rw [ev] at hg'
            simp [Value.ownBlock] at hg'
            subst hg'
            rw [hg2] at hc
            cases hc
            exact absurd et (by decide)
        intro m sb hm
        by_cases hmk : m < bl.length
        · rw [List.getElem?_append_left hmk] at hm
          exact ((HK.out.2.2.1.kept (f1.trans f2) (by simp)).kept f5 hty) m sb hm
        · have hm' : m = k ∧ sb = wr.heap.size := by
            have h1 := (List.getElem?_eq_some_iff.1 hm).1
            rw [List.length_append, HK.out.1] at h1
            have h2 : m = k := by have := HK.out.1; simp at h1; omega
            subst h2
            rw [List.getElem?_append_right (by omega), HK.out.1, Nat.sub_self] at hm
            simp at hm
            exact ⟨rfl, hm.symm⟩
          obtain ⟨rfl, rfl⟩ := hm'
          refine ⟨HK.out.2.2.2.size, e, HE.out, ?_⟩
          have h3 := f2.same (by simp) hsb
          exact f5.same (fun hk' => hty _ hk' _ _ h3 rfl) h3
      · simp [intOf]
        omega
    · have q1 : ¬ (k : Int) < (N : Int) := by omega
      obtain rfl : k = N := by omega
      have F0 := fa.trans HK.out.2.2.2
      have BT := HH.out.quiet F0
      have iv0 : WInv wr b H V pg la lb S 0 0 wr b H := HI.out.base (BStep.quiet BT (Fr.refl [] wr))
      have hown : ∀ j, w.heap.size ≤ j → j ∉ b.dp :: b.x.own := fun j hj hm => by
        have := HH.out.lt j (by rcases List.mem_cons.1 hm with e | e <;> simp [e])
        omega
      have hold : ∀ j, w0.heap.size ≤ j → j ∉ b.dp :: b.x.own := fun j hj hm => by
        have := HNEW.out j hm
        omega
      go_wp2_with fail
      refine (inTurn_ok wr ad (2 * k) c (flB B bl) (by rw [flB_length, HK.out.1]) (by omega) (fun i wr' => ∃ b' H', WInv wr b H V pg la lb S ((i + 1) / 2) (i / 2) wr' b' H') ⟨b, H, by simpa using iv0⟩ ?_ ?_ ?_).mono ?_
      · rintro i wr' ⟨b', H', h'⟩ j p hp
        have hj := (List.getElem?_eq_some_iff.1 hp).1
        rw [flB_length, HK.out.1] at hj
        rcases HK.out.2.1.2 with ⟨ev, hn0⟩ | ⟨g', cap, cur, ev, hbase, hg', hnc, hcm, hcs, ht⟩
        · omega
        · cases ev
          refine ⟨g', rfl, ?_⟩
          have h3 := h'.st.fr.same (hown g' (Nat.le_trans fa.size hbase)) hg'
          rw [cell_of_row wr' g' j _ _ _ h3]
          have h4 : (cur.toList.take (2 * k * 1))[j]? = some (.func (.func p.1) #[] p.2.toArray) := by
            rw [ht, stepsV_fl, List.getElem?_map, hp]
            rfl
          rw [List.getElem?_take, if_pos (by omega)] at h4
          simpa using h4
      · intro i p hp w'
        obtain ⟨m, sb, _, ⟨_, rfl⟩ | ⟨_, rfl⟩⟩ := flB_at B bl i p hp
        · exact en_1 w' _
        · exact en_2 w' _
      · rintro i p hp wr' ⟨b', H', h'⟩
        obtain ⟨m, sb, hm, hip⟩ := flB_at B bl i p hp
        obtain ⟨hsb, e, he, hbox⟩ := HK.out.2.2.1 m sb hm
        have ok := spOk ha hb HS.out.eq he
        have hbx : SpBox wr' sb pg e.off e.bo e.bn e.n := h'.st.fr.same (hown sb (Nat.le_trans fa.size hsb)) hbox
        have hBB : wr'.heap[B]? = some (.cells #[.pointer (some ⟨b'.bp, 0, none⟩)] 32) := by
          rw [h'.st.bp]
          exact h'.st.fr.same (hown B (by rw [← HB.out]; exact Nat.le_refl _)) (HK.out.2.2.2.same (by simp) hB)
        have hnw := HS.out.new e (List.mem_of_getElem? he)
        have hbk := HS.out.blk e (List.mem_of_getElem? he)
        have ho : Blk wr' e.bo ((la.drop e.off).take e.n) := h'.st.fr.same (hold _ hnw.1) (F0.same (by simp) hbk.1)
        have hn : Blk wr' e.bn ((lb.drop e.off).take e.n) := h'.st.fr.same (hold _ hnw.2) (F0.same (by simp) hbk.2)
        have hbo : e.bn ∉ b'.x.own := fun hk' => by
          rcases h'.st.ow _ hk' with h3 | h3
          · exact hold _ hnw.2 (List.mem_cons_of_mem _ h3)
          · have h4 : e.bn < w.heap.size := (Array.getElem?_eq_some_iff.1 hbk.2).1
            have := F0.size
            omega
        have hmk : m < k := by
          have := (List.getElem?_eq_some_iff.1 hm).1
          rw [HK.out.1] at this
          exact this
        have l1 := logN_take S he
        have l2 := logN_le S (m + 1)
        have u1 := undN_le S m
        have u2 := undN_nonneg S
        have se := sumN_eq S
        have HR := HRM.out
        have hkn := keptOf_nonneg H
        rcases hip with ⟨rfl, rfl⟩ | ⟨rfl, rfl⟩
        · rw [show (2 * m + 1) / 2 = m by omega, show 2 * m / 2 = m by omega] at h'
          have tx : TxOk b' := ⟨by rw [h'.num]; exact hnum, by
            rw [h'.last]
            have h5 := h'.nx
            have h6 := h'.st.at'.po.lo.hE
            unfold placeB
            rw [decide_eq_true h5.1, decide_eq_true (by omega)]
            rfl, by rw [h'.tr.T]; exact hT0, by rw [h'.tr.T]; exact hT1⟩
          have hEb := h'.E
          refine (write1_any h'.st.at' tx hBB hbx ho hn ok.old ok.new ok.n0 ok.fit hpg2 ?_ ?_ ?_ ?_ ?_ ?_).mono ?_
          · rw [h'.tr.count, h'.tr.A, hEb]
            omega
          · omega
          · rw [h'.chg]
            omega
          · rw [h'.chg]
            omega
          · rw [h'.kept]
            exact keptOf_nonneg H'
          · rw [h'.kept, h'.keq]
            have hsb2 := sumN_bound S (fun x hx => by
              obtain ⟨q, hq⟩ := List.mem_iff_getElem?.1 hx
              have := (spOk ha hb HS.out.eq hq).fit
              omega)
            have hln := HS.out.len
            omega
          · rintro e' w9 ⟨rfl, y', ap, st⟩
            have h9 := h'.log he ok tx h'.st.at'.po.lo.hE hpg2 hpg ap st
            rw [show (2 * m + 1 + 1) / 2 = m + 1 by omega, show (2 * m + 1) / 2 = m by omega]
            exact ⟨rfl, _, _, h9⟩
        · rw [show (2 * m + 1 + 1) / 2 = m + 1 by omega, show (2 * m + 1) / 2 = m by omega] at h'
          have h5 := h'.nx
          have h6 := h'.one (by omega)
          refine (write2_any h'.st.at' hBB hbx (by rw [h'.tr.pages]; exact hpg) hn ok.new ok.n0 ok.fit hbo (by rw [h'.last]; exact h6) (by rw [h'.last]; exact h5.2)).mono ?_
          rintro e' w9 ⟨rfl, x'', hc, st⟩
          have h9 := h'.chg' ok hc st
          rw [show (2 * m + 1 + 1 + 1) / 2 = m + 1 by omega, show (2 * m + 1 + 1) / 2 = m + 1 by omega]
          exact ⟨rfl, _, _, h9⟩
      · rintro e w9 ⟨rfl, b', H', h9⟩
        rw [show (2 * k + 1) / 2 = k by omega, show 2 * k / 2 = k by omega] at h9
        go_wp2_with fail
        go_ret
        exact ⟨rfl, b', H', h9.base ((BStep.quiet HH.out F0).trans h9.st)⟩
end Go.Proofs.YthajipigppndgaaGreat

