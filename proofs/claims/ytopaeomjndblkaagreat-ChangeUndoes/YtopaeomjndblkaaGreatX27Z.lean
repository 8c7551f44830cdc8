/-
  ChangeUndoes' law: whatever a transaction has done, Abort undoes it.
-/
import Derived.Test.YtopaeomjndblkaaGreatX26Z
namespace Go.Proofs.YtopaeomjndblkaaGreat
open Go.RowKit Go.Maps
open Pg (SpE diffS)

def DdsAt (w : World) (ad : Option Addr) (L : List DdV) : Prop :=
  ∀ i d, L[i]? = some d → DdOk w d ∧ ∃ b off, ad = some ⟨b, off, none⟩ ∧ ∀ j v, (ddV d)[j]? = some v → w.cell? ⟨b, off + i * 6 + j, none⟩ = some v
theorem DdsAt.kept {w w' : World} {ad : Option Addr} {L : List DdV} (h : DdsAt w ad L) (k : Fr [] w w') : DdsAt w' ad L := by
  intro i d hd
  obtain ⟨ok, b, off, ha, hc⟩ := h i d hd
  refine ⟨ok.kept k, b, off, ha, fun j v hv => ?_⟩
  have h1 := hc j v hv
  exact (World.cell?_of_block (k.block b (block_lt_of_cell h1) (by simp))).trans h1
/-- A book in a transaction of the law: what holds of it. -/
structure UTx (w0 w : World) (bp : Nat) (K : List (Nat × Obj)) (nb pgn a : Nat) (m : Mst) (U : Pages) (b : Bk) (H : List Ch) (V : Pages) : Prop where
  ab : Ab w0 w bp b K
  env : Env b nb m
  tx : InTx b H V
  A : b.x.y.A ≤ a
  un : undoAll H V = U
  pg : b.x.pages = pgn
theorem UTx.page {w0 w w' : World} {bp : Nat} {K : List (Nat × Obj)} {nb pgn a : Nat} {m : Mst} {U : Pages} {b : Bk} {H : List Ch} {V : Pages} (h : UTx w0 w bp K nb pgn a m U b H V) {b' : Bk} {l : List UInt8} {g : Nat} (hab : Ab w0 w' bp b' K) (P : PgTo w w' b l g b') : UTx w0 w' bp K nb pgn a m U b' H V :=
  ⟨hab, h.env.tr P.tr, P.tx _ _ h.tx, by rw [P.tr.A]; exact h.A, h.un, by rw [P.tr.pages]; exact h.pg⟩
theorem UTx.quiet {w0 w w' : World} {bp : Nat} {K : List (Nat × Obj)} {nb pgn a : Nat} {m : Mst} {U : Pages} {b : Bk} {H : List Ch} {V : Pages} (h : UTx w0 w bp K nb pgn a m U b H V) (f : Fr [] w w') : UTx w0 w' bp K nb pgn a m U b H V :=
  ⟨h.ab.quiet f, h.env, h.tx, h.A, h.un, h.pg⟩
theorem UTx.pages {w0 w : World} {bp : Nat} {K : List (Nat × Obj)} {nb pgn a : Nat} {m : Mst} {U : Pages} {b : Bk} {H : List Ch} {V : Pages} (h : UTx w0 w bp K nb pgn a m U b H V) : Calls Tryz.prog 24 #[.pointer (some ⟨bp, 0, none⟩)] w fun e w' => e = .returned (.int .i64 (pgn : Int)) ∧ w' = w := by
  have h1 := bpages_any h.ab.bk
  rw [h.ab.ebp, h.pg] at h1
  exact h1
/-- Put of 512 bytes in the law: done, or the log is full. -/
theorem UTx.put {w0 w : World} {bp : Nat} {K : List (Nat × Obj)} {nb pgn a : Nat} {m : Mst} {U : Pages} {b : Bk} {H : List Ch} {V : Pages} (h : UTx w0 w bp K nb pgn a m U b H V) (hn : nb ≤ 400) (ha : a ≤ 200000) {page : Nat} (hp : page < pgn) {g c : Nat} {data : List UInt8} (hr : RowB w g c data) (hd : data.length = 512) (hgo : g ∉ b.dp :: b.x.own) :
    Calls Tryz.prog 31 #[.pointer (some ⟨bp, 0, none⟩), .int .i64 (page : Int), .slice (some ⟨g, 0, none⟩) 512 c] w fun e w' => ∃ r : Int, e = .returned (.int .i64 r) ∧ Hid ((r = 5 ∧ ∃ b', UTx w0 w' bp K nb pgn a m U b' H V ∧ BStep w w' b b') ∨ (r = 0 ∧ ∃ b' H' V', UTx w0 w' bp K nb pgn a m U b' H' V' ∧ BStep w w' b b')) := by
  have hE := h.tx.eb h.env hn h.A
  refine (ab_put h.ab h.env h.tx (page := page) (by rw [h.pg]; exact hp) hd (by have := hr.cap; omega) hr.bytes hgo (by omega)).mono ?_
  rintro e w' ⟨r, he, HQ⟩
  obtain ⟨S, hS, hq⟩ := HQ.out
  refine ⟨r, he, hidI ?_⟩
  rcases hq with ⟨h1, _, b', h2, no⟩ | ⟨h1, _, b', H', h2, ok⟩
  · exact Or.inl ⟨h1, b', ⟨h2, h.env.tr no.tr, no.tx, by rw [no.tr.A]; exact h.A, h.un, by rw [no.tr.pages]; exact h.pg⟩, no.st⟩
  · exact Or.inr ⟨h1, b', H', _, ⟨h2, ok.env h.env, ok.tx, by rw [ok.tr.A]; exact h.A, by rw [ok.un]; exact h.un, by rw [ok.tr.pages]; exact h.pg⟩, ok.st⟩
/-- A deed's cells, wherever nothing of the memory ahead has changed. -/
theorem DdsAt.cells {w : World} {ad : Option Addr} {L : List DdV} (h : DdsAt w ad L) {i : Nat} {d : DdV} (hd : L[i]? = some d) : ∃ b off, ad = some ⟨b, off, none⟩ ∧ ∀ w', Fr [] w w' → (DdOk w' d ∧ w'.cell? ⟨b, off + i * 6, none⟩ = some (.int .i64 d.kind) ∧ w'.cell? ⟨b, off + i * 6 + 1, none⟩ = some (.int .i64 d.page) ∧ w'.cell? ⟨b, off + i * 6 + 2, none⟩ = some (.int .i64 d.off) ∧ w'.cell? ⟨b, off + i * 6 + 3, none⟩ = some (.int .i64 d.many) ∧ w'.cell? ⟨b, off + i * 6 + 4, none⟩ = some (.slice d.ad d.l.length d.c) ∧ w'.cell? ⟨b, off + i * 6 + 5, none⟩ = some (.bool d.odd)) := by
  obtain ⟨ok, b, off, ha, hc⟩ := h i d hd
  refine ⟨b, off, ha, fun w' f => ⟨ok.kept f, ?_⟩⟩
  have hk : ∀ j v, (ddV d)[j]? = some v → w'.cell? ⟨b, off + i * 6 + j, none⟩ = some v := fun j v hv => by
    have h1 := hc j v hv
    exact (World.cell?_of_block (f.block b (block_lt_of_cell h1) (by simp))).trans h1
  exact ⟨hk 0 _ rfl, hk 1 _ rfl, hk 2 _ rfl, hk 3 _ rfl, hk 4 _ rfl, hk 5 _ rfl⟩
/-- A page with a deed's bytes, and Put of it. -/
theorem UTx.written {w0 w : World} {bp : Nat} {K : List (Nat × Obj)} {nb pgn a : Nat} {m : Mst} {U : Pages} {b : Bk} {H : List Ch} {V : Pages} (h : UTx w0 w bp K nb pgn a m U b H V) {g : Nat} {l : List UInt8} (hb : Blk w g l) (hl : l.length = 512) {d : DdV} (ok : DdOk w d) :
    Calls Tryz.prog 41 #[.slice (some ⟨g, 0, none⟩) 512 512, .agg #[.int .i64 d.kind, .int .i64 d.page, .int .i64 d.off, .int .i64 d.many, .slice d.ad d.l.length d.c, .bool d.odd]] w fun e w' => ∃ g' c', e = .returned (.slice (some ⟨g', 0, none⟩) 512 c') ∧ Hid (Fr [] w w' ∧ UTx w0 w' bp K nb pgn a m U b H V ∧ ∃ l', RowB w' g' c' l' ∧ l'.length = 512 ∧ g' ∉ b.dp :: b.x.own) := by
  refine (written_any w g 512 l hl hb.bytes (Nat.le_refl _) d ok).mono ?_
  rintro e w' ⟨g', c', he, HQ⟩
  obtain ⟨l', hr, hl', hg, f⟩ := HQ.out
  refine ⟨g', c', he, hidI ⟨f, h.quiet f, l', hr, hl', fun hm => ?_⟩⟩
  have := h.ab.bk.lt g' (by rcases List.mem_cons.1 hm with e | e <;> simp [e])
  omega
theorem putH {w0 w w' : World} {bp : Nat} {K : List (Nat × Obj)} {nb pgn a : Nat} {m : Mst} {U : Pages} {b : Bk} {H : List Ch} {V : Pages} {g c page : Nat} (h : Hid (Fr [] w w' ∧ UTx w0 w' bp K nb pgn a m U b H V ∧ ∃ l', RowB w' g c l' ∧ l'.length = 512 ∧ g ∉ b.dp :: b.x.own)) (hn : nb ≤ 400) (ha : a ≤ 200000) (hp : (page : Int) < (pgn : Int)) :
    Hid (Calls Tryz.prog 31 #[.pointer (some ⟨bp, 0, none⟩), .int .i64 (page : Int), .slice (some ⟨g, 0, none⟩) 512 c] w' fun e w'' => ∃ r : Int, e = .returned (.int .i64 r) ∧ Hid ((r = 5 ∧ ∃ b', UTx w0 w'' bp K nb pgn a m U b' H V ∧ BStep w' w'' b b') ∨ (r = 0 ∧ ∃ b' H' V', UTx w0 w'' bp K nb pgn a m U b' H' V' ∧ BStep w' w'' b b'))) := by
  obtain ⟨_, hu, l', hr, hl, ho⟩ := h.out
  exact hidI (hu.put hn ha (by omega) hr hl ho)
theorem abOf {w0 w' w'' : World} {bp : Nat} {K : List (Nat × Obj)} {nb pgn a : Nat} {m : Mst} {U : Pages} {b : Bk} {H : List Ch} {V : Pages} {r : Int} (h : Hid ((r = 5 ∧ ∃ b', UTx w0 w'' bp K nb pgn a m U b' H V ∧ BStep w' w'' b b') ∨ (r = 0 ∧ ∃ b' H' V', UTx w0 w'' bp K nb pgn a m U b' H' V' ∧ BStep w' w'' b b'))) : ∃ b', Hid (Ab w0 w'' bp b' K) := by
  rcases h.out with ⟨_, b', h1, _⟩ | ⟨_, b', _, _, h1, _⟩
  · exact ⟨b', hidI h1.ab⟩
  · exact ⟨b', hidI h1.ab⟩
theorem BStep.out {w w' : World} {b b' : Bk} (st : BStep w w' b b') {g : Nat} (hg : g ∉ b.dp :: b.x.own) (hl : g < w.heap.size) : g ∉ b'.dp :: b'.x.own := fun hm => by
  rcases List.mem_cons.1 hm with e | e
  · exact hg (by rw [e, st.dp]; exact List.mem_cons_self)
  · rcases st.ow _ e with h1 | h1
    · exact hg (List.mem_cons_of_mem _ h1)
    · omega
theorem Blk.rowB {w : World} {g : Nat} {l : List UInt8} (h : Blk w g l) : RowB w g l.length l := ⟨[], by have h1 : w.heap[g]? = some (.cells (arr l) 5) := h; simpa using h1, by simp⟩
/-- The law's table beside its book. -/
structure UTab (w0 w : World) (bp : Nat) (K : List (Nat × Obj)) (nb pgn a : Nat) (m : Mst) (U : Pages) (b : Bk) (H : List Ch) (V : Pages) (ad : Option Addr) (n c : Nat) (es : List (Nat × Nat)) : Prop where
  u : UTx w0 w bp K nb pgn a m U b H V
  t : Tp w0.heap.size w ad n c es U
  o : ∀ e ∈ es, e.1 ∉ b.dp :: b.x.own
theorem UTab.quiet {w0 w w' : World} {bp : Nat} {K : List (Nat × Obj)} {nb pgn a : Nat} {m : Mst} {U : Pages} {b : Bk} {H : List Ch} {V : Pages} {ad : Option Addr} {n c : Nat} {es : List (Nat × Nat)} (h : UTab w0 w bp K nb pgn a m U b H V ad n c es) (f : Fr [] w w') : UTab w0 w' bp K nb pgn a m U b H V ad n c es := ⟨h.u.quiet f, h.t.quiet f, h.o⟩
theorem UTab.go {w0 w w' : World} {bp : Nat} {K : List (Nat × Obj)} {nb pgn a : Nat} {m : Mst} {U : Pages} {b b' : Bk} {H H' : List Ch} {V V' : Pages} {ad : Option Addr} {n c : Nat} {es : List (Nat × Nat)} (h : UTab w0 w bp K nb pgn a m U b H V ad n c es) (u : UTx w0 w' bp K nb pgn a m U b' H' V') (st : BStep w w' b b') : UTab w0 w' bp K nb pgn a m U b' H' V' ad n c es :=
  ⟨u, (h.t.go h.u.ab.bk st h.o).1, (h.t.go h.u.ab.bk st h.o).2⟩
theorem UTab.page {w0 w w' : World} {bp : Nat} {K : List (Nat × Obj)} {nb pgn a : Nat} {m : Mst} {U : Pages} {b : Bk} {H : List Ch} {V : Pages} {ad : Option Addr} {n c : Nat} {es : List (Nat × Nat)} (h : UTab w0 w bp K nb pgn a m U b H V ad n c es) {b' : Bk} {l : List UInt8} {g : Nat} (hab : Ab w0 w' bp b' K) (P : PgTo w w' b l g b') : UTab w0 w' bp K nb pgn a m U b' H V ad n c es := h.go (h.u.page hab P) P.st
/-- A page more in the table. -/
theorem UTab.more {w0 w w' : World} {bp : Nat} {K : List (Nat × Obj)} {nb pgn a : Nat} {m : Mst} {U : Pages} {b : Bk} {H : List Ch} {V : Pages} {ad : Option Addr} {n c : Nat} {es : List (Nat × Nat)} (h : UTab w0 w bp K nb pgn a m U b H V ad n c es) {tb c' : Nat} {e : Nat × Nat} {L : List Nat} (t : Tp w0.heap.size w' (some ⟨tb, 0, none⟩) (n + 1) c' (es ++ [e]) U) (f : Fr L w w') (hL : ∀ j ∈ L, w0.heap.size ≤ j ∧ ∃ cur, w.heap[j]? = some (.cells cur 37)) (hK : ∀ p ∈ K, ∀ cur, p.2 ≠ .cells cur 37) (he : e.1 ∉ b.dp :: b.x.own) : UTab w0 w' bp K nb pgn a m U b H V (some ⟨tb, 0, none⟩) (n + 1) c' (es ++ [e]) :=
  ⟨⟨h.u.ab.tab f hL hK, h.u.env, h.u.tx, h.u.A, h.u.un, h.u.pg⟩, t, fun x hx => by
    rcases List.mem_append.1 hx with hx | hx
    · exact h.o x hx
    · simp at hx
      subst hx
      exact he⟩
/-- The law's book at rest, its table beside it. -/
structure RTab (w0 w : World) (bp : Nat) (K : List (Nat × Obj)) (nb pgn : Nat) (m : Mst) (U : Pages) (b : Bk) (ad : Option Addr) (n c : Nat) (es : List (Nat × Nat)) : Prop where
  ab : Ab w0 w bp b K
  env : Env b nb m
  idle : Idle b U
  A : b.x.y.A ≤ 90000
  E : b.x.y.E ≤ 180000
  pg : b.x.pages = pgn
  t : Tp w0.heap.size w ad n c es U
  o : ∀ e ∈ es, e.1 ∉ b.dp :: b.x.own
theorem RTab.quiet {w0 w w' : World} {bp : Nat} {K : List (Nat × Obj)} {nb pgn : Nat} {m : Mst} {U : Pages} {b : Bk} {ad : Option Addr} {n c : Nat} {es : List (Nat × Nat)} (h : RTab w0 w bp K nb pgn m U b ad n c es) (f : Fr [] w w') : RTab w0 w' bp K nb pgn m U b ad n c es := ⟨h.ab.quiet f, h.env, h.idle, h.A, h.E, h.pg, h.t.quiet f, h.o⟩
theorem RTab.page {w0 w w' : World} {bp : Nat} {K : List (Nat × Obj)} {nb pgn : Nat} {m : Mst} {U : Pages} {b : Bk} {ad : Option Addr} {n c : Nat} {es : List (Nat × Nat)} (h : RTab w0 w bp K nb pgn m U b ad n c es) {b' : Bk} {l : List UInt8} {g : Nat} (hab : Ab w0 w' bp b' K) (P : PgTo w w' b l g b') : RTab w0 w' bp K nb pgn m U b' ad n c es :=
  ⟨hab, h.env.tr P.tr, P.idle _ h.idle, by rw [P.tr.A]; exact h.A, by rw [P.E]; exact h.E, by rw [P.tr.pages]; exact h.pg, (h.t.go h.ab.bk P.st h.o).1, (h.t.go h.ab.bk P.st h.o).2⟩
theorem RTab.pages {w0 w : World} {bp : Nat} {K : List (Nat × Obj)} {nb pgn : Nat} {m : Mst} {U : Pages} {b : Bk} {ad : Option Addr} {n c : Nat} {es : List (Nat × Nat)} (h : RTab w0 w bp K nb pgn m U b ad n c es) : Calls Tryz.prog 24 #[.pointer (some ⟨bp, 0, none⟩)] w fun e w' => e = .returned (.int .i64 (pgn : Int)) ∧ w' = w := by
  have h1 := bpages_any h.ab.bk
  rw [h.ab.ebp, h.pg] at h1
  exact h1
theorem up8 (x : UInt8) : ((x.toNat : Int) + 1) % 256 = ((x + 1).toNat : Int) := by
  simp [UInt8.toNat_add]
theorem set511 {l : List UInt8} {x : UInt8} (k : Nat) (h : k < 511 ∨ 512 ≤ k) : Pg.byteAt l k = Pg.byteAt (l.set 511 x) k := by
  unfold Pg.byteAt
  rw [List.getD_eq_getElem?_getD, List.getD_eq_getElem?_getD, List.getElem?_set_ne (by omega)]
set_option maxHeartbeats 8000000 in
set_option maxRecDepth 100000 in
theorem undoes_law (w : World) (bl : Int) (hbl : (Lit.int .i64 bl).wf = true) (adB : Option Addr) (nB cB : Nat) (LB : List DdV) (hnB : LB.length = nB) (hmB : nB ≤ maxLen) (hDB : DdsAt w adB LB) (adL : Option Addr) (nL cL : Nat) (LL : List DdV) (hnL : LL.length = nL) (hmL : nL ≤ maxLen) (hDL : DdsAt w adL LL) :
    Calls Tryz.prog 6 #[.int .i64 bl, .slice adB nB cB, .slice adL nL cL] w fun e w' => e = .returned (.bool true) ∧ Fr [] w w' := by
  have HDB := hidI hDB
  have HDL := hidI hDL
  have HNB := hidI hnB
  have HNL := hidI hnL
  have zB : nB ≤ 9223372036854775807 := hmB
  have zL : nL ≤ 9223372036854775807 := hmL
  obtain ⟨sx, hsx⟩ : ∃ sx : Int, IntKind.i64.wrap ((nB : Int) + (nL : Int)) = sx := ⟨_, rfl⟩
  clear hDB hDL hnB hnL hmB hmL
  go_enter Tryz.func6, Tryz.ntmps6
  go_wp2_with fail
  refine (cawake_any _).mono ?_
  rintro e w1 ⟨rfl, f1⟩
  by_cases hlong : 120 < sx
  · go_wp2_with fail
    go_ret
    exact ⟨rfl, f1⟩
  obtain ⟨k, _, hk, HP⟩ := pick_in w1 bl 40 hbl (by omega) (by omega)
  have HP' := hidI HP
  obtain ⟨nb, hnb⟩ : ∃ nb : Nat, 24 + (k : Int) = (nb : Int) := ⟨24 + k, by omega⟩
  have n0 : 24 ≤ nb := by omega
  have n1 : nb ≤ 63 := by omega
  have hn4 : nb ≤ 400 := by omega
  have e1 : IntKind.i64.wrap (24 + (k : Int)) = (nb : Int) := by rw [wrapI _ (by omega) (by omega)]; exact hnb
  clear HP hnb
  go_wp2_with (go_at_call 40; refine HP'.out.mono ?_; rintro e wz ⟨rfl, hz⟩; rw [hz]; clear hz)
  refine (cbegin_ok w1 nb 8 n0 (by omega) (by omega) (by omega)).mono ?_
  rintro e w2 ⟨rg, b0, rfl, R1, fr0, new1, f2⟩
  obtain ⟨bp, hbp⟩ : ∃ bp, b0.bp = bp := ⟨_, rfl⟩
  have rbox := R1.box
  unfold CBox at rbox
  rw [hbp] at rbox
  have aw := R1.bk.away rbox (by decide) (by decide) (by decide) (by decide)
  have hle1 : w.heap.size ≤ w1.heap.size := f1.size
  have A1 := hidI (⟨R1.bk, f1.trans f2, fun k hk => Nat.le_trans hle1 (new1 k (by rcases List.mem_cons.1 hk with e | e <;> simp [e])), hbp, fun p hp => by simp at hp; subst hp; exact ⟨rbox, aw.2.1⟩⟩ : Ab w w2 bp b0 [(rg, .cells #[.pointer (some ⟨b0.x.y.d, 0, none⟩), .pointer (some ⟨b0.x.y.p, 0, none⟩), .pointer (some ⟨b0.x.pp, 0, none⟩), .pointer (some ⟨bp, 0, none⟩)] 62)])
  obtain ⟨K, hK⟩ : ∃ K : List (Nat × Obj), K = [(rg, .cells #[.pointer (some ⟨b0.x.y.d, 0, none⟩), .pointer (some ⟨b0.x.y.p, 0, none⟩), .pointer (some ⟨b0.x.pp, 0, none⟩), .pointer (some ⟨bp, 0, none⟩)] 62)] := ⟨_, rfl⟩
  rw [← hK] at A1
  have KC : Hid (∀ w' b', Ab w w' bp b' K → w'.cell? ⟨rg, 3, none⟩ = some (.pointer (some ⟨bp, 0, none⟩))) := hidI (fun w' b' h => cell_of_row w' rg 3 _ _ _ (h.kp _ (by rw [hK]; exact List.mem_cons_self)).1)
  have KT : Hid (∀ p ∈ K, ∀ cur, p.2 ≠ .cells cur 37) := hidI (fun p hp cur => by rw [hK] at hp; simp at hp; subst hp; simp)
  have KR : Hid (∀ p ∈ K, p.1 = rg) := hidI (fun p hp => by rw [hK] at hp; simp at hp; rw [hp])
  have hrg : w1.heap.size ≤ rg ∧ rg < w2.heap.size := ⟨new1 rg List.mem_cons_self, R1.lt⟩
  have FE := hidI (fr0.env n0 (by omega))
  have FI : Hid (Idle b0 V0) := hidI (fr0.idle (by omega) (by omega))
  have hE0 := fr0.E
  have hA0 := fr0.A
  obtain ⟨pgn, hpgn⟩ : ∃ pgn : Nat, b0.x.pages = pgn := ⟨_, rfl⟩
  have pg1 : 1 ≤ pgn := by rw [← hpgn]; exact R1.bk.po.p1
  have pg2 : pgn ≤ 65536 := by rw [← hpgn]; exact FE.out.pgn
  clear R1 fr0 new1 hK rbox aw hbp
  have k1 := KC.out _ _ A1.out
  go_wp2_with fail
  refine (ab_beg A1.out FE.out FI.out (by decide)).mono ?_
  rintro e w3 ⟨rfl, b1, m1, H2⟩
  have U3 : Hid (∃ b H V, UTx w w3 bp K nb pgn 0 m1 V0 b H V) := hidI ⟨b1, [], V0, H2.out.1, H2.out.2.env, H2.out.2.tx, H2.out.2.ab (by omega) (by omega), rfl, by
    have h1 := H2.out.2.env.pages
    have h2 := FE.out.pages
    omega⟩
  have hs1 : m1.seq ≤ 2 := H2.out.2.s1
  clear H2 hpgn FE FI A1 k1 hE0 hA0
  go_wp2_with fail
  have ha4 : 0 ≤ 200000 := by omega
  go_loopw [9] (fun s9 wr => ∃ i : Nat, s9 = .int .i64 (i : Int) ∧ i ≤ nB ∧ Hid (∃ b H V, UTx w wr bp K nb pgn 0 m1 V0 b H V)) (fun i _ => nB - (intOf i).toNat)
  case atStart => exact ⟨0, rfl, by omega, U3⟩
  case round =>
    obtain ⟨i, rfl, hi, HR⟩ := hrel
    obtain ⟨b, H, V, HU⟩ : ∃ b H V, Hid (UTx w wr bp K nb pgn 0 m1 V0 b H V) := by
      obtain ⟨b, H, V, h⟩ := HR.out
      exact ⟨b, H, V, hidI h⟩
    clear HR
    have k4 := KC.out _ _ HU.out.ab
    by_cases hlt : i < nB
    · have q1 : (i : Int) < (nB : Int) := by omega
      obtain ⟨d, hd⟩ : ∃ d, LB[i]? = some d := ⟨_, List.getElem?_eq_getElem (by have := HNB.out; omega)⟩
      obtain ⟨db, doff, hadB, hc⟩ := HDB.out.cells hd
      have HC := hidI hc
      have c1 := (hc wr HU.out.ab.fr).2.2.1
      have okp := (hc wr HU.out.ab.fr).1.page
      obtain ⟨k2, _, hk2, HP2⟩ := pick_in wr.drew d.page (pgn : Int) okp (by omega) (by omega)
      have HP2' := hidI HP2
      have HPG := hidI ((HU.out.quiet (Fr.refl [] wr).drew).pages)
      subst hadB
      clear hd hc HP2 okp
      go_wp2_with fail
      go_region_held3 (fun w' => w'.cell? ⟨rg, 3, none⟩ = some (.pointer (some ⟨bp, 0, none⟩)) ∧ w'.cell? ⟨db, doff + i * 6 + 1, none⟩ = some (.int .i64 d.page)) (exact ⟨k4, c1⟩) ((first
        | (go_at_call 24; refine HPG.out.mono ?_; rintro e wz ⟨rfl, hz⟩; rw [hz]; clear hz)
        | (go_at_call 40; refine HP2'.out.mono ?_; rintro e wz ⟨rfl, hz⟩; rw [hz]; clear hz)))
      have UD := hidI (HU.out.quiet (Fr.refl [] wr).drew)
      have k4' : wr.drew.cell? ⟨rg, 3, none⟩ = some (.pointer (some ⟨bp, 0, none⟩)) := k4
      clear k4 c1 HP2' HPG
      go_wp2_with fail
      refine (ab_page UD.out.ab UD.out.tx.sh (page := k2) (by rw [UD.out.pg]; omega)).mono ?_
      rintro e w5 ⟨g5, b5, rfl, H5⟩
      have U5 := hidI (UD.out.page H5.out.1 H5.out.2)
      have k5 := KC.out _ _ U5.out.ab
      obtain ⟨o5, c50, c51, c52, c53, c54, c55⟩ := HC.out w5 U5.out.ab.fr
      have vl := Val.len U5.out.ab.bk.po (U5.out.tx.sh k2 (by rw [U5.out.pg]; omega))
      have HWR := hidI ((U5.out.quiet (Fr.refl [] w5).drew).written (H5.out.2.blk.kept (Fr.refl [] w5).drew (by simp)) vl (o5.kept (Fr.refl [] w5).drew))
      clear o5 k4' vl
      go_wp2_with fail
      go_region_held3 (fun w' => w'.cell? ⟨rg, 3, none⟩ = some (.pointer (some ⟨bp, 0, none⟩)) ∧ w'.cell? ⟨db, doff + i * 6, none⟩ = some (.int .i64 d.kind) ∧ w'.cell? ⟨db, doff + i * 6 + 1, none⟩ = some (.int .i64 d.page) ∧ w'.cell? ⟨db, doff + i * 6 + 2, none⟩ = some (.int .i64 d.off) ∧ w'.cell? ⟨db, doff + i * 6 + 3, none⟩ = some (.int .i64 d.many) ∧ w'.cell? ⟨db, doff + i * 6 + 4, none⟩ = some (.slice d.ad d.l.length d.c) ∧ w'.cell? ⟨db, doff + i * 6 + 5, none⟩ = some (.bool d.odd)) (first | exact ⟨KC.out _ _ A7.out, (HC.out _ A7.out.fr).2⟩ | exact ⟨k6, (HC.out _ U6.out.ab.fr).2⟩ | exact ⟨k5, c50, c51, c52, c53, c54, c55⟩) ((first
        | (go_at_call 41; refine HWR.out.mono ?_; rintro e w6 ⟨g6, c6, rfl, H6⟩; have U6 := hidI H6.out.2.1; have k6 := KC.out _ _ U6.out.ab)
        | (go_at_call 31; refine (Hid.out (putH H6 hn4 ha4 hk2)).mono ?_; rintro e w7 ⟨r7, rfl, H7⟩; obtain ⟨b7, A7⟩ := abOf H7)))
      clear c50 c51 c52 c53 c54 c55 k5 k6 HWR
      rcases H7.out with ⟨hr, b8, U8, _⟩ | ⟨hr, b8, H8, V8, U8, _⟩
      · have NX : Hid (∃ b H V, UTx w w7 bp K nb pgn 0 m1 V0 b H V) := hidI ⟨_, _, _, U8⟩
        clear H7 U8
        subst hr
        go_wp2_with fail
        exact ⟨⟨i + 1, rfl, by omega, NX⟩, by simp [intOf]; omega⟩
      · have NX : Hid (∃ b H V, UTx w w7 bp K nb pgn 0 m1 V0 b H V) := hidI ⟨_, _, _, U8⟩
        clear H7 U8
        subst hr
        go_wp2_with fail
        exact ⟨⟨i + 1, rfl, by omega, NX⟩, by simp [intOf]; omega⟩
    · have q1 : ¬ (i : Int) < (nB : Int) := by omega
      have hE := HU.out.tx.eb HU.out.env hn4 HU.out.A
      go_wp2_with fail
      refine (ab_com HU.out.ab HU.out.env HU.out.tx (by omega)).mono ?_
      rintro e w4 ⟨rfl, b2, H4⟩
      have k5 := KC.out _ _ H4.out.1
      clear k4
      go_wp2_with fail
      refine (ab_beg H4.out.1 H4.out.2.env H4.out.2.idle (by omega)).mono ?_
      rintro e w5 ⟨rfl, b3, m2, H5⟩
      have hs2 : m2.seq ≤ 3 := by have := H5.out.2.s1; omega
      have hA3 : b3.x.y.A ≤ 90000 := H5.out.2.ab (by rw [H4.out.2.tr.A]; have := HU.out.A; omega) (by rw [H4.out.2.E]; omega)
      have pg3 : b3.x.pages = pgn := by
        have h1 := H5.out.2.env.pages
        have h2 := H4.out.2.env.pages
        have h3 := HU.out.env.pages
        have h4 := HU.out.pg
        omega
      obtain ⟨VV, hVV⟩ : ∃ VV : Pages, VV = V := ⟨_, rfl⟩
      have U5 : Hid (UTx w w5 bp K nb pgn 90000 m2 VV b3 [] VV) := hidI (by rw [hVV]; exact ⟨H5.out.1, H5.out.2.env, H5.out.2.tx, hA3, rfl, pg3⟩)
      clear hVV pg3 hA3 hE H4 k5
      go_wp2_with fail
      have T5 : Hid (∃ b es, UTab w w5 bp K nb pgn 90000 m2 VV b [] VV none 0 0 es) := hidI ⟨b3, [], U5.out, Tp.nil _ _ _, fun e he => nomatch he⟩
      have hw5 : w.heap.size ≤ w5.heap.size := U5.out.ab.fr.size
      clear H5 HU U5
      go_loopw [14, 15] (fun s14 s15 wr => ∃ (ad : Option Addr) (c j : Nat), s14 = .slice ad j c ∧ s15 = .int .i64 (j : Int) ∧ j ≤ pgn ∧ Hid (∃ b es, UTab w wr bp K nb pgn 90000 m2 VV b [] VV ad j c es)) (fun _ s15 _ => pgn - (intOf s15).toNat)
      case atStart => exact ⟨none, 0, 0, rfl, rfl, by omega, T5⟩
      case round =>
        obtain ⟨ad, c, j, rfl, rfl, hj, HR⟩ := hrel
        obtain ⟨b, es, HT⟩ : ∃ b es, Hid (UTab w wr bp K nb pgn 90000 m2 VV b [] VV ad j c es) := by
          obtain ⟨b, es, h⟩ := HR.out
          exact ⟨b, es, hidI h⟩
        clear HR
        have k4 := KC.out _ _ HT.out.u.ab
        have HPG := hidI HT.out.u.pages
        by_cases hlt : j < pgn
        · have q1 : (j : Int) < (pgn : Int) := by omega
          have q2 : IntKind.i64.wrap ((j : Int) + 1) = (j : Int) + 1 := wrapI _ (by omega) (by omega)
          go_wp2_with (go_at_call 24; refine HPG.out.mono ?_; rintro e wz ⟨rfl, hz⟩; rw [hz]; clear hz)
          refine (ab_page HT.out.u.ab HT.out.u.tx.sh (page := j) (by rw [HT.out.u.pg]; omega)).mono ?_
          rintro e w6 ⟨g6, b6, rfl, H6⟩
          have T6 := hidI (HT.out.page H6.out.1 H6.out.2)
          have vl := Val.len T6.out.u.ab.bk.po (T6.out.u.tx.sh j (by rw [T6.out.u.pg]; omega))
          have f7 : Fr [] w6 (w6.alloc (.cells #[.slice (some ⟨g6, 0, none⟩) 512 512] 37)) := (Fr.refl [] w6).alloc _
          have h7 := heap_alloc_new w6 (.cells #[.slice (some ⟨g6, 0, none⟩) 512 512] 37)
          obtain ⟨w7, hw7⟩ : ∃ w7, w6.alloc (.cells #[.slice (some ⟨g6, 0, none⟩) 512 512] 37) = w7 := ⟨_, rfl⟩
          rw [hw7] at f7 h7
          have T7 := hidI (T6.out.quiet f7)
          have R7 : Hid (RowB w7 g6 512 (VV j)) := hidI (by
            have h8 := (H6.out.2.blk.kept f7 (by simp)).rowB
            rw [vl] at h8
            exact h8)
          have VL := hidI vl
          have HG : Hid (w.heap.size ≤ g6) := hidI (Nat.le_trans HT.out.u.ab.fr.size H6.out.2.new)
          have HO : Hid (g6 ∉ b6.dp :: b6.x.own) := hidI H6.out.2.out
          clear k4 HPG HT H6 vl T6
          go_wp2_with (refine wp_appP rfl _ _ rfl w.heap.size ad j c es VV w6.heap.size (g6, 512) rfl rfl T7.out.t h7 ⟨R7.out, VL.out, HG.out⟩ T7.out.u.ab.fr.size (by omega) ?_; intro tb c8 w8 L8 t8 f8 hL8)
          exact ⟨⟨some ⟨tb, 0, none⟩, c8, j + 1, rfl, rfl, by omega, hidI ⟨b6, _, T7.out.more t8 f8 hL8 KT.out HO.out⟩⟩, by simp [intOf]; omega⟩
        · have q1 : ¬ (j : Int) < (pgn : Int) := by omega
          obtain rfl : pgn = j := by omega
          go_wp2_with (go_at_call 24; refine HPG.out.mono ?_; rintro e wz ⟨rfl, hz⟩; rw [hz]; clear hz)
          have T3 : Hid (∃ b H V, UTab w wr bp K nb pgn 90000 m2 VV b H V ad pgn c es) := hidI ⟨_, _, _, HT.out⟩
          have ha5 : 90000 ≤ 200000 := by omega
          have adv := hidI HT.out.t
          clear HT k4 HPG
          go_loopw [18, 19] (fun s18 s19 wr => ∃ (fu : Int) (i : Nat), s18 = .int .i64 fu ∧ s19 = .int .i64 (i : Int) ∧ i ≤ nL ∧ Hid (∃ b H V, UTab w wr bp K nb pgn 90000 m2 VV b H V ad pgn c es)) (fun _ s19 _ => nL - (intOf s19).toNat)
          case atStart => exact ⟨0, 0, rfl, rfl, by omega, T3⟩
          case round =>
            obtain ⟨fu, i, rfl, rfl, hi, HR⟩ := hrel
            obtain ⟨b, H, V, HT⟩ : ∃ b H V, Hid (UTab w wr bp K nb pgn 90000 m2 VV b H V ad pgn c es) := by
              obtain ⟨b, H, V, h⟩ := HR.out
              exact ⟨b, H, V, hidI h⟩
            clear HR
            have k4 := KC.out _ _ HT.out.u.ab
            by_cases hlt : i < nL
            · have q1 : (i : Int) < (nL : Int) := by omega
              have q2 : IntKind.i64.wrap ((i : Int) + 1) = (i : Int) + 1 := wrapI _ (by omega) (by omega)
              obtain ⟨d, hd⟩ : ∃ d, LL[i]? = some d := ⟨_, List.getElem?_eq_getElem (by have := HNL.out; omega)⟩
              obtain ⟨db, doff, hadB, hc⟩ := HDL.out.cells hd
              have HC := hidI hc
              have c1 := (hc wr HT.out.u.ab.fr).2.2.1
              have okp := (hc wr HT.out.u.ab.fr).1.page
              obtain ⟨k2, _, hk2, HP2⟩ := pick_in wr.drew d.page (pgn : Int) okp (by omega) (by omega)
              have HP2' := hidI HP2
              have HPG := hidI ((HT.out.u.quiet (Fr.refl [] wr).drew).pages)
              subst hadB
              clear hd hc HP2 okp
              go_wp2_with fail
              go_region_held3 (fun w' => w'.cell? ⟨rg, 3, none⟩ = some (.pointer (some ⟨bp, 0, none⟩)) ∧ w'.cell? ⟨db, doff + i * 6 + 1, none⟩ = some (.int .i64 d.page)) (exact ⟨k4, c1⟩) ((first
                | (go_at_call 24; refine HPG.out.mono ?_; rintro e wz ⟨rfl, hz⟩; rw [hz]; clear hz)
                | (go_at_call 40; refine HP2'.out.mono ?_; rintro e wz ⟨rfl, hz⟩; rw [hz]; clear hz)))
              have UD := hidI (HT.out.quiet (Fr.refl [] wr).drew)
              have k4' : wr.drew.cell? ⟨rg, 3, none⟩ = some (.pointer (some ⟨bp, 0, none⟩)) := k4
              clear k4 c1 HP2' HPG HT
              go_wp2_with fail
              refine (ab_page UD.out.u.ab UD.out.u.tx.sh (page := k2) (by rw [UD.out.u.pg]; omega)).mono ?_
              rintro e w5 ⟨g5, b5, rfl, H5⟩
              have T5 := hidI (UD.out.page H5.out.1 H5.out.2)
              have k5 := KC.out _ _ T5.out.u.ab
              obtain ⟨o5, c50, c51, c52, c53, c54, c55⟩ := HC.out w5 T5.out.u.ab.fr
              have VL := hidI (Val.len T5.out.u.ab.bk.po (T5.out.u.tx.sh k2 (by rw [T5.out.u.pg]; omega)))
              have HWR := hidI ((T5.out.u.quiet (Fr.refl [] w5).drew).written (H5.out.2.blk.kept (Fr.refl [] w5).drew (by simp)) VL.out (o5.kept (Fr.refl [] w5).drew))
              have B5 := hidI H5.out.2.blk
              have O5 := hidI H5.out.2.out
              clear o5 k4' UD
              go_wp2_with fail
              go_region_held3 (fun w' => w'.cell? ⟨rg, 3, none⟩ = some (.pointer (some ⟨bp, 0, none⟩)) ∧ w'.cell? ⟨db, doff + i * 6, none⟩ = some (.int .i64 d.kind) ∧ w'.cell? ⟨db, doff + i * 6 + 1, none⟩ = some (.int .i64 d.page) ∧ w'.cell? ⟨db, doff + i * 6 + 2, none⟩ = some (.int .i64 d.off) ∧ w'.cell? ⟨db, doff + i * 6 + 3, none⟩ = some (.int .i64 d.many) ∧ w'.cell? ⟨db, doff + i * 6 + 4, none⟩ = some (.slice d.ad d.l.length d.c) ∧ w'.cell? ⟨db, doff + i * 6 + 5, none⟩ = some (.bool d.odd)) (first | exact ⟨KC.out _ _ A7.out, (HC.out _ A7.out.fr).2⟩ | exact ⟨k6, (HC.out _ U6.out.ab.fr).2⟩ | exact ⟨k5, c50, c51, c52, c53, c54, c55⟩) ((first
                | (go_at_call 41; refine HWR.out.mono ?_; rintro e w6 ⟨g6, c6, rfl, H6⟩; have U6 := hidI H6.out.2.1; have k6 := KC.out _ _ U6.out.ab)
                | (go_at_call 31; refine (Hid.out (putH H6 hn4 ha5 hk2)).mono ?_; rintro e w7 ⟨r7, rfl, H7⟩; obtain ⟨b7, A7⟩ := abOf H7)))
              clear c50 c51 c52 c53 c54 c55 k5 k6 HWR
              have T6 := hidI (T5.out.quiet ((Fr.refl [] w5).drew.trans H6.out.1))
              have B6 : Hid (Blk w6 g5 (V k2)) := hidI (B5.out.kept ((Fr.refl [] w5).drew.trans H6.out.1) (by simp))
              have k7 := KC.out _ _ A7.out
              rcases H7.out with ⟨hr, b8, U8, st8⟩ | ⟨hr, b8, H8, V8, U8, st8⟩
              · have T8 := hidI (T6.out.go U8 st8)
                have B8 : Hid (Blk w7 g5 (V k2)) := hidI (B6.out.kept st8.fr O5.out)
                have O8 := hidI (st8.out O5.out B6.out.lt)
                clear H7 U8 st8 T6 T5 B6 B5
                subst hr
                go_wp2_with fail
                refine (ab_page T8.out.u.ab T8.out.u.tx.sh (page := k2) (by rw [T8.out.u.pg]; omega)).mono ?_
                rintro e w9 ⟨g9, b9, rfl, H9⟩
                have T9 := hidI (T8.out.page H9.out.1 H9.out.2)
                have B9 := hidI H9.out.2.blk
                have C9 : Hid (Blk w9 g5 (V k2)) := hidI (B8.out.kept H9.out.2.st.fr O8.out)
                have HSM : Hid (Calls Tryz.prog 29 #[.slice (some ⟨g5, 0, none⟩) 512 512, .slice (some ⟨g9, 0, none⟩) 512 512] w9 fun e w' => e = .returned (.bool true) ∧ Fr [] w9 w') := hidI (by
                  have h9 := same_any w9 (some ⟨g5, 0, none⟩) (some ⟨g9, 0, none⟩) (V k2) (V k2) 512 512 512 C9.out.bytes B9.out.bytes VL.out VL.out (by omega)
                  refine h9.mono ?_
                  rintro e w' ⟨h1, h2⟩
                  exact ⟨by simpa using h1, h2⟩)
                have NX : Hid (∀ wz, Fr [] w9 wz → ∃ b H V, UTab w wz bp K nb pgn 90000 m2 VV b H V ad pgn c es) := hidI (fun wz fz => ⟨_, _, _, T9.out.quiet fz⟩)
                clear H9 B9 C9 T9 T8 B8 k7
                go_wp2_with (go_at_call 29; refine HSM.out.mono ?_; rintro e wz ⟨rfl, fz⟩)
                exact ⟨⟨_, i + 1, rfl, rfl, by omega, hidI (NX.out _ fz)⟩, by simp [intOf]; omega⟩
              · have NX : Hid (∃ b H V, UTab w w7 bp K nb pgn 90000 m2 VV b H V ad pgn c es) := hidI ⟨_, _, _, T6.out.go U8 st8⟩
                clear H7 U8 st8 T6 T5 B6 B5 k7
                subst hr
                go_wp2_with fail
                exact ⟨⟨_, i + 1, rfl, rfl, by omega, NX⟩, by simp [intOf]; omega⟩
            · have q1 : ¬ (i : Int) < (nL : Int) := by omega
              go_wp2_with fail
              refine (ab_abo HT.out.u.ab HT.out.u.env HT.out.u.tx (by have := HT.out.u.A; omega) hn4).mono ?_
              rintro e w4 ⟨rfl, b4, H4⟩
              have R4 : Hid (∃ b, RTab w w4 bp K nb pgn m2 VV b ad pgn c es) := hidI (by
                refine ⟨b4, H4.out.1, H4.out.2.env, ?_, ?_, ?_, ?_, (HT.out.t.go HT.out.u.ab.bk H4.out.2.st HT.out.o).1, (HT.out.t.go HT.out.u.ab.bk H4.out.2.st HT.out.o).2⟩
                · have h1 := H4.out.2.idle
                  rw [HT.out.u.un] at h1
                  exact h1
                · rw [H4.out.2.tr.A]
                  exact HT.out.u.A
                · have h1 := H4.out.2.E
                  have h2 := HT.out.u.tx.Ele
                  have h3 := HT.out.u.env.count
                  have h4 := HT.out.u.A
                  omega
                · rw [H4.out.2.tr.pages]
                  exact HT.out.u.pg)
              clear H4 HT k4
              go_wp2_with fail
              go_loopw [26] (fun s26 wr => ∃ j : Nat, s26 = .int .i64 (j : Int) ∧ j ≤ pgn ∧ Hid (∃ b, RTab w wr bp K nb pgn m2 VV b ad pgn c es)) (fun s26 _ => pgn - (intOf s26).toNat)
              case atStart => exact ⟨0, rfl, by omega, R4⟩
              case round =>
                obtain ⟨j, rfl, hj, HR⟩ := hrel
                obtain ⟨b, HT⟩ : ∃ b, Hid (RTab w wr bp K nb pgn m2 VV b ad pgn c es) := by
                  obtain ⟨b, h⟩ := HR.out
                  exact ⟨b, hidI h⟩
                clear HR
                have k4 := KC.out _ _ HT.out.ab
                have HPG := hidI HT.out.pages
                by_cases hlt : j < pgn
                · have q1 : (j : Int) < (pgn : Int) := by omega
                  have q2 : IntKind.i64.wrap ((j : Int) + 1) = (j : Int) + 1 := wrapI _ (by omega) (by omega)
                  go_wp2_with (go_at_call 24; refine HPG.out.mono ?_; rintro e wz ⟨rfl, hz⟩; rw [hz]; clear hz)
                  refine (ab_page HT.out.ab HT.out.idle.sh (page := j) (by rw [HT.out.pg]; omega)).mono ?_
                  rintro e w6 ⟨g6, b6, rfl, H6⟩
                  have T6 := hidI (HT.out.page H6.out.1 H6.out.2)
                  obtain ⟨tb, ee, had, hee, hcell⟩ := T6.out.t.at j hlt
                  obtain ⟨hrow, hlen, _⟩ := T6.out.t.blk j ee hee
                  have HSM : Hid (Calls Tryz.prog 29 #[.slice (some ⟨g6, 0, none⟩) 512 512, .slice (some ⟨ee.1, 0, none⟩) 512 ee.2] w6 fun e w' => e = .returned (.bool true) ∧ Fr [] w6 w') := hidI (by
                    have h9 := same_any w6 (some ⟨g6, 0, none⟩) (some ⟨ee.1, 0, none⟩) (VV j) (VV j) 512 512 ee.2 H6.out.2.blk.bytes hrow.bytes hlen hlen (by omega)
                    refine h9.mono ?_
                    rintro e w' ⟨h1, h2⟩
                    exact ⟨by simpa using h1, h2⟩)
                  have NX : Hid (∀ wz, Fr [] w6 wz → ∃ b, RTab w wz bp K nb pgn m2 VV b ad pgn c es) := hidI (fun wz fz => ⟨_, T6.out.quiet fz⟩)
                  unfold pgV at hcell
                  subst had
                  clear k4 HPG HT H6 hrow hlen hee T6
                  go_wp2_with (go_at_call 29; refine HSM.out.mono ?_; rintro e wz ⟨rfl, fz⟩)
                  exact ⟨⟨j + 1, rfl, by omega, hidI (NX.out _ fz)⟩, by simp [intOf]; omega⟩
                · have q1 : ¬ (j : Int) < (pgn : Int) := by omega
                  go_wp2_with (go_at_call 24; refine HPG.out.mono ?_; rintro e wz ⟨rfl, hz⟩; rw [hz]; clear hz)
                  refine (ab_beg HT.out.ab HT.out.env HT.out.idle (by omega)).mono ?_
                  rintro e w6 ⟨rfl, b6, m6, H6⟩
                  have G6 := hidI (HT.out.t.go HT.out.ab.bk H6.out.2.st HT.out.o)
                  obtain ⟨tb, ee, had, hee, hcell⟩ := G6.out.1.at 0 (by omega)
                  obtain ⟨hrow, hlen, _⟩ := G6.out.1.blk 0 ee hee
                  have HCP := hidI (copy_new w6 ee.1 ee.2 (VV 0) hlen hrow.bytes (by have := hrow.cap; omega))
                  have VL := hidI hlen
                  have hA6 : b6.x.y.A ≤ 180000 := H6.out.2.ab (by have := HT.out.A; omega) HT.out.E
                  have k6 := KC.out _ _ H6.out.1
                  have pg6 : 0 < b6.x.pages := H6.out.1.bk.po.p1
                  unfold pgV at hcell
                  subst had
                  clear k4 HPG HT hrow hlen hee G6
                  go_wp2_with fail
                  refine HCP.out.mono ?_
                  rintro e w7 ⟨g7, c7, rfl, r7, hg7, f7⟩
                  have A7 := hidI (H6.out.1.quiet f7)
                  have v7 : (VV 0).length = 512 := VL.out
                  have x7 := r7.cell 511 (by omega)
                  have z7 := r7.frozen 511
                  obtain ⟨x, hx⟩ : ∃ x : UInt8, byteAt (VV 0) 511 = x := ⟨_, rfl⟩
                  rw [hx] at x7
                  obtain ⟨y, hy⟩ : ∃ y : UInt8, x + 1 = y := ⟨_, rfl⟩
                  have e9 := up8 x
                  rw [hy] at e9
                  have ho7 : g7 ∉ b6.dp :: b6.x.own := fun hm => by
                    have := H6.out.1.bk.lt g7 (by rcases List.mem_cons.1 hm with e | e <;> simp [e])
                    omega
                  have r8 := r7.set 511 y (by omega)
                  have f8 := fr_set w7 g7 511 (.int .u8 (y.toNat : Int))
                  have A8 : Hid (Ab w (w7.setCell ⟨g7, 511, none⟩ (.int .u8 (y.toNat : Int))) bp b6 K) := hidI (by
                    obtain ⟨tl, h9, _⟩ := r7
                    exact A7.out.blk h9 f8 ho7 (Nat.le_trans H6.out.1.fr.size hg7) (fun p hp e => by
                      have := (Array.getElem?_eq_some_iff.1 (H6.out.1.kp p hp).1).1
                      omega))
                  have hE6 := H6.out.2.tx.eb H6.out.2.env hn4 hA6
                  have hr6 : (2448 : Int) ≤ b6.room := by
                    have h1 := H6.out.2.room
                    have h2 := H6.out.2.env.count
                    omega
                  clear hx hy r7 f8 A7 f7 hg7 v7 HCP hcell k6
                  have k8 := KC.out _ _ A8.out
                  go_wp2_with fail
                  generalize w7.setCell ⟨g7, 511, none⟩ (.int .u8 (y.toNat : Int)) = w8 at r8 A8 k8 ⊢
                  refine (ab_put1 A8.out H6.out.2.env H6.out.2.tx (page := 0) pg6 (by rw [List.length_set]; exact VL.out) (by have := r8.cap; rw [List.length_set, VL.out] at this; exact this) r8.bytes ho7 (by omega) (i := 511) (j := 512) (fun k _ h => set511 k h) (by show (0 : Int) + 35 + 97 * 1 ≤ b6.room; omega)).mono ?_
                  rintro e w9 ⟨rfl, S9, b9, H9, Q9⟩
                  have k9 := KC.out _ _ Q9.out.1
                  have hE9 := Q9.out.2.2.tx.eb (Q9.out.2.2.env H6.out.2.env) hn4 (a := 180000) (by rw [Q9.out.2.2.tr.A]; exact hA6)
                  clear k8 r8
                  go_wp2_with fail
                  refine (ab_com Q9.out.1 (Q9.out.2.2.env H6.out.2.env) Q9.out.2.2.tx (by omega)).mono ?_
                  rintro e w10 ⟨rfl, b10, Q10⟩
                  go_wp2_with fail
                  go_ret
                  exact ⟨rfl, Q10.out.1.fr⟩
end Go.Proofs.YtopaeomjndblkaaGreat

