/-
  ChangeDoes: what put lends, and what Put makes of the model.
-/
import Derived.Test.YtopaeomjndblkaaGreatZX
import Derived.Lib.SmallJoins
namespace Go.Proofs.YtopaeomjndblkaaGreat
open Go.RowKit Go.Maps

def pgV (e : Nat × Nat) : Value := .slice (some ⟨e.1, 0, none⟩) 512 e.2
/-- A table of pages, new since B. -/
structure Tp (B : Nat) (w : World) (ad : Option Addr) (n c : Nat) (es : List (Nat × Nat)) (V : Pages) : Prop where
  own : w.ownsRow B 37 1 (.slice ad n c) n (es.map pgV)
  blk : ∀ i e, es[i]? = some e → RowB w e.1 e.2 (V i) ∧ (V i).length = 512 ∧ B ≤ e.1
theorem Tp.nil (B : Nat) (w : World) (V : Pages) : Tp B w none 0 0 [] V := ⟨World.ownsRow_nil _ _ _ _, fun i e h => by simp at h⟩
theorem Tp.len {B : Nat} {w : World} {ad : Option Addr} {n c : Nat} {es : List (Nat × Nat)} {V : Pages} (h : Tp B w ad n c es V) : es.length = n := by
  have h1 := h.own.1
  simp at h1
  omega
theorem ownB_kept {B : Nat} {w w' : World} {e : TypeId} {v : Value} {n : Nat} {xs : List Value} {L : List Nat} (h : w.ownsRow B e 1 v n xs) (f : Fr L w w') (hL : ∀ g ∈ L, ∀ cur, w.heap[g]? ≠ some (.cells cur e)) : w'.ownsRow B e 1 v n xs := by
  obtain ⟨h1, h2⟩ := h
  refine ⟨h1, ?_⟩
  rcases h2 with hn | ⟨g, cap, cur, hv, hb, hg, r⟩
  · exact Or.inl hn
  · exact Or.inr ⟨g, cap, cur, hv, hb, f.same (fun hm => hL g hm _ hg) hg, r⟩
theorem Tp.kept {B : Nat} {w w' : World} {ad : Option Addr} {n c : Nat} {es : List (Nat × Nat)} {V : Pages} (h : Tp B w ad n c es V) {L : List Nat} (f : Fr L w w') (hL : ∀ g ∈ L, ∀ cur, w.heap[g]? ≠ some (.cells cur 37)) (hg : ∀ e ∈ es, e.1 ∉ L) : Tp B w' ad n c es V :=
  ⟨ownB_kept h.own f hL, fun i e he => ⟨(h.blk i e he).1.kept f (hg e (List.mem_of_getElem? he)), (h.blk i e he).2⟩⟩
theorem Tp.at {B : Nat} {w : World} {ad : Option Addr} {n c : Nat} {es : List (Nat × Nat)} {V : Pages} (h : Tp B w ad n c es V) (i : Nat) (hi : i < n) : ∃ tb e, ad = some ⟨tb, 0, none⟩ ∧ es[i]? = some e ∧ w.cell? ⟨tb, i, none⟩ = some (pgV e) := by
  have hl := h.len
  rcases h.own.2 with ⟨_, h0⟩ | ⟨g, cap, cur, hv, hb, hg, hcap, hmx, hsz, htk⟩
  · omega
  · cases hv
    have h3 : es[i]? = some es[i] := List.getElem?_eq_getElem _
    refine ⟨g, es[i], rfl, h3, ?_⟩
    rw [cell_of_row w g i _ _ _ hg]
    have h2 : (es.map pgV)[i]? = some (pgV es[i]) := by rw [List.getElem?_map, h3]; rfl
    rw [← h2, ← htk, List.getElem?_take]
    simp
    intro hh
    omega
section
variable {ops : Array Oper} {rest : List Oper} {o : Oper} {a : Act} {w : World} {Q : Exit → Act → World → Prop}
/-- append of one page to a table. -/
theorem wp_appP (hgd : o.guard = none) (s x : Operand) (ho : o.op = .call { callee := .builtin .append, args := #[s, x], argTypes := #[57, 57] }) (B : Nat) (ad : Option Addr) (n c : Nat) (es : List (Nat × Nat)) (V : Pages) (b : Nat) (e : Nat × Nat) (hs : a.eval s = .slice ad n c) (hx : a.eval x = .slice (some ⟨b, 0, none⟩) 1 1)
    (ht : Tp B w ad n c es V) (hb : w.heap[b]? = some (.cells #[pgV e] 37)) (hv : RowB w e.1 e.2 (V n) ∧ (V n).length = 512 ∧ B ≤ e.1) (hB : B ≤ w.heap.size) (hm : n + 1 ≤ 100000)
    (h : ∀ g c' w' L, Tp B w' (some ⟨g, 0, none⟩) (n + 1) c' (es ++ [e]) V → Fr L w w' → (∀ j ∈ L, B ≤ j ∧ ∃ cur, w.heap[j]? = some (.cells cur 37)) → wpList Tryz.prog ops Q rest (a.put o.dst (.slice (some ⟨g, 0, none⟩) (n + 1) c')) w') : wpList Tryz.prog ops Q (o :: rest) a w :=
  wpList_plain hgd fun K hK => by
    obtain ⟨i, hi, hz, hsz, hbb⟩ := Pg.infoS'
    obtain ⟨v', w', hrun, h2, h3, h4, h5⟩ := run_append_own_at (P := Tryz.prog) w B 57 o.type 37 i (.slice none 0 0) 1 24 Tryz.underlying57 hi hz hsz hbb rfl (by omega) _ n _ ht.own ⟨b, 0, none⟩ 1 1 [pgV e] (by simp)
      (by
        intro j x hx
        cases j with
        | zero =>
          simp at hx
          subst hx
          rw [Addr.add_mid]
          exact cell_of_row w b 0 _ _ _ hb
        | succ j => simp at hx) (by intro x hx; simp at hx; subst hx; rfl) (by unfold maxLen; omega) (by omega) hB
    rcases h2.2 with ⟨e', hn0⟩ | ⟨g, c', cur, e', r⟩
    · omega
    · subst e'
      have hL : ∀ j ∈ (Value.ownBlock (.slice ad n c)).toList, B ≤ j ∧ ∃ cur, w.heap[j]? = some (.cells cur 37) := by
        intro j hj
        rcases ht.own.2 with ⟨hn, _⟩ | ⟨g', cap, cur', hv', hb', hg', r'⟩
        · cases hn
          simp [Value.ownBlock] at hj
        · cases hv'
          simp [Value.ownBlock] at hj
          subst hj
          exact ⟨hb', cur', hg'⟩
      have f3 : Fr (Value.ownBlock (.slice ad n c)).toList w w' := (Fr.refl _ _).grown h3 (fun j e _ => by simp [e])
      have hout : ∀ {g2 c2 : Nat} {l2 : List UInt8}, RowB w g2 c2 l2 → g2 ∉ (Value.ownBlock (.slice ad n c)).toList := fun hr hm => by
        obtain ⟨_, cur, hc⟩ := hL _ hm
        obtain ⟨tl, h6, _⟩ := hr
        rw [h6] at hc
        simp at hc
      unfold Oper.wp execOp
      simp [ho, resolve, invoke, builtin, hs, hx, hrun, Result.andThen]
      refine hK _ _ (h _ _ _ _ ⟨by rw [List.map_append]; exact h2, fun i' e' he' => ?_⟩ f3 hL)
      have hlen := ht.len
      by_cases hlt : i' < es.length
      · rw [List.getElem?_append_left hlt] at he'
        exact ⟨(ht.blk i' e' he').1.kept f3 (hout (ht.blk i' e' he').1), (ht.blk i' e' he').2⟩
      · rw [List.getElem?_append_right (by omega)] at he'
        have e0 : i' - es.length = 0 := by
          have := (List.getElem?_eq_some_iff.1 he').1
          simp at this
          omega
        rw [e0] at he'
        simp at he'
        subst he'
        obtain rfl : i' = n := by omega
        exact ⟨hv.1.kept f3 (hout hv.1), hv.2⟩
end
/-- What a book does leaves a table as it is. -/
theorem BkAt.noS {w : World} {b : Bk} (h : BkAt w b) : ∀ g ∈ b.dp :: b.x.own, ∀ cur, w.heap[g]? ≠ some (.cells cur 37) := fun g hg cur e => (h.away e (by decide) (by decide) (by decide) (by decide)).2.1 hg
theorem Tp.go {B : Nat} {w w' : World} {ad : Option Addr} {n c : Nat} {es : List (Nat × Nat)} {V : Pages} (h : Tp B w ad n c es V) {b b' : Bk} (hb : BkAt w b) (st : BStep w w' b b') (hg : ∀ e ∈ es, e.1 ∉ b.dp :: b.x.own) : Tp B w' ad n c es V ∧ ∀ e ∈ es, e.1 ∉ b'.dp :: b'.x.own := by
  refine ⟨h.kept st.fr hb.noS hg, fun e he hm => ?_⟩
  obtain ⟨i, hi⟩ := List.mem_iff_getElem?.1 he
  have hlt := (h.blk i e hi).1.lt
  rcases List.mem_cons.1 hm with e1 | e1
  · exact hg e he (by rw [e1, st.dp]; exact List.mem_cons_self)
  · rcases st.ow _ e1 with h1 | h1
    · exact hg e he (List.mem_cons_of_mem _ h1)
    · omega
theorem Tp.quiet {B : Nat} {w w' : World} {ad : Option Addr} {n c : Nat} {es : List (Nat × Nat)} {V : Pages} (h : Tp B w ad n c es V) (f : Fr [] w w') : Tp B w' ad n c es V := h.kept f (by simp) (by simp)
/-- A table grows: the book stays. -/
theorem Ab.tab {w0 w w' : World} {bp : Nat} {b : Bk} {K : List (Nat × Obj)} (h : Ab w0 w bp b K) {L : List Nat} (f : Fr L w w') (hL : ∀ j ∈ L, w0.heap.size ≤ j ∧ ∃ cur, w.heap[j]? = some (.cells cur 37)) (hK : ∀ p ∈ K, ∀ cur, p.2 ≠ .cells cur 37) : Ab w0 w' bp b K := by
  have hn : ∀ j ∈ L, b.bp ≠ j ∧ j ∉ b.dp :: b.x.own ∧ b.x.pp ≠ j := fun j hj => by
    obtain ⟨_, cur, hc⟩ := hL j hj
    exact h.bk.away hc (by decide) (by decide) (by decide) (by decide)
  refine ⟨h.bk.kept f (fun hm => (hn _ hm).1 rfl) (fun hm => (hn _ hm).2.1 List.mem_cons_self) (fun k hk hm => ?_), h.fr.then f (fun i hi hm => by have := (hL i hm).1; omega), h.new, h.ebp, fun p hp => ⟨f.same (fun hm => ?_) (h.kp p hp).1, (h.kp p hp).2⟩⟩
  · rcases List.mem_cons.1 hk with e | e
    · exact (hn _ hm).2.2 e.symm
    · exact (hn _ hm).2.1 (List.mem_cons_of_mem _ e)
  · obtain ⟨_, cur, hc⟩ := hL _ hm
    rw [(h.kp p hp).1] at hc
    exact hK p hp cur (Option.some.inj hc)
end Go.Proofs.YtopaeomjndblkaaGreat

namespace Go.Proofs.YtopaeomjndblkaaGreat
open Go.RowKit Go.Maps
open Pg (SpE diffS)

def DdsAt (w : World) (ad : Option Addr) (L : List DdV) : Prop :=
  ∀ i d, L[i]? = some d → DdOk w d ∧ ∃ b off, ad = some ⟨b, off, none⟩ ∧ ∀ j v, (ddV d)[j]? = some v → w.cell? ⟨b, off + i * 6 + j, none⟩ = some v
theorem DdsAt.kept {w w' : World} {ad : Option Addr} {L : List DdV} (h : DdsAt w ad L) (k : Fr [] w w') : DdsAt w' ad L := by
  intro i d hd
  obtain ⟨ok, b, off, ha, hc⟩ := h i d hd
  refine ⟨ok.kept k, b, off, ha, fun j v hv => ?_⟩
  have h1 := hc j v hv
  exact (World.cell?_of_block (k.block b (block_lt_of_cell h1) (by simp))).trans h1
/-- A book in a transaction of the law: what holds of it. -/
structure UTx (w0 w : World) (bp : Nat) (K : List (Nat × Obj)) (nb pgn a : Nat) (m : Mst) (U : Pages) (b : Bk) (H : List Ch) (V : Pages) : Prop where
  ab : Ab w0 w bp b K
  env : Env b nb m
  tx : InTx b H V
  A : b.x.y.A ≤ a
  un : undoAll H V = U
  pg : b.x.pages = pgn
theorem UTx.page {w0 w w' : World} {bp : Nat} {K : List (Nat × Obj)} {nb pgn a : Nat} {m : Mst} {U : Pages} {b : Bk} {H : List Ch} {V : Pages} (h : UTx w0 w bp K nb pgn a m U b H V) {b' : Bk} {l : List UInt8} {g : Nat} (hab : Ab w0 w' bp b' K) (P : PgTo w w' b l g b') : UTx w0 w' bp K nb pgn a m U b' H V :=
  ⟨hab, h.env.tr P.tr, P.tx _ _ h.tx, by rw [P.tr.A]; exact h.A, h.un, by rw [P.tr.pages]; exact h.pg⟩
theorem UTx.quiet {w0 w w' : World} {bp : Nat} {K : List (Nat × Obj)} {nb pgn a : Nat} {m : Mst} {U : Pages} {b : Bk} {H : List Ch} {V : Pages} (h : UTx w0 w bp K nb pgn a m U b H V) (f : Fr [] w w') : UTx w0 w' bp K nb pgn a m U b H V :=
  ⟨h.ab.quiet f, h.env, h.tx, h.A, h.un, h.pg⟩
theorem UTx.pages {w0 w : World} {bp : Nat} {K : List (Nat × Obj)} {nb pgn a : Nat} {m : Mst} {U : Pages} {b : Bk} {H : List Ch} {V : Pages} (h : UTx w0 w bp K nb pgn a m U b H V) : Calls Tryz.prog 24 #[.pointer (some ⟨bp, 0, none⟩)] w fun e w' => e = .returned (.int .i64 (pgn : Int)) ∧ w' = w := by
  have h1 := bpages_any h.ab.bk
  rw [h.ab.ebp, h.pg] at h1
  exact h1
/-- Put of 512 bytes in the law: done, or the log is full. -/
theorem UTx.put {w0 w : World} {bp : Nat} {K : List (Nat × Obj)} {nb pgn a : Nat} {m : Mst} {U : Pages} {b : Bk} {H : List Ch} {V : Pages} (h : UTx w0 w bp K nb pgn a m U b H V) (hn : nb ≤ 400) (ha : a ≤ 200000) {page : Nat} (hp : page < pgn) {g c : Nat} {data : List UInt8} (hr : RowB w g c data) (hd : data.length = 512) (hgo : g ∉ b.dp :: b.x.own) :
    Calls Tryz.prog 31 #[.pointer (some ⟨bp, 0, none⟩), .int .i64 (page : Int), .slice (some ⟨g, 0, none⟩) 512 c] w fun e w' => ∃ r : Int, e = .returned (.int .i64 r) ∧ Hid ((r = 5 ∧ ∃ b', UTx w0 w' bp K nb pgn a m U b' H V ∧ BStep w w' b b') ∨ (r = 0 ∧ ∃ b' H' V', UTx w0 w' bp K nb pgn a m U b' H' V' ∧ BStep w w' b b')) := by
  have hE := h.tx.eb h.env hn h.A
  refine (ab_put h.ab h.env h.tx (page := page) (by rw [h.pg]; exact hp) hd (by have := hr.cap; omega) hr.bytes hgo (by omega)).mono ?_
  rintro e w' ⟨r, he, HQ⟩
  obtain ⟨S, hS, hq⟩ := HQ.out
  refine ⟨r, he, hidI ?_⟩
  rcases hq with ⟨h1, _, b', h2, no⟩ | ⟨h1, _, b', H', h2, ok⟩
  · exact Or.inl ⟨h1, b', ⟨h2, h.env.tr no.tr, no.tx, by rw [no.tr.A]; exact h.A, h.un, by rw [no.tr.pages]; exact h.pg⟩, no.st⟩
  · exact Or.inr ⟨h1, b', H', _, ⟨h2, ok.env h.env, ok.tx, by rw [ok.tr.A]; exact h.A, by rw [ok.un]; exact h.un, by rw [ok.tr.pages]; exact h.pg⟩, ok.st⟩
/-- A deed's cells, wherever nothing of the memory ahead has changed. -/
theorem DdsAt.cells {w : World} {ad : Option Addr} {L : List DdV} (h : DdsAt w ad L) {i : Nat} {d : DdV} (hd : L[i]? = some d) : ∃ b off, ad = some ⟨b, off, none⟩ ∧ ∀ w', Fr [] w w' → (DdOk w' d ∧ w'.cell? ⟨b, off + i * 6, none⟩ = some (.int .i64 d.kind) ∧ w'.cell? ⟨b, off + i * 6 + 1, none⟩ = some (.int .i64 d.page) ∧ w'.cell? ⟨b, off + i * 6 + 2, none⟩ = some (.int .i64 d.off) ∧ w'.cell? ⟨b, off + i * 6 + 3, none⟩ = some (.int .i64 d.many) ∧ w'.cell? ⟨b, off + i * 6 + 4, none⟩ = some (.slice d.ad d.l.length d.c) ∧ w'.cell? ⟨b, off + i * 6 + 5, none⟩ = some (.bool d.odd)) := by
  obtain ⟨ok, b, off, ha, hc⟩ := h i d hd
  refine ⟨b, off, ha, fun w' f => ⟨ok.kept f, ?_⟩⟩
  have hk : ∀ j v, (ddV d)[j]? = some v → w'.cell? ⟨b, off + i * 6 + j, none⟩ = some v := fun j v hv => by
    have h1 := hc j v hv
    exact (World.cell?_of_block (f.block b (block_lt_of_cell h1) (by simp))).trans h1
  exact ⟨hk 0 _ rfl, hk 1 _ rfl, hk 2 _ rfl, hk 3 _ rfl, hk 4 _ rfl, hk 5 _ rfl⟩
/-- A page with a deed's bytes, and Put of it. -/
theorem UTx.written {w0 w : World} {bp : Nat} {K : List (Nat × Obj)} {nb pgn a : Nat} {m : Mst} {U : Pages} {b : Bk} {H : List Ch} {V : Pages} (h : UTx w0 w bp K nb pgn a m U b H V) {g : Nat} {l : List UInt8} (hb : Blk w g l) (hl : l.length = 512) {d : DdV} (ok : DdOk w d) :
    Calls Tryz.prog 41 #[.slice (some ⟨g, 0, none⟩) 512 512, .agg #[.int .i64 d.kind, .int .i64 d.page, .int .i64 d.off, .int .i64 d.many, .slice d.ad d.l.length d.c, .bool d.odd]] w fun e w' => ∃ g' c', e = .returned (.slice (some ⟨g', 0, none⟩) 512 c') ∧ Hid (Fr [] w w' ∧ UTx w0 w' bp K nb pgn a m U b H V ∧ ∃ l', RowB w' g' c' l' ∧ l'.length = 512 ∧ g' ∉ b.dp :: b.x.own) := by
  refine (written_any w g 512 l hl hb.bytes (Nat.le_refl _) d ok).mono ?_
  rintro e w' ⟨g', c', he, HQ⟩
  obtain ⟨l', hr, hl', hg, f⟩ := HQ.out
  refine ⟨g', c', he, hidI ⟨f, h.quiet f, l', hr, hl', fun hm => ?_⟩⟩
  have := h.ab.bk.lt g' (by rcases List.mem_cons.1 hm with e | e <;> simp [e])
  omega
theorem BStep.out {w w' : World} {b b' : Bk} (st : BStep w w' b b') {g : Nat} (hg : g ∉ b.dp :: b.x.own) (hl : g < w.heap.size) : g ∉ b'.dp :: b'.x.own := fun hm => by
  rcases List.mem_cons.1 hm with e | e
  · exact hg (by rw [e, st.dp]; exact List.mem_cons_self)
  · rcases st.ow _ e with h1 | h1
    · exact hg (List.mem_cons_of_mem _ h1)
    · omega
theorem Blk.rowB {w : World} {g : Nat} {l : List UInt8} (h : Blk w g l) : RowB w g l.length l := ⟨[], by have h1 : w.heap[g]? = some (.cells (arr l) 5) := h; simpa using h1, by simp⟩
/-- The law's table beside its book. -/
structure UTab (w0 w : World) (bp : Nat) (K : List (Nat × Obj)) (nb pgn a : Nat) (m : Mst) (U : Pages) (b : Bk) (H : List Ch) (V : Pages) (ad : Option Addr) (n c : Nat) (es : List (Nat × Nat)) : Prop where
  u : UTx w0 w bp K nb pgn a m U b H V
  t : Tp w0.heap.size w ad n c es U
  o : ∀ e ∈ es, e.1 ∉ b.dp :: b.x.own
theorem UTab.quiet {w0 w w' : World} {bp : Nat} {K : List (Nat × Obj)} {nb pgn a : Nat} {m : Mst} {U : Pages} {b : Bk} {H : List Ch} {V : Pages} {ad : Option Addr} {n c : Nat} {es : List (Nat × Nat)} (h : UTab w0 w bp K nb pgn a m U b H V ad n c es) (f : Fr [] w w') : UTab w0 w' bp K nb pgn a m U b H V ad n c es := ⟨h.u.quiet f, h.t.quiet f, h.o⟩
theorem UTab.go {w0 w w' : World} {bp : Nat} {K : List (Nat × Obj)} {nb pgn a : Nat} {m : Mst} {U : Pages} {b b' : Bk} {H H' : List Ch} {V V' : Pages} {ad : Option Addr} {n c : Nat} {es : List (Nat × Nat)} (h : UTab w0 w bp K nb pgn a m U b H V ad n c es) (u : UTx w0 w' bp K nb pgn a m U b' H' V') (st : BStep w w' b b') : UTab w0 w' bp K nb pgn a m U b' H' V' ad n c es :=
  ⟨u, (h.t.go h.u.ab.bk st h.o).1, (h.t.go h.u.ab.bk st h.o).2⟩
theorem UTab.page {w0 w w' : World} {bp : Nat} {K : List (Nat × Obj)} {nb pgn a : Nat} {m : Mst} {U : Pages} {b : Bk} {H : List Ch} {V : Pages} {ad : Option Addr} {n c : Nat} {es : List (Nat × Nat)} (h : UTab w0 w bp K nb pgn a m U b H V ad n c es) {b' : Bk} {l : List UInt8} {g : Nat} (hab : Ab w0 w' bp b' K) (P : PgTo w w' b l g b') : UTab w0 w' bp K nb pgn a m U b' H V ad n c es := h.go (h.u.page hab P) P.st
/-- A page more in the table. -/
theorem UTab.more {w0 w w' : World} {bp : Nat} {K : List (Nat × Obj)} {nb pgn a : Nat} {m : Mst} {U : Pages} {b : Bk} {H : List Ch} {V : Pages} {ad : Option Addr} {n c : Nat} {es : List (Nat × Nat)} (h : UTab w0 w bp K nb pgn a m U b H V ad n c es) {tb c' : Nat} {e : Nat × Nat} {L : List Nat} (t : Tp w0.heap.size w' (some ⟨tb, 0, none⟩) (n + 1) c' (es ++ [e]) U) (f : Fr L w w') (hL : ∀ j ∈ L, w0.heap.size ≤ j ∧ ∃ cur, w.heap[j]? = some (.cells cur 37)) (hK : ∀ p ∈ K, ∀ cur, p.2 ≠ .cells cur 37) (he : e.1 ∉ b.dp :: b.x.own) : UTab w0 w' bp K nb pgn a m U b H V (some ⟨tb, 0, none⟩) (n + 1) c' (es ++ [e]) :=
  ⟨⟨h.u.ab.tab f hL hK, h.u.env, h.u.tx, h.u.A, h.u.un, h.u.pg⟩, t, fun x hx => by
    rcases List.mem_append.1 hx with hx | hx
    · exact h.o x hx
    · simp at hx
      subst hx
      exact he⟩
/-- The law's book at rest, its table beside it. -/
structure RTab (w0 w : World) (bp : Nat) (K : List (Nat × Obj)) (nb pgn : Nat) (m : Mst) (U : Pages) (b : Bk) (ad : Option Addr) (n c : Nat) (es : List (Nat × Nat)) : Prop where
  ab : Ab w0 w bp b K
  env : Env b nb m
  idle : Idle b U
  A : b.x.y.A ≤ 90000
  E : b.x.y.E ≤ 180000
  pg : b.x.pages = pgn
  t : Tp w0.heap.size w ad n c es U
  o : ∀ e ∈ es, e.1 ∉ b.dp :: b.x.own
theorem RTab.quiet {w0 w w' : World} {bp : Nat} {K : List (Nat × Obj)} {nb pgn : Nat} {m : Mst} {U : Pages} {b : Bk} {ad : Option Addr} {n c : Nat} {es : List (Nat × Nat)} (h : RTab w0 w bp K nb pgn m U b ad n c es) (f : Fr [] w w') : RTab w0 w' bp K nb pgn m U b ad n c es := ⟨h.ab.quiet f, h.env, h.idle, h.A, h.E, h.pg, h.t.quiet f, h.o⟩
theorem RTab.page {w0 w w' : World} {bp : Nat} {K : List (Nat × Obj)} {nb pgn : Nat} {m : Mst} {U : Pages} {b : Bk} {ad : Option Addr} {n c : Nat} {es : List (Nat × Nat)} (h : RTab w0 w bp K nb pgn m U b ad n c es) {b' : Bk} {l : List UInt8} {g : Nat} (hab : Ab w0 w' bp b' K) (P : PgTo w w' b l g b') : RTab w0 w' bp K nb pgn m U b' ad n c es :=
  ⟨hab, h.env.tr P.tr, P.idle _ h.idle, by rw [P.tr.A]; exact h.A, by rw [P.E]; exact h.E, by rw [P.tr.pages]; exact h.pg, (h.t.go h.ab.bk P.st h.o).1, (h.t.go h.ab.bk P.st h.o).2⟩
theorem RTab.pages {w0 w : World} {bp : Nat} {K : List (Nat × Obj)} {nb pgn : Nat} {m : Mst} {U : Pages} {b : Bk} {ad : Option Addr} {n c : Nat} {es : List (Nat × Nat)} (h : RTab w0 w bp K nb pgn m U b ad n c es) : Calls Tryz.prog 24 #[.pointer (some ⟨bp, 0, none⟩)] w fun e w' => e = .returned (.int .i64 (pgn : Int)) ∧ w' = w := by
  have h1 := bpages_any h.ab.bk
  rw [h.ab.ebp, h.pg] at h1
  exact h1
end Go.Proofs.YtopaeomjndblkaaGreat

namespace Go.Proofs.YtopaeomjndblkaaGreat
open Go.RowKit Go.Deep Go.ChangeShapes Go.WideShapes Go.ChangeAt

theorem Tryz.celDd : Tryz.prog.cellsOf 64 = 6 := by kernel_rfl
theorem Tryz.celDb : Tryz.prog.cellsOf 4 = 1 := by kernel_rfl
theorem Tryz.celDi : Tryz.prog.cellsOf 3 = 1 := by kernel_rfl
theorem Tryz.celDs : Tryz.prog.cellsOf 37 = 1 := by kernel_rfl
section
variable {H : Type} {enc : TypeId × Value → H} {w : World} {base : Nat} {spare : Nat → Bool} {held : Bool}
theorem list6 {α : Type} {l : List α} (h : l.length = 6) : ∃ c0 c1 c2 c3 c4 c5, l = [c0, c1, c2, c3, c4, c5] := by
  match l, h with
  | [c0, c1, c2, c3, c4, c5], _ => exact ⟨c0, c1, c2, c3, c4, c5, rfl⟩
set_option maxRecDepth 100000 in
theorem dd_open {fuel : Nat} {cs : List Value} {x : DataW H × List MemPlace} (h : DataW.trod enc Tryz.prog w base spare held fuel 64 cs = some x) : ∃ d, DdOk w d ∧ cs = ddV d := by
  obtain ⟨xs, n, _, _, hl, hxl, hff⟩ := DataW.trod_struct Tryz.underlying64 h
  rw [Tryz.celDd] at hl
  obtain ⟨c0, c1, c2, c3, c4, c5, rfl⟩ := list6 hl
  obtain ⟨y0, y1, y2, y3, y4, y5, rfl⟩ := list6 hxl
  have t0 := hff 0 _ rfl
  have t1 := hff 1 _ rfl
  have t2 := hff 2 _ rfl
  have t3 := hff 3 _ rfl
  have t4 := hff 4 _ rfl
  have t5 := hff 5 _ rfl
  simp [Tryz.celDi, Tryz.celDs, Tryz.celDb] at t0 t1 t2 t3 t4 t5
  obtain ⟨v0, e0, _, w0⟩ := DataW.trod_int Tryz.underlying3 t0
  obtain ⟨v1, e1, _, w1⟩ := DataW.trod_int Tryz.underlying3 t1
  obtain ⟨v2, e2, _, w2⟩ := DataW.trod_int Tryz.underlying3 t2
  obtain ⟨v3, e3, _, w3⟩ := DataW.trod_int Tryz.underlying3 t3
  obtain ⟨a8, n8, d8, L8, e8, h8, k8, m8, b8, z8, _⟩ := bytes_open2 t4
  obtain ⟨v5, e5, _⟩ := DataW.trod_bool Tryz.underlying4 t5
  simp at e0 e1 e2 e3 e5 e8
  subst e0 e1 e2 e3 e5 e8 h8
  refine ⟨⟨v0, v1, v2, v3, a8, d8, L8, v5⟩, ⟨w0, w1, w2, w3, b8, fun e => ⟨?_, z8 e⟩, Nat.le_trans k8 m8, k8⟩, rfl⟩
  subst e
  cases L8 with
  | nil => rfl
  | cons x l => obtain ⟨_, _, e, _⟩ := b8.at 0 (by simp); cases e
set_option maxRecDepth 100000 in
theorem dds_open {fuel : Nat} {cs : List Value} {x : DataW H × List MemPlace} (h : DataW.trod enc Tryz.prog w base spare held fuel 52 cs = some x) :
    ∃ ad len cap L, cs = [.slice ad len cap] ∧ L.length = len ∧ len ≤ cap ∧ cap ≤ maxLen ∧ DdsAt w ad L := by
  rcases open_slice Tryz.underlying52 h with ⟨hcs, _⟩ | ⟨a, len, cap, m, n, D, Pl, rfl, _, hl, hm, hmm, _, hx⟩
  · exact ⟨none, 0, 0, [], hcs, rfl, Nat.le_refl _, by unfold maxLen; omega, fun i f hf => by simp at hf⟩
  · have hlm : len ≤ m := by rw [hmm]; split <;> omega
    rw [Tryz.celDd] at hx
    have hel : ∀ i, i < m → ∃ d : DdV, DdOk w d ∧ ∀ j v, (ddV d)[j]? = some v → w.cell? ((a.add (i * 6)).add j) = some v := by
      intro i hi
      obtain ⟨cs', h1, h2⟩ := hx i hi
      obtain ⟨_, hlen, hc⟩ := World.cells?_some h1
      obtain ⟨d, hok, rfl⟩ := dd_open h2
      refine ⟨d, hok, fun j v hv => ?_⟩
      have hj := (List.getElem?_eq_some_iff.1 hv).1
      have q := hc j (by have h3 : (ddV d).length = 6 := rfl; omega)
      rw [q]
      exact hv
    haveI : Inhabited DdV := ⟨⟨0, 0, 0, 0, none, 0, [], false⟩⟩
    obtain ⟨f, hf⟩ := choose_lt (α := DdV) hel
    refine ⟨some a, len, cap, (List.range len).map f, rfl, by simp, hl, hm, ?_⟩
    intro i g hg
    have hi : i < len := by
      have := (List.getElem?_eq_some_iff.1 hg).1
      simpa using this
    have eg : g = f i := by
      rw [List.getElem?_map, List.getElem?_range hi] at hg
      simpa using hg.symm
    subst eg
    have h0 := (hf 0 (by omega)).2 0 _ rfl
    obtain ⟨b, off, spot⟩ := a
    have hspot : spot = none := by simpa [Addr.add] using World.cell?_spot h0
    subst hspot
    obtain ⟨ok, hc⟩ := hf i (by omega)
    refine ⟨ok, b, off, rfl, fun j v hv => ?_⟩
    have h3 := hc j v hv
    rw [Addr.add_mid, Addr.add_mid] at h3
    exact h3
end
end Go.Proofs.YtopaeomjndblkaaGreat

namespace Go.Proofs.YtopaeomjndblkaaGreat
open Go.RowKit Go.Maps

theorem read_out {w : World} {pp : Nat} {x : Pf} (h : PBox' w pp x) {k : Int} (hk : k < 0 ∨ (x.pages : Int) ≤ k) :
    Calls Tryz.prog 71 #[.pointer (some ⟨pp, 0, none⟩), .int .i64 k] w fun e w' => e = .returned (.tuple #[.slice none 0 0, .int .i64 6]) ∧ w' = w := by
  go_enter Tryz.func71, Tryz.ntmps71
  go_wp2_with (go_at_call 171; refine (reach_out h hk).mono ?_; rintro e wz ⟨rfl, hz⟩; rw [hz]; clear hz)
  go_ret2
  exact ⟨rfl, rfl⟩
end Go.Proofs.YtopaeomjndblkaaGreat

namespace Go.Proofs.YtopaeomjndblkaaGreat
open Go.RowKit Go.Maps

theorem nodev (w : World) : Dv.NoDev w (.pointer none) := by first | exact Or.inl rfl | exact Dv.NoDev.nil w | (unfold Dv.NoDev; simp)
set_option maxRecDepth 100000 in
theorem format_nil (w : World) : Calls Tryz.prog 37 #[.pointer none] w fun e w' => e = .returned (.int .i64 1) ∧ Fr [] w w' := by
  have f1 : Fr [] w (w.alloc (.cells #[.pointer none] 24)) := (Fr.refl [] w).alloc _
  have bx := heap_alloc_new w (.cells #[.pointer none] 24)
  obtain ⟨w1, hw1⟩ : ∃ w1, w.alloc (.cells #[.pointer none] 24) = w1 := ⟨_, rfl⟩
  rw [hw1] at f1 bx
  have x0 := cell_of_row w1 w.heap.size 0 _ _ _ bx
  go_enter Tryz.func37, Tryz.ntmps37
  go_wp2_with (go_at_call 120; refine (Dv.blocks_none _ _ (nodev _)).mono ?_; rintro e w3 ⟨rfl, hz⟩; rw [hz]; clear hz)
  go_ret
  exact ⟨rfl, f1⟩
set_option maxRecDepth 100000 in
theorem format_few (w : World) (d bs bo : Nat) (nb : Int) (S O : Dv.Tab) (hd : Dv.Dev w d bs bo nb 0 false S O) (h0 : 0 < nb) (hn : nb < 24) :
    Calls Tryz.prog 37 #[.pointer (some ⟨d, 0, none⟩)] w fun e w' => e = .returned (.int .i64 2) ∧ Fr [] w w' := by
  have z0 : ¬ nb = 0 := by omega
  have f1 : Fr [] w (w.alloc (.cells #[.pointer (some ⟨d, 0, none⟩)] 24)) := (Fr.refl [] w).alloc _
  have bx := heap_alloc_new w (.cells #[.pointer (some ⟨d, 0, none⟩)] 24)
  obtain ⟨w1, hw1⟩ : ∃ w1, w.alloc (.cells #[.pointer (some ⟨d, 0, none⟩)] 24) = w1 := ⟨_, rfl⟩
  rw [hw1] at f1 bx
  have D1 := hidI (dev_kept hd f1 (by simp) (by simp) (by simp))
  have x0 := cell_of_row w1 w.heap.size 0 _ _ _ bx
  clear hd
  go_enter Tryz.func37, Tryz.ntmps37
  go_wp2_with (go_at_call 120; refine (Dv.blocks_dev D1.out).mono ?_; rintro e w3 ⟨rfl, hz⟩; rw [hz]; clear hz)
  go_ret
  exact ⟨rfl, f1⟩
set_option maxRecDepth 100000 in
/-- No book of what no master stands on. -/
theorem new_no (w : World) (d : Option Addr) (l p : Option Addr) (k : Int) (hk : k ≠ 0) (hr : Calls Tryz.prog 35 #[.pointer d] w fun e w' => e = .returned (.tuple #[.agg (mV ⟨0, 0, 0⟩), .int .i64 k]) ∧ Fr [] w w') :
    Calls Tryz.prog 39 #[.pointer d, .pointer l, .pointer p] w fun e w' => e = .returned (.pointer none) ∧ Fr [] w w' := by
  have HR := hidI hr
  clear hr
  go_enter Tryz.func39, Tryz.ntmps39
  go_wp2_with fail
  refine HR.out.mono ?_
  unfold mV
  rintro e w2 ⟨rfl, f2⟩
  have f3 : Fr [] w2 (w2.alloc (.cells #[.int .i64 0, .int .i64 0, .int .i64 0] 72)) := (Fr.refl [] w2).alloc _
  go_wp2_with fail
  go_ret
  exact ⟨rfl, f2.trans f3⟩
end Go.Proofs.YtopaeomjndblkaaGreat

namespace Go.Proofs.YtopaeomjndblkaaGreat
open Go.RowKit Go.Maps

section
variable {w0 w : World} {bp : Nat} {b : Bk} {K : List (Nat × Obj)} (h : Ab w0 w bp b K)
include h
theorem cbeg_in (hs : b.t.st = 1) : Calls Tryz.prog 30 #[.pointer (some ⟨bp, 0, none⟩)] w fun e w' => e = .returned (.int .i64 7) ∧ w' = w := by
  have HI := idle_in h.bk.box h.bk.dl (by rw [hs]; decide)
  rw [h.ebp] at HI
  clear h hs
  go_enter Tryz.func30, Tryz.ntmps30
  go_wp2_with (go_at_call 94; refine HI.mono ?_; rintro e wz ⟨rfl, hz⟩; rw [hz]; clear hz)
  go_ret
  exact ⟨rfl, rfl⟩
theorem cpoint_in (hs : b.t.st = 1) : Calls Tryz.prog 34 #[.pointer (some ⟨bp, 0, none⟩)] w fun e w' => e = .returned (.int .i64 7) ∧ Fr [] w w' := by
  have f := (Fr.refl [] w).alloc (.cells #[.pointer (some ⟨bp, 0, none⟩)] 60)
  have hg := heap_alloc_new w (.cells #[.pointer (some ⟨bp, 0, none⟩)] 60)
  have HI := idle_in (h.quiet f).bk.box (h.quiet f).bk.dl (by rw [hs]; decide)
  rw [h.ebp] at HI
  clear h hs
  go_enter Tryz.func34, Tryz.ntmps34
  go_upto_region 2 with fail
  obtain ⟨z, hz⟩ : ∃ z, w.heap.size = z := ⟨_, rfl⟩
  rw [hz] at hg ⊢
  generalize w.alloc (.cells #[.pointer (some ⟨bp, 0, none⟩)] 60) = w1 at f hg HI ⊢
  have c := cell_of_row w1 z 0 _ _ _ hg
  clear hz
  go_wp2_with (go_at_call 94; refine HI.mono ?_; rintro e wz ⟨rfl, hz⟩; rw [hz]; clear hz)
  go_ret
  exact ⟨rfl, f⟩
theorem ccom_out (hs : b.t.st = 0) : Calls Tryz.prog 32 #[.pointer (some ⟨bp, 0, none⟩)] w fun e w' => e = .returned (.int .i64 7) ∧ Fr [] w w' := by
  have fa : Fr [] w (w.alloc (.cells #[.pointer (some ⟨bp, 0, none⟩)] 60)) := (Fr.refl [] w).alloc _
  have hB := heap_alloc_new w (.cells #[.pointer (some ⟨bp, 0, none⟩)] 60)
  have hs1 : (w.alloc (.cells #[.pointer (some ⟨bp, 0, none⟩)] 60)).heap.size = w.heap.size + 1 := by simp
  obtain ⟨w1, hw1⟩ : ∃ w1, w.alloc (.cells #[.pointer (some ⟨bp, 0, none⟩)] 60) = w1 := ⟨_, rfl⟩
  rw [hw1] at fa hB hs1
  have c0 := cell_of_row w1 w.heap.size 0 _ _ _ hB
  have fb : Fr [] w1 (w1.alloc (.cells #[.int .i64 1, .int .i64 2] 166)) := (Fr.refl [] w1).alloc _
  have hst := heap_alloc_new w1 (.cells #[.int .i64 1, .int .i64 2] 166)
  rw [hs1] at hst
  obtain ⟨w2, hw2⟩ : ∃ w2, w1.alloc (.cells #[.int .i64 1, .int .i64 2] 166) = w2 := ⟨_, rfl⟩
  rw [hw2] at fb hst
  have H2 := (h.quiet fa).quiet fb
  have WX := within_out H2.bk.box H2.bk.dl hs (w.heap.size + 1) 2 2 (by decide) (fun i hi => by
    rw [cell_of_row w2 _ i _ _ _ hst]
    match i, hi with
    | 0, _ => exact ⟨1, by decide, rfl⟩
    | 1, _ => exact ⟨2, by decide, rfl⟩
    )
  rw [H2.ebp] at WX
  have FF := hidI (fa.trans fb)
  clear h hs fa hB hst fb H2
  go_enter Tryz.func32, Tryz.ntmps32
  go_wp2_with (go_at_call 96; refine WX.mono ?_; rintro e wz ⟨rfl, hz⟩; rw [hz]; clear hz)
  go_ret
  exact ⟨rfl, FF.out⟩
theorem cabo_out (hs : b.t.st = 0) : Calls Tryz.prog 33 #[.pointer (some ⟨bp, 0, none⟩)] w fun e w' => e = .returned (.int .i64 7) ∧ Fr [] w w' := by
  have fa : Fr [] w (w.alloc (.cells #[.pointer (some ⟨bp, 0, none⟩)] 60)) := (Fr.refl [] w).alloc _
  have hB := heap_alloc_new w (.cells #[.pointer (some ⟨bp, 0, none⟩)] 60)
  have hs1 : (w.alloc (.cells #[.pointer (some ⟨bp, 0, none⟩)] 60)).heap.size = w.heap.size + 1 := by simp
  obtain ⟨w1, hw1⟩ : ∃ w1, w.alloc (.cells #[.pointer (some ⟨bp, 0, none⟩)] 60) = w1 := ⟨_, rfl⟩
  rw [hw1] at fa hB hs1
  have c0 := cell_of_row w1 w.heap.size 0 _ _ _ hB
  have fb : Fr [] w1 (w1.alloc (.cells #[.int .i64 1, .int .i64 2, .int .i64 3] 166)) := (Fr.refl [] w1).alloc _
  have hst := heap_alloc_new w1 (.cells #[.int .i64 1, .int .i64 2, .int .i64 3] 166)
  rw [hs1] at hst
  obtain ⟨w2, hw2⟩ : ∃ w2, w1.alloc (.cells #[.int .i64 1, .int .i64 2, .int .i64 3] 166) = w2 := ⟨_, rfl⟩
  rw [hw2] at fb hst
  have H2 := (h.quiet fa).quiet fb
  have WX := within_out H2.bk.box H2.bk.dl hs (w.heap.size + 1) 3 3 (by decide) (fun i hi => by
    rw [cell_of_row w2 _ i _ _ _ hst]
    match i, hi with
    | 0, _ => exact ⟨1, by decide, rfl⟩
    | 1, _ => exact ⟨2, by decide, rfl⟩
    | 2, _ => exact ⟨3, by decide, rfl⟩
    )
  rw [H2.ebp] at WX
  have FF := hidI (fa.trans fb)
  clear h hs fa hB hst fb H2
  go_enter Tryz.func33, Tryz.ntmps33
  go_wp2_with (go_at_call 96; refine WX.mono ?_; rintro e wz ⟨rfl, hz⟩; rw [hz]; clear hz)
  go_ret
  exact ⟨rfl, FF.out⟩
theorem cput_out (hs : b.t.st = 0) (k : Int) (v : Value) : Calls Tryz.prog 31 #[.pointer (some ⟨bp, 0, none⟩), .int .i64 k, v] w fun e w' => e = .returned (.int .i64 7) ∧ Fr [] w w' := by
  have fa : Fr [] w (w.alloc (.cells #[.int .i64 1] 166)) := (Fr.refl [] w).alloc _
  have hst := heap_alloc_new w (.cells #[.int .i64 1] 166)
  obtain ⟨w1, hw1⟩ : ∃ w1, w.alloc (.cells #[.int .i64 1] 166) = w1 := ⟨_, rfl⟩
  rw [hw1] at fa hst
  have H2 := h.quiet fa
  have WX := within_out H2.bk.box H2.bk.dl hs w.heap.size 1 1 (by decide) (fun i hi => by
    rw [cell_of_row w1 _ i _ _ _ hst]
    match i, hi with
    | 0, _ => exact ⟨1, by decide, rfl⟩)
  rw [H2.ebp] at WX
  have FF := hidI fa
  clear h hs fa hst H2
  go_enter Tryz.func31, Tryz.ntmps31
  go_wp2_with (go_at_call 96; refine WX.mono ?_; rintro e wz ⟨rfl, hz⟩; rw [hz]; clear hz)
  go_ret
  exact ⟨rfl, FF.out⟩
theorem cput_none (hs : b.t.st = 1) (k : Int) (hk : k < 0 ∨ (b.x.pages : Int) ≤ k) (v : Value) : Calls Tryz.prog 31 #[.pointer (some ⟨bp, 0, none⟩), .int .i64 k, v] w fun e w' => e = .returned (.int .i64 6) ∧ Fr [] w w' := by
  have fa : Fr [] w (w.alloc (.cells #[.int .i64 1] 166)) := (Fr.refl [] w).alloc _
  have hst := heap_alloc_new w (.cells #[.int .i64 1] 166)
  obtain ⟨w1, hw1⟩ : ∃ w1, w.alloc (.cells #[.int .i64 1] 166) = w1 := ⟨_, rfl⟩
  rw [hw1] at fa hst
  have H2 := h.quiet fa
  have WX := within_in H2.bk.box H2.bk.dl hs w.heap.size 1 1 (by decide) (cell_of_row w1 _ 0 _ _ _ hst)
  rw [H2.ebp] at WX
  have PX := pages_any H2.bk.po.box
  rw [show b.x.pf.pages = b.x.pages from rfl] at PX
  have c2 : w1.cell? ⟨bp, 2, none⟩ = some (.pointer (some ⟨b.x.pp, 0, none⟩)) := by
    have h2 := H2.bk.box.c2
    rw [H2.ebp] at h2
    exact h2
  have FF := hidI fa
  clear h hs fa hst H2
  by_cases h0 : k < 0
  · clear hk
    go_enter Tryz.func31, Tryz.ntmps31
    go_wp2_with (first
      | (go_at_call 96; refine WX.mono ?_; rintro e wz ⟨rfl, hz⟩; rw [hz]; clear hz)
      | (go_at_call 17; refine PX.mono ?_; rintro e wz ⟨rfl, hz⟩; rw [hz]; clear hz))
    go_ret
    exact ⟨rfl, FF.out⟩
  · have h1 : (b.x.pages : Int) ≤ k := by omega
    clear hk
    go_enter Tryz.func31, Tryz.ntmps31
    go_wp2_with (first
      | (go_at_call 96; refine WX.mono ?_; rintro e wz ⟨rfl, hz⟩; rw [hz]; clear hz)
      | (go_at_call 17; refine PX.mono ?_; rintro e wz ⟨rfl, hz⟩; rw [hz]; clear hz))
    go_ret
    exact ⟨rfl, FF.out⟩
theorem cput_arg (hs : b.t.st = 1) (k : Int) (h0 : ¬ k < 0) (h1 : ¬ (b.x.pages : Int) ≤ k) (ad : Option Addr) (n c : Nat) (hn : n ≠ 512) : Calls Tryz.prog 31 #[.pointer (some ⟨bp, 0, none⟩), .int .i64 k, .slice ad n c] w fun e w' => e = .returned (.int .i64 2) ∧ Fr [] w w' := by
  have fa : Fr [] w (w.alloc (.cells #[.int .i64 1] 166)) := (Fr.refl [] w).alloc _
  have hst := heap_alloc_new w (.cells #[.int .i64 1] 166)
  obtain ⟨w1, hw1⟩ : ∃ w1, w.alloc (.cells #[.int .i64 1] 166) = w1 := ⟨_, rfl⟩
  rw [hw1] at fa hst
  have H2 := h.quiet fa
  have WX := within_in H2.bk.box H2.bk.dl hs w.heap.size 1 1 (by decide) (cell_of_row w1 _ 0 _ _ _ hst)
  rw [H2.ebp] at WX
  have PX := pages_any H2.bk.po.box
  rw [show b.x.pf.pages = b.x.pages from rfl] at PX
  have c2 : w1.cell? ⟨bp, 2, none⟩ = some (.pointer (some ⟨b.x.pp, 0, none⟩)) := by
    have h2 := H2.bk.box.c2
    rw [H2.ebp] at h2
    exact h2
  have FF := hidI fa
  have hn1 : ((n : Int) != 512) = true := by simp; omega
  clear h hs fa hst H2 hn
  go_enter Tryz.func31, Tryz.ntmps31
  go_wp2_with (first
    | (go_at_call 96; refine WX.mono ?_; rintro e wz ⟨rfl, hz⟩; rw [hz]; clear hz)
    | (go_at_call 17; refine PX.mono ?_; rintro e wz ⟨rfl, hz⟩; rw [hz]; clear hz))
  go_ret
  exact ⟨rfl, FF.out⟩
theorem cpage_none (k : Int) (hk : k < 0 ∨ (b.x.pages : Int) ≤ k) : Calls Tryz.prog 28 #[.pointer (some ⟨bp, 0, none⟩), .int .i64 k] w fun e w' => e = .returned (.tuple #[.slice none 0 0, .int .i64 6]) ∧ w' = w := by
  have MX := bmade_yes h.bk.box
  rw [h.ebp] at MX
  have RX := read_out h.bk.po.box hk
  have c2 : w.cell? ⟨bp, 2, none⟩ = some (.pointer (some ⟨b.x.pp, 0, none⟩)) := by
    have h2 := h.bk.box.c2
    rw [h.ebp] at h2
    exact h2
  clear h hk
  go_enter Tryz.func28, Tryz.ntmps28
  go_wp2_with (first
    | (go_at_call 88; refine MX.mono ?_; rintro e wz ⟨rfl, hz⟩; rw [hz]; clear hz)
    | (go_at_call 71; refine RX.mono ?_; rintro e wz ⟨rfl, hz⟩; rw [hz]; clear hz))
  go_ret2
  exact ⟨rfl, rfl⟩
end
end Go.Proofs.YtopaeomjndblkaaGreat

namespace Go.Proofs.YtopaeomjndblkaaGreat
open Go.RowKit Go.Maps
open Pg (SpE diffS)

theorem Tp.low {B B0 : Nat} {w : World} {ad : Option Addr} {n c : Nat} {es : List (Nat × Nat)} {V : Pages} (h : Tp B w ad n c es V) (hb : B0 ≤ B) : Tp B0 w ad n c es V := by
  refine ⟨⟨h.own.1, ?_⟩, fun i e he => ⟨(h.blk i e he).1, (h.blk i e he).2.1, Nat.le_trans hb (h.blk i e he).2.2⟩⟩
  rcases h.own.2 with h1 | ⟨g, cap, cur, h1, h2, h3⟩
  · exact Or.inl h1
  · exact Or.inr ⟨g, cap, cur, h1, Nat.le_trans hb h2, h3⟩
/-- One page of a table is another one. -/
theorem Tp.set {B : Nat} {w : World} {ad : Option Addr} {n c : Nat} {es : List (Nat × Nat)} {V : Pages} (h : Tp B w ad n c es V) {i : Nat} (hi : i < n) {e : Nat × Nat} {data : List UInt8} (hr : RowB w e.1 e.2 data) (hl : data.length = 512) (hB : B ≤ e.1) :
    ∃ tb, ad = some ⟨tb, 0, none⟩ ∧ w.frozen? ⟨tb, i, none⟩ = false ∧ B ≤ tb ∧ (∃ cur, w.heap[tb]? = some (.cells cur 37)) ∧ Fr [tb] w (w.setCell ⟨tb, i, none⟩ (pgV e)) ∧ Tp B (w.setCell ⟨tb, i, none⟩ (pgV e)) ad n c (es.set i e) (setPg V i data) := by
  have hlen := h.len
  rcases h.own.2 with ⟨_, h0⟩ | ⟨g, cap, cur, hv, hb, hg, hcap, hmx, hsz, htk⟩
  · omega
  · cases hv
    have f := fr_set w g i (pgV e)
    have hg2 := heap_setCell_same w g i _ _ (pgV e) hg
    have hout : ∀ {g2 c2 : Nat} {l2 : List UInt8}, RowB w g2 c2 l2 → g2 ∉ [g] := fun hr hm => by
      obtain ⟨tl, h6, _⟩ := hr
      rw [List.mem_singleton.1 hm, hg] at h6
      simp at h6
    refine ⟨g, rfl, frozen_of_row w g _ _ _ hg, hb, ⟨cur, hg⟩, f, ⟨⟨by rw [List.length_map, List.length_set]; simpa using hlen, Or.inr ⟨g, c, _, rfl, hb, hg2, hcap, hmx, by simpa using hsz, ?_⟩⟩, fun k e' he' => ?_⟩⟩
    · rw [List.map_set, Array.toList_setIfInBounds]
      rw [List.take_set]
      simp only [Nat.mul_one] at htk ⊢
      rw [htk]
    · rw [List.getElem?_set] at he'
      unfold setPg
      by_cases ek : i = k
      · subst ek
        rw [if_pos rfl, if_pos (by omega)] at he'
        have e2 : e = e' := by simpa using he'
        subst e2
        rw [if_pos rfl]
        exact ⟨hr.kept f (hout hr), hl, hB⟩
      · rw [if_neg ek] at he'
        rw [if_neg (fun x => ek x.symm)]
        have h5 := h.blk k e' he'
        exact ⟨h5.1.kept f (hout h5.1), h5.2⟩
set_option maxHeartbeats 2000000 in
set_option maxRecDepth 100000 in
theorem copied_tab {B : Nat} {w : World} {ad : Option Addr} {n c : Nat} {es : List (Nat × Nat)} {V : Pages} (h : Tp B w ad n c es V) (hn : n ≤ 1000) :
    Calls Tryz.prog 90 #[.slice ad n c] w fun e w' => ∃ ad' c' es', e = .returned (.slice ad' n c') ∧ Hid (Tp w.heap.size w' ad' n c' es' V ∧ Fr [] w w') := by
  have HT := hidI h
  clear h
  go_enter Tryz.func90, Tryz.ntmps90
  go_wp2_with fail
  go_loopw [3, 4] (fun s3 s4 wr => ∃ (a : Option Addr) (c' j : Nat), s3 = .slice a j c' ∧ s4 = .int .i64 (j : Int) ∧ j ≤ n ∧ Hid (∃ es', Tp w.heap.size wr a j c' es' V ∧ Fr [] w wr)) (fun _ s4 _ => n - (intOf s4).toNat)
  case atStart => exact ⟨none, 0, 0, rfl, rfl, by omega, hidI ⟨[], Tp.nil _ _ _, Fr.refl _ _⟩⟩
  case round =>
    obtain ⟨a, c', j, rfl, rfl, hj, HR⟩ := hrel
    obtain ⟨es', HX⟩ : ∃ es', Hid (Tp w.heap.size wr a j c' es' V ∧ Fr [] w wr) := by
      obtain ⟨es', h⟩ := HR.out
      exact ⟨es', hidI h⟩
    clear HR
    by_cases hlt : j < n
    · have q1 : (j : Int) < (n : Int) := by omega
      have q0 : (0 : Int) ≤ (j : Int) := by omega
      have T1 := HT.out.quiet HX.out.2
      obtain ⟨tb, e, rfl, he, hc⟩ := T1.at j hlt
      have hc' : wr.cell? ⟨tb, j, none⟩ = some (.slice (some ⟨e.1, 0, none⟩) 512 e.2) := hc
      obtain ⟨hr, hl, _⟩ := T1.blk j e he
      have CX := copy_new wr e.1 e.2 (V j) hl hr.bytes (by have := hr.cap; omega)
      have HL := hidI hl
      clear hc hr hl he T1
      go_wp2_with (first
        | (go_at_call 42; refine CX.mono ?_; rintro e6 w6 ⟨g6, c6, rfl, R6, hg6, f6⟩; have f7 : Fr [] w6 (w6.alloc (.cells #[pgV (g6, c6)] 37)) := (Fr.refl [] w6).alloc _; have h7 := heap_alloc_new w6 (.cells #[pgV (g6, c6)] 37); obtain ⟨w7, hw7⟩ : ∃ w7, w6.alloc (.cells #[.slice (some ⟨g6, 0, none⟩) 512 c6] 37) = w7 := ⟨_, rfl⟩; have hw8 : w6.alloc (.cells #[pgV (g6, c6)] 37) = w7 := hw7; rw [hw8] at f7 h7; have T7 := hidI ((HX.out.1.quiet f6).quiet f7); have R7 := hidI (R6.kept f7 (by simp)); have F7 := hidI ((HX.out.2.trans f6).trans f7); clear R6 CX hw8)
        | (refine wp_appP rfl _ _ rfl w.heap.size a j c' es' V w6.heap.size (g6, c6) rfl rfl T7.out h7 ⟨R7.out, HL.out, Nat.le_trans HX.out.2.size hg6⟩ F7.out.size (by omega) ?_; intro tb8 c8 w8 L8 t8 f8 hL8))
      exact ⟨⟨some ⟨tb8, 0, none⟩, c8, j + 1, rfl, rfl, by omega, hidI ⟨_, t8, F7.out.then f8 (fun i hi hm => by have := (hL8 i hm).1; omega)⟩⟩, by simp [intOf]; omega⟩
    · have q1 : ¬ (j : Int) < (n : Int) := by omega
      obtain rfl : j = n := by omega
      go_wp2_with fail
      go_ret
      exact ⟨_, _, rfl, es', HX⟩
theorem psize_any (w : World) (p q : Int) (a1 a2 : Option Addr) (n1 c1 n2 c2 : Nat) (h : n2 ≤ 1000000) : Calls Tryz.prog 193 #[.agg #[.int .i64 p, .int .i64 q, .slice a1 n1 c1, .slice a2 n2 c2]] w fun e w' => e = .returned (.int .i64 (43 + 2 * (n2 : Int))) ∧ Fr [] w w' := by
  have e0 : IntKind.i64.wrap (2 * (n2 : Int)) = 2 * (n2 : Int) := wrapI _ (by omega) (by omega)
  have e1 : IntKind.i64.wrap (43 + 2 * (n2 : Int)) = 43 + 2 * (n2 : Int) := wrapI _ (by omega) (by omega)
  go_enter Tryz.func193, Tryz.ntmps193
  go_wp2
  go_ret
  exact ⟨by go_num, (Fr.refl [] w).alloc _⟩
theorem pundo_any (w : World) (p q : Int) (a1 a2 : Option Addr) (n1 c1 n2 c2 : Nat) (h : n2 ≤ 1000000) : Calls Tryz.prog 194 #[.agg #[.int .i64 p, .int .i64 q, .slice a1 n1 c1, .slice a2 n2 c2]] w fun e w' => e = .returned (.int .i64 (51 + (n2 : Int))) ∧ Fr [] w w' := by
  have e1 : IntKind.i64.wrap (51 + (n2 : Int)) = 51 + (n2 : Int) := wrapI _ (by omega) (by omega)
  go_enter Tryz.func194, Tryz.ntmps194
  go_wp2
  go_ret
  exact ⟨by go_num, (Fr.refl [] w).alloc _⟩
end Go.Proofs.YtopaeomjndblkaaGreat

namespace Go.Proofs.YtopaeomjndblkaaGreat
open Go.RowKit Go.Maps
open Pg (SpE diffS)

theorem blkt_ne {w : World} {a b : Nat} {c1 c2 : Array Value} {t1 t2 : TypeId} (h1 : w.heap[a]? = some (.cells c1 t1)) (h2 : w.heap[b]? = some (.cells c2 t2)) (ht : t1 ≠ t2) : a ≠ b := by
  rintro rfl
  rw [h1] at h2
  cases h2
  exact ht rfl
def rgc (dd ll pp bp : Nat) : Array Value := #[.pointer (some ⟨dd, 0, none⟩), .pointer (some ⟨ll, 0, none⟩), .pointer (some ⟨pp, 0, none⟩), .pointer (some ⟨bp, 0, none⟩)]
def mdl (aN : Option Addr) (n cN : Nat) (aW : Option Addr) (nW cW : Nat) (i : Bool) (ow ch : Int) : Array Value := #[.slice aN n cN, .slice aW nW cW, .bool i, .int .i64 ow, .int .i64 ch]
/-- The rig and the model in memory, beside the book. -/
structure Cg (w0 w : World) (rg mb bp dd ll pp nb pgn : Nat) (M : Array Value) (b : Bk) (m : Mst) : Prop where
  ab : Ab w0 w bp b [(rg, .cells (rgc dd ll pp bp) 62), (mb, .cells M 59)]
  env : Env b nb m
  d : b.x.y.d = dd
  l : b.x.y.p = ll
  pg : b.x.pages = pgn
  lm : w0.heap.size ≤ mb
  tn : m.turn = 1
  nb1 : nb ≤ 120
/-- A table beside a book. -/
structure Tb (w0 w : World) (b : Bk) (ad : Option Addr) (n c : Nat) (es : List (Nat × Nat)) (V : Pages) : Prop where
  t : Tp w0.heap.size w ad n c es V
  o : ∀ e ∈ es, e.1 ∉ b.dp :: b.x.own
section
variable {w0 w w' : World} {rg mb bp dd ll pp nb pgn : Nat} {M M' : Array Value} {b b' : Bk} {m m' : Mst} {ad : Option Addr} {n c : Nat} {es : List (Nat × Nat)} {V : Pages}
theorem Cg.rk (h : Cg w0 w rg mb bp dd ll pp nb pgn M b m) : w.heap[rg]? = some (.cells (rgc dd ll pp bp) 62) := (h.ab.kp _ List.mem_cons_self).1
theorem Cg.mk' (h : Cg w0 w rg mb bp dd ll pp nb pgn M b m) : w.heap[mb]? = some (.cells M 59) := (h.ab.kp _ (List.mem_cons_of_mem _ List.mem_cons_self)).1
theorem Cg.c0 (h : Cg w0 w rg mb bp dd ll pp nb pgn M b m) : w.cell? ⟨rg, 0, none⟩ = some (.pointer (some ⟨dd, 0, none⟩)) := cell_of_row w rg 0 _ _ _ h.rk
theorem Cg.c1 (h : Cg w0 w rg mb bp dd ll pp nb pgn M b m) : w.cell? ⟨rg, 1, none⟩ = some (.pointer (some ⟨ll, 0, none⟩)) := cell_of_row w rg 1 _ _ _ h.rk
theorem Cg.c3 (h : Cg w0 w rg mb bp dd ll pp nb pgn M b m) : w.cell? ⟨rg, 3, none⟩ = some (.pointer (some ⟨bp, 0, none⟩)) := cell_of_row w rg 3 _ _ _ h.rk
theorem Cg.mc (h : Cg w0 w rg mb bp dd ll pp nb pgn M b m) {i : Nat} {v : Value} (hi : M[i]? = some v) : w.cell? ⟨mb, i, none⟩ = some v := by rw [cell_of_row w mb i _ _ _ h.mk']; exact hi
theorem Cg.mz (h : Cg w0 w rg mb bp dd ll pp nb pgn M b m) (i : Nat) : w.frozen? ⟨mb, i, none⟩ = false := frozen_of_row w mb i _ _ h.mk'
theorem Cg.quiet (h : Cg w0 w rg mb bp dd ll pp nb pgn M b m) (f : Fr [] w w') : Cg w0 w' rg mb bp dd ll pp nb pgn M b m := { h with ab := h.ab.quiet f }
theorem Cg.go (h : Cg w0 w rg mb bp dd ll pp nb pgn M b m) (st : BStep w w' b b') (en : Env b' nb m') (ht : m'.turn = 1) : Cg w0 w' rg mb bp dd ll pp nb pgn M b' m' :=
  { ab := h.ab.go st, env := en, d := by rw [(st.same h.ab.bk).1]; exact h.d, l := by rw [(st.same h.ab.bk).2]; exact h.l, pg := by rw [env_pages h.env en]; exact h.pg, lm := h.lm, tn := ht, nb1 := h.nb1 }
theorem Cg.turn (h : Cg w0 w rg mb bp dd ll pp nb pgn M b m) (f : Fr [mb] w w') (hg : w'.heap[mb]? = some (.cells M' 59)) : Cg w0 w' rg mb bp dd ll pp nb pgn M' b m := by
  have h1 := h.ab.bk.away h.mk' (by decide) (by decide) (by decide) (by decide)
  have hne : rg ≠ mb := blkt_ne h.rk h.mk' (by decide)
  have A1 : Ab w0 w bp b [(rg, .cells (rgc dd ll pp bp) 62)] := h.ab.less (fun p hp => by
    simp at hp
    rw [hp]
    exact List.mem_cons_self)
  have A2 := A1.put f h1.1 h1.2.1 h1.2.2 h.lm (fun p hp => by
    simp at hp
    rw [hp]
    exact hne)
  have A3 := A2.add hg h1.2.1
  exact { h with ab := A3.less (fun p hp => by
    simp at hp
    rcases hp with rfl | rfl
    · exact List.mem_cons_of_mem _ List.mem_cons_self
    · exact List.mem_cons_self) }
theorem Cg.put (h : Cg w0 w rg mb bp dd ll pp nb pgn M b m) (i : Nat) (v : Value) : Cg w0 (w.setCell ⟨mb, i, none⟩ v) rg mb bp dd ll pp nb pgn (M.setIfInBounds i v) b m := h.turn (fr_set w mb i v) (heap_setCell_same w mb i _ _ v h.mk')
theorem Cg.tab (h : Cg w0 w rg mb bp dd ll pp nb pgn M b m) {tb : Nat} (f : Fr [tb] w w') (h0 : w0.heap.size ≤ tb) (hc : ∃ cur, w.heap[tb]? = some (.cells cur 37)) : Cg w0 w' rg mb bp dd ll pp nb pgn M b m :=
  { h with ab := h.ab.tab f (fun j hj => by
      have e : j = tb := by simpa using hj
      rw [e]
      exact ⟨h0, hc⟩) (fun p hp cur e => by
      simp at hp
      rcases hp with rfl | rfl
      · simp at e
      · simp at e) }
theorem Tb.quiet (h : Tb w0 w b ad n c es V) (f : Fr [] w w') : Tb w0 w' b ad n c es V := ⟨h.t.quiet f, h.o⟩
theorem Tb.go (h : Tb w0 w b ad n c es V) (hb : BkAt w b) (st : BStep w w' b b') : Tb w0 w' b' ad n c es V := ⟨(h.t.go hb st h.o).1, (h.t.go hb st h.o).2⟩
/-- What is stored into blocks of another type leaves it. -/
theorem Tb.off (h : Tb w0 w b ad n c es V) {g : Nat} {cur : Array Value} {t : TypeId} (f : Fr [g] w w') (hg : w.heap[g]? = some (.cells cur t)) (h1 : t ≠ 37) (h2 : t ≠ 5) : Tb w0 w' b ad n c es V := by
  refine ⟨h.t.kept f (fun k hk cur' hc => ?_) (fun e he hm => ?_), h.o⟩
  · have e : k = g := by simpa using hk
    rw [e, hg] at hc
    cases hc
    exact h1 rfl
  · obtain ⟨i, hi⟩ := List.mem_iff_getElem?.1 he
    obtain ⟨tl, h6, _⟩ := (h.t.blk i e hi).1
    rw [List.mem_singleton.1 hm, hg] at h6
    simp at h6
    exact h2 h6.2
theorem Tb.row (h : Tb w0 w b ad n c es V) (h0 : 0 < n) : ∃ tb cur, ad = some ⟨tb, 0, none⟩ ∧ w.heap[tb]? = some (.cells cur 37) := by
  rcases h.t.own.2 with ⟨_, hn⟩ | ⟨g, cap, cur, hv, _, hg, _⟩
  · omega
  · cases hv
    exact ⟨g, cur, rfl, hg⟩
end
/-- Out of a transaction. -/
structure CdO (w0 w : World) (rg mb bp dd ll pp nb pgn : Nat) (p s : Int) (aN : Option Addr) (cN : Nat) (eN : List (Nat × Nat)) (aW : Option Addr) (nW cW : Nat) (ow ch : Int) (b : Bk) (m : Mst) (V : Pages) : Prop where
  g : Cg w0 w rg mb bp dd ll pp nb pgn (mdl aN pgn cN aW nW cW false ow ch) b m
  idle : Idle b V
  tn : Tb w0 w b aN pgn cN eN V
  E : (b.x.y.E : Int) ≤ p
  sq : (m.seq : Int) ≤ s
  ob : 0 ≤ ow ∧ ow ≤ 500000
/-- In one: `was` is as the pages were when it began. -/
structure CdI (w0 w : World) (rg mb bp dd ll pp nb pgn : Nat) (p s : Int) (aN : Option Addr) (cN : Nat) (eN : List (Nat × Nat)) (aW : Option Addr) (cW : Nat) (eW : List (Nat × Nat)) (b : Bk) (m : Mst) (U : Pages) (H : List Ch) (V : Pages) : Prop where
  g : Cg w0 w rg mb bp dd ll pp nb pgn (mdl aN pgn cN aW pgn cW true (35 + keptOf H) b.t.chg) b m
  tx : InTx b H V
  un : undoAll H V = U
  tn : Tb w0 w b aN pgn cN eN V
  tw : Tb w0 w b aW pgn cW eW U
  ap : ∀ t1 t2, aN = some ⟨t1, 0, none⟩ → aW = some ⟨t2, 0, none⟩ → t1 ≠ t2
  ph : phN b H ≤ p
  sq : (m.seq : Int) ≤ s
/-- Between two deeds. -/
def CdB (i : Bool) (w0 w : World) (rg mb bp dd ll pp nb pgn : Nat) (p s : Int) : Prop :=
  match i with
  | false => ∃ aN cN eN aW nW cW ow ch b m V, CdO w0 w rg mb bp dd ll pp nb pgn p s aN cN eN aW nW cW ow ch b m V
  | true => ∃ aN cN eN aW cW eW b m U H V, CdI w0 w rg mb bp dd ll pp nb pgn p s aN cN eN aW cW eW b m U H V
section
variable {w0 w w' : World} {rg mb bp dd ll pp nb pgn : Nat} {p s p' s' : Int} {aN aW : Option Addr} {cN nW cW : Nat} {eN eW : List (Nat × Nat)} {ow ch : Int} {b b' : Bk} {m m' : Mst} {U V : Pages} {H : List Ch}
theorem CdO.cd (h : CdO w0 w rg mb bp dd ll pp nb pgn p s aN cN eN aW nW cW ow ch b m V) : CdB false w0 w rg mb bp dd ll pp nb pgn p s := ⟨_, _, _, _, _, _, _, _, _, _, _, h⟩
theorem CdI.cd (h : CdI w0 w rg mb bp dd ll pp nb pgn p s aN cN eN aW cW eW b m U H V) : CdB true w0 w rg mb bp dd ll pp nb pgn p s := ⟨_, _, _, _, _, _, _, _, _, _, _, h⟩
theorem CdO.quiet (h : CdO w0 w rg mb bp dd ll pp nb pgn p s aN cN eN aW nW cW ow ch b m V) (f : Fr [] w w') : CdO w0 w' rg mb bp dd ll pp nb pgn p s aN cN eN aW nW cW ow ch b m V := { h with g := h.g.quiet f, tn := h.tn.quiet f }
theorem CdI.quiet (h : CdI w0 w rg mb bp dd ll pp nb pgn p s aN cN eN aW cW eW b m U H V) (f : Fr [] w w') : CdI w0 w' rg mb bp dd ll pp nb pgn p s aN cN eN aW cW eW b m U H V := { h with g := h.g.quiet f, tn := h.tn.quiet f, tw := h.tw.quiet f }
theorem CdO.le (h : CdO w0 w rg mb bp dd ll pp nb pgn p s aN cN eN aW nW cW ow ch b m V) (hp : p ≤ p') (hs : s ≤ s') : CdO w0 w rg mb bp dd ll pp nb pgn p' s' aN cN eN aW nW cW ow ch b m V := { h with E := Int.le_trans h.E hp, sq := Int.le_trans h.sq hs }
theorem CdI.le (h : CdI w0 w rg mb bp dd ll pp nb pgn p s aN cN eN aW cW eW b m U H V) (hp : p ≤ p') (hs : s ≤ s') : CdI w0 w rg mb bp dd ll pp nb pgn p' s' aN cN eN aW cW eW b m U H V := { h with ph := Int.le_trans h.ph hp, sq := Int.le_trans h.sq hs }
theorem CdO.page (h : CdO w0 w rg mb bp dd ll pp nb pgn p s aN cN eN aW nW cW ow ch b m V) {l : List UInt8} {g : Nat} (P : PgTo w w' b l g b') : CdO w0 w' rg mb bp dd ll pp nb pgn p s aN cN eN aW nW cW ow ch b' m V :=
  ⟨h.g.go P.st (h.g.env.tr P.tr) h.g.tn, P.idle _ h.idle, h.tn.go h.g.ab.bk P.st, by rw [P.E]; exact h.E, h.sq, h.ob⟩
theorem CdI.page (h : CdI w0 w rg mb bp dd ll pp nb pgn p s aN cN eN aW cW eW b m U H V) {l : List UInt8} {g : Nat} (P : PgTo w w' b l g b') : CdI w0 w' rg mb bp dd ll pp nb pgn p s aN cN eN aW cW eW b' m U H V :=
  ⟨by rw [P.t]; exact h.g.go P.st (h.g.env.tr P.tr) h.g.tn, P.tx _ _ h.tx, h.un, h.tn.go h.g.ab.bk P.st, h.tw.go h.g.ab.bk P.st, h.ap, by have h1 := h.ph; unfold phN at *; rw [P.E]; exact h1, h.sq⟩
theorem CdB.fr {i : Bool} (h : CdB i w0 w rg mb bp dd ll pp nb pgn p s) : Fr [] w0 w := by
  cases i with
  | false =>
    obtain ⟨_, _, _, _, _, _, _, _, _, _, _, h⟩ := h
    exact h.g.ab.fr
  | true =>
    obtain ⟨_, _, _, _, _, _, _, _, _, _, _, h⟩ := h
    exact h.g.ab.fr
theorem CdB.le {i : Bool} (h : CdB i w0 w rg mb bp dd ll pp nb pgn p s) (hp : p ≤ p') (hs : s ≤ s') : CdB i w0 w rg mb bp dd ll pp nb pgn p' s' := by
  cases i with
  | false =>
    obtain ⟨_, _, _, _, _, _, _, _, _, _, _, h⟩ := h
    exact (h.le hp hs).cd
  | true =>
    obtain ⟨_, _, _, _, _, _, _, _, _, _, _, h⟩ := h
    exact (h.le hp hs).cd
end
end Go.Proofs.YtopaeomjndblkaaGreat

namespace Go.Proofs.YtopaeomjndblkaaGreat
open Go.RowKit Go.Maps
open Pg (SpE diffS)

section
variable {w0 w w' : World} {rg mb bp dd ll pp nb pgn : Nat} {M M' : Array Value} {b b' : Bk} {m m' : Mst} {ad : Option Addr} {n c : Nat} {es : List (Nat × Nat)} {V : Pages}
theorem Cg.step (h : Cg w0 w rg mb bp dd ll pp nb pgn M b m) (i : Nat) (v : Value) {v0 : Value} (hi : M[i]? = some v0) :
    ∃ w', w.setCell ⟨mb, i, none⟩ v = w' ∧ w.frozen? ⟨mb, i, none⟩ = false ∧ w.cell? ⟨mb, i, none⟩ = some v0 ∧ Hid (Cg w0 w' rg mb bp dd ll pp nb pgn (M.setIfInBounds i v) b m ∧ Fr [mb] w w' ∧ w.heap[mb]? = some (.cells M 59)) :=
  ⟨_, rfl, h.mz i, h.mc hi, hidI ⟨h.put i v, fr_set w mb i v, h.mk'⟩⟩
theorem Cg.room (h : Cg w0 w rg mb bp dd ll pp nb pgn M b m) : Calls Tryz.prog 89 #[.pointer (some ⟨ll, 0, none⟩)] w fun e w' => e = .returned (.int .i64 b.room) ∧ Fr [] w w' := by
  have h1 := broom_any h.ab.bk
  rw [h.l] at h1
  exact h1
theorem Cg.end_ (h : Cg w0 w rg mb bp dd ll pp nb pgn M b m) : Calls Tryz.prog 77 #[.pointer (some ⟨ll, 0, none⟩)] w fun e w' => e = .returned (.int .i64 ((b.x.y.E : Int) + 1)) ∧ w' = w := by
  have h1 := lo_end h.ab.bk.po.lo
  rw [h.l] at h1
  exact h1
theorem Cg.safe (h : Cg w0 w rg mb bp dd ll pp nb pgn M b m) : Calls Tryz.prog 85 #[.pointer (some ⟨ll, 0, none⟩)] w fun e w' => e = .returned (.int .i64 ((b.x.y.P : Int) + 1)) ∧ w' = w := by
  have h1 := lo_safe h.ab.bk.po.lo
  rw [h.l] at h1
  exact h1
theorem Cg.half (h : Cg w0 w rg mb bp dd ll pp nb pgn M b m) : Calls Tryz.prog 91 #[.pointer (some ⟨rg, 0, none⟩)] w fun e w' => ∃ c : Int, e = .returned (.int .i64 c) ∧ c ≤ 204 * b.x.y.count ∧ w' = w := by
  have c0 := h.c0
  have BX := Dv.blocks_dev h.ab.bk.po.lo.dev
  rw [h.d, h.env.nb] at BX
  have hc := h.env.count
  have hn := h.nb1
  have e1 : Int.tdiv (nb : Int) 2 = (nb : Int) / 2 := by rw [Int.tdiv_eq_ediv_of_nonneg (by omega)]
  obtain ⟨k, hk⟩ : ∃ k : Int, (nb : Int) / 2 = k := ⟨_, rfl⟩
  rw [hk] at e1 hc
  have k1 : 0 ≤ k ∧ k ≤ 60 := by omega
  have e2 : IntKind.i64.wrap k = k := wrapI _ (by omega) (by omega)
  have e3 : IntKind.i64.wrap (k * 204) = k * 204 := wrapI _ (by omega) (by omega)
  have HC := hidI hc
  clear h hc hk hn
  go_enter Tryz.func91, Tryz.ntmps91
  go_wp2_with (go_at_call 120; refine BX.mono ?_; rintro e w3 ⟨rfl, hz⟩; rw [hz]; clear hz)
  go_ret
  exact ⟨k * 204, by simp, by rw [HC.out]; omega, rfl⟩
end
end Go.Proofs.YtopaeomjndblkaaGreat

namespace Go.Proofs.YtopaeomjndblkaaGreat
open Go.RowKit Go.Maps
open Pg (SpE diffS)

theorem spans_cells {w : World} {B : Nat} {AD : Option Addr} {N CAP : Nat} {S : List SpE} (own : w.ownsRow B 42 4 (.slice AD N CAP) N (Pg.spv S)) :
    S.length = N ∧ ∀ w', Fr [] w w' → ∀ i e, S[i]? = some e → ∃ g, AD = some ⟨g, 0, none⟩ ∧ w'.cell? ⟨g, i * 4, none⟩ = some (.int .i64 0) ∧ w'.cell? ⟨g, i * 4 + 1, none⟩ = some (.int .i64 (e.off : Int)) ∧ w'.cell? ⟨g, i * 4 + 2, none⟩ = some (.slice (some ⟨e.bo, 0, none⟩) e.n e.n) ∧ w'.cell? ⟨g, i * 4 + 3, none⟩ = some (.slice (some ⟨e.bn, 0, none⟩) e.n e.n) := by
  have hl : S.length = N := by
    have h1 := own.1
    rw [Pg.spv_length] at h1
    omega
  refine ⟨hl, fun w' f i e hi => ?_⟩
  have hil := (List.getElem?_eq_some_iff.1 hi).1
  have hie : S[i] = e := (List.getElem?_eq_some_iff.1 hi).2
  rcases own.2 with ⟨_, hn0⟩ | ⟨g, cap, cur, ev, _, hg, hnc, hcm, hcs, ht⟩
  · omega
  · cases ev
    have hg' := f.same (by simp) hg
    have key : ∀ c, c < 4 → cur[i * 4 + c]? = e.vals[c]? := by
      intro c hc
      have h1 := Pg.spv_at S i hil c hc
      rw [hie, ← ht, List.getElem?_take, if_pos (by omega)] at h1
      simpa using h1
    refine ⟨g, rfl, ?_, ?_, ?_, ?_⟩
    · rw [cell_of_row w' g _ _ _ _ hg']
      exact key 0 (by omega)
    · rw [cell_of_row w' g _ _ _ _ hg']
      exact key 1 (by omega)
    · rw [cell_of_row w' g _ _ _ _ hg']
      exact key 2 (by omega)
    · rw [cell_of_row w' g _ _ _ _ hg']
      exact key 3 (by omega)
/-- How much of the log two pages' spans want. -/
theorem spans_bound {la lb : List UInt8} {S : List SpE} (hS : S.map (fun e => (e.off, e.off + e.n)) = diffS la lb) : S.length ≤ 57 ∧ sumN S ≤ 5720 ∧ (∀ e ∈ S, e.n ≤ 512) := by
  have h1 : S.length ≤ 57 := by
    have h3 := diff_few la lb
    rw [← hS, List.length_map] at h3
    exact h3
  have h2 := sum9 (i := 0) (j := 512) (fun k hk hio => by omega) hS
  refine ⟨h1, by omega, fun e he => ?_⟩
  have h5 := Pg.diff_ends la lb (e.off, e.off + e.n) (by rw [← hS]; exact List.mem_map.2 ⟨e, he, rfl⟩)
  simp at h5
  omega
end Go.Proofs.YtopaeomjndblkaaGreat

namespace Go.Proofs.YtopaeomjndblkaaGreat
open Go.RowKit Go.Maps
open Pg (SpE diffS)

theorem clent_any (w : World) (ad : Option Addr) (n c : Nat) (l : List UInt8) (h : Pg.SlAt w ad n c l) (hz : ad = none → c = 0) (hn : n ≤ 1000) :
    Calls Tryz.prog 178 #[.slice ad n c] w fun e w' => ∃ g cap, e = .returned (.slice (some ⟨g, 0, none⟩) n cap) ∧ LentAt w' g cap l ∧ w.heap.size ≤ g ∧ Fr [] w w' := by
  cases ad with
  | some a0 => exact lent_any w a0 n c l h.len (by omega) h.bytes
  | none =>
    have hc := hz rfl
    subst hc
    have hn0 : n = 0 := by have := h.cap; omega
    subst hn0
    obtain rfl : l = [] := List.eq_nil_of_length_eq_zero h.len
    exact lent_nil w 0 [] rfl (by omega) rfl
theorem sums_eq : ∀ (S T : List SpE), S.map (fun e => (e.off, e.off + e.n)) = T.map (fun e => (e.off, e.off + e.n)) → logN S = logN T ∧ undN S = undN T ∧ S.length = T.length
  | [], [], _ => ⟨rfl, rfl, rfl⟩
  | [], _ :: _, h => by simp at h
  | _ :: _, [], h => by simp at h
  | e :: S, x :: T, h => by
    simp only [List.map_cons, List.cons.injEq, Prod.mk.injEq] at h
    obtain ⟨h1, h2, h3⟩ := sums_eq S T h.2
    have hn : e.n = x.n := by have := h.1; omega
    simp only [logN, undN, List.length_cons]
    rw [h1, h2, h3, hn]
    exact ⟨rfl, rfl, rfl⟩
section
variable {w0 w w' : World} {rg mb bp dd ll pp nb pgn g : Nat} {M : Array Value} {b b' : Bk} {m : Mst} {p s : Int} {aN aW ad : Option Addr} {cN cW n c : Nat} {eN eW es : List (Nat × Nat)} {U V : Pages} {H H' : List Ch}
theorem Cg.over (h : Cg w0 w rg mb bp dd ll pp nb pgn M b m) (f : Fr [g] w w') {cur : Array Value} (hb : w.heap[g]? = some (.cells cur 5)) (ho : g ∉ b.dp :: b.x.own) (hg : w0.heap.size ≤ g) : Cg w0 w' rg mb bp dd ll pp nb pgn M b m :=
  { h with ab := h.ab.blk hb f ho hg (fun q hq => by
      simp at hq
      rcases hq with rfl | rfl
      · exact blkt_ne h.rk hb (by decide)
      · exact blkt_ne h.mk' hb (by decide)) }
theorem Tb.over (h : Tb w0 w b ad n c es V) (f : Fr [g] w w') {cur : Array Value} (hb : w.heap[g]? = some (.cells cur 5)) (hn : ∀ e ∈ es, e.1 ≠ g) : Tb w0 w' b ad n c es V :=
  ⟨h.t.kept f (fun k hk cur' hc => by
    rw [List.mem_singleton.1 hk, hb] at hc
    cases hc) (fun e he hm => hn e he (List.mem_singleton.1 hm)), h.o⟩
theorem CdI.over (h : CdI w0 w rg mb bp dd ll pp nb pgn p s aN cN eN aW cW eW b m U H V) (f : Fr [g] w w') {cur : Array Value} (hb : w.heap[g]? = some (.cells cur 5)) (ho : g ∉ b.dp :: b.x.own) (hg : w0.heap.size ≤ g) (h1 : ∀ e ∈ eN, e.1 ≠ g) (h2 : ∀ e ∈ eW, e.1 ≠ g) : CdI w0 w' rg mb bp dd ll pp nb pgn p s aN cN eN aW cW eW b m U H V :=
  { h with g := h.g.over f hb ho hg, tn := h.tn.over f hb h1, tw := h.tw.over f hb h2 }
theorem Tb.below (h : Tb w0 w b ad n c es V) : ∀ e ∈ es, e.1 < w.heap.size := fun e he => by
  obtain ⟨i, hi⟩ := List.mem_iff_getElem?.1 he
  exact (h.t.blk i e hi).1.lt
/-- A Put that the log had no room for. -/
theorem CdI.putNo (h : CdI w0 w rg mb bp dd ll pp nb pgn p s aN cN eN aW cW eW b m U H V) (no : PutNo w w' b H V b') : CdI w0 w' rg mb bp dd ll pp nb pgn (p + 5800) s aN cN eN aW cW eW b' m U H V :=
  ⟨by rw [no.t]; exact h.g.go no.st (h.g.env.tr no.tr) h.g.tn, no.tx, h.un, h.tn.go h.g.ab.bk no.st, h.tw.go h.g.ab.bk no.st, h.ap, by have h1 := h.ph; unfold phN at *; rw [no.E]; omega, h.sq⟩
/-- A Put that went through, ahead of the model's own stores. -/
structure CdP (w0 w : World) (rg mb bp dd ll pp nb pgn : Nat) (p s : Int) (M : Array Value) (aN : Option Addr) (cN : Nat) (eN : List (Nat × Nat)) (aW : Option Addr) (cW : Nat) (eW : List (Nat × Nat)) (b : Bk) (m : Mst) (U : Pages) (H : List Ch) (V V' : Pages) : Prop where
  g : Cg w0 w rg mb bp dd ll pp nb pgn M b m
  tx : InTx b H V'
  un : undoAll H V' = U
  tn : Tb w0 w b aN pgn cN eN V
  tw : Tb w0 w b aW pgn cW eW U
  ap : ∀ t1 t2, aN = some ⟨t1, 0, none⟩ → aW = some ⟨t2, 0, none⟩ → t1 ≠ t2
  ph : phN b H ≤ p
  sq : (m.seq : Int) ≤ s
theorem CdI.putOk (h : CdI w0 w rg mb bp dd ll pp nb pgn p s aN cN eN aW cW eW b m U H V) {q : Nat} {data : List UInt8} {S : List SpE} (ok : PutOk w w' b H V q data S b' H') (hS : sumN S ≤ 5720) : CdP w0 w' rg mb bp dd ll pp nb pgn (p + 5800) s (mdl aN pgn cN aW pgn cW true (35 + keptOf H) b.t.chg) aN cN eN aW cW eW b' m U H' V (setPg V q data) :=
  ⟨h.g.go ok.st (ok.env h.g.env) h.g.tn, ok.tx, by rw [ok.un]; exact h.un, h.tn.go h.g.ab.bk ok.st, h.tw.go h.g.ab.bk ok.st, h.ap, by
    have h1 := h.ph
    have h2 := ok.E
    have h3 := ok.keq
    have h4 := sumN_eq S
    unfold phN at *
    omega, h.sq⟩
theorem CdP.over {V' : Pages} (h : CdP w0 w rg mb bp dd ll pp nb pgn p s M aN cN eN aW cW eW b m U H V V') (f : Fr [g] w w') {cur : Array Value} (hb : w.heap[g]? = some (.cells cur 5)) (ho : g ∉ b.dp :: b.x.own) (hg : w0.heap.size ≤ g) (h1 : ∀ e ∈ eN, e.1 ≠ g) (h2 : ∀ e ∈ eW, e.1 ≠ g) : CdP w0 w' rg mb bp dd ll pp nb pgn p s M aN cN eN aW cW eW b m U H V V' :=
  { h with g := h.g.over f hb ho hg, tn := h.tn.over f hb h1, tw := h.tw.over f hb h2 }
theorem CdP.quiet {V' : Pages} (h : CdP w0 w rg mb bp dd ll pp nb pgn p s M aN cN eN aW cW eW b m U H V V') (f : Fr [] w w') : CdP w0 w' rg mb bp dd ll pp nb pgn p s M aN cN eN aW cW eW b m U H V V' :=
  { h with g := h.g.quiet f, tn := h.tn.quiet f, tw := h.tw.quiet f }
/-- The model's page is set. -/
theorem CdP.set {q : Nat} {data : List UInt8} (h : CdP w0 w rg mb bp dd ll pp nb pgn p s M aN cN eN aW cW eW b m U H V (setPg V q data)) (hq : q < pgn) {e : Nat × Nat} (hr : RowB w e.1 e.2 data) (hl : data.length = 512) (hB : w0.heap.size ≤ e.1) (ho : e.1 ∉ b.dp :: b.x.own) :
    ∃ tb, aN = some ⟨tb, 0, none⟩ ∧ w.frozen? ⟨tb, q, none⟩ = false ∧ CdP w0 (w.setCell ⟨tb, q, none⟩ (pgV e)) rg mb bp dd ll pp nb pgn p s M aN cN (eN.set q e) aW cW eW b m U H (setPg V q data) (setPg V q data) := by
  obtain ⟨tb, ha, hz, hb, hc, f, T⟩ := h.tn.t.set hq hr hl hB
  have hpos : 0 < pgn := by omega
  obtain ⟨tw, cw, haW, hcw⟩ := h.tw.row hpos
  have hne : tb ≠ tw := h.ap tb tw ha haW
  refine ⟨tb, ha, hz, { h with g := h.g.tab f hb hc, tn := ⟨T, fun x hx => ?_⟩, tw := ⟨?_, h.tw.o⟩ }⟩
  · rcases List.mem_or_eq_of_mem_set hx with h1 | rfl
    · exact h.tn.o x h1
    · exact ho
  · refine ⟨?_, fun i e' he' => ⟨(h.tw.t.blk i e' he').1.kept f (fun hm => ?_), (h.tw.t.blk i e' he').2⟩⟩
    · have h1 := h.tw.t.own
      refine ⟨h1.1, ?_⟩
      rcases h1.2 with h2 | ⟨g, cap, cur, hv, hb2, hg, r⟩
      · exact Or.inl h2
      · have e9 : g = tw := by
          rw [haW] at hv
          cases hv
          rfl
        exact Or.inr ⟨g, cap, cur, hv, hb2, f.same (fun hm => hne (by rw [← List.mem_singleton.1 hm, e9])) hg, r⟩
    · obtain ⟨tl, h6, _⟩ := (h.tw.t.blk i e' he').1
      obtain ⟨cur, hc2⟩ := hc
      rw [List.mem_singleton.1 hm, hc2] at h6
      simp at h6
theorem CdI.putX (I : CdI w0 w rg mb bp dd ll pp nb pgn p s aN cN eN aW cW eW b m U H V) {q : Nat} (hq : q < pgn) (hp : p ≤ 370000) {cap : Nat} {l : List UInt8} (L : LentAt w g cap l) (hl : l.length = 512) (hgo : g ∉ b.dp :: b.x.own) {S : List SpE} (hS : S.map (fun e => (e.off, e.off + e.n)) = diffS (V q) l) :
    Calls Tryz.prog 31 #[.pointer (some ⟨bp, 0, none⟩), .int .i64 (q : Int), .slice (some ⟨g, 0, none⟩) 512 cap] w fun e w' => (b.room < keptOf H + 35 + sumN S ∧ e = .returned (.int .i64 5) ∧ Hid (∃ b', CdI w0 w' rg mb bp dd ll pp nb pgn (p + 5800) s aN cN eN aW cW eW b' m U H V ∧ BStep w w' b b')) ∨ (¬ b.room < keptOf H + 35 + sumN S ∧ e = .returned (.int .i64 0) ∧ Hid (∃ b' H', CdP w0 w' rg mb bp dd ll pp nb pgn (p + 5800) s (mdl aN pgn cN aW pgn cW true (35 + keptOf H) b.t.chg) aN cN eN aW cW eW b' m U H' V (setPg V q l) ∧ BStep w w' b b' ∧ b'.t.chg = b.t.chg + (S.length : Int) ∧ keptOf H' = keptOf H + undN S)) := by
  have hph := I.ph
  have hk := keptOf_nonneg H
  have hcap := L.cap
  unfold phN at hph
  refine (ab_put I.g.ab I.g.env I.tx (page := q) (by rw [I.g.pg]; exact hq) hl (by omega) L.bytes hgo (by omega)).mono ?_
  rintro e w' ⟨r, he, P⟩
  obtain ⟨S', hS', hr⟩ := P.out
  obtain ⟨s1, s2, s3⟩ := sums_eq S' S (by rw [hS', hS])
  have e1 := sumN_eq S
  have e2 := sumN_eq S'
  have hb := spans_bound hS'
  rcases hr with ⟨rfl, h1, b', _, no⟩ | ⟨rfl, h1, b', H', _, ok⟩
  · exact Or.inl ⟨by omega, he, hidI ⟨b', I.putNo no, no.st⟩⟩
  · exact Or.inr ⟨by omega, he, hidI ⟨b', H', I.putOk ok hb.2.1, ok.st, by rw [ok.chg, s3], by rw [ok.keq, s2]⟩⟩
theorem CdI.putF (I : CdI w0 w rg mb bp dd ll pp nb pgn p s aN cN eN aW cW eW b m U H V) {q : Nat} (hq : q < pgn) (hp : p ≤ 370000) {cap : Nat} {l : List UInt8} (L : LentAt w g cap l) (hl : l.length = 512) (hgo : g ∉ b.dp :: b.x.own) {S : List SpE} (hS : S.map (fun e => (e.off, e.off + e.n)) = diffS (V q) l) (hf : b.room < keptOf H + 35 + sumN S) :
    Calls Tryz.prog 31 #[.pointer (some ⟨bp, 0, none⟩), .int .i64 (q : Int), .slice (some ⟨g, 0, none⟩) 512 cap] w fun e w' => e = .returned (.int .i64 5) ∧ ∃ b', Hid (CdI w0 w' rg mb bp dd ll pp nb pgn (p + 5800) s aN cN eN aW cW eW b' m U H V ∧ BStep w w' b b') := by
  refine (I.putX hq hp L hl hgo hS).mono ?_
  rintro e w' (⟨_, he, P⟩ | ⟨hn, _⟩)
  · obtain ⟨b', h⟩ := P.out
    exact ⟨he, b', hidI h⟩
  · exact (hn hf).elim
theorem CdI.putO (I : CdI w0 w rg mb bp dd ll pp nb pgn p s aN cN eN aW cW eW b m U H V) {q : Nat} (hq : q < pgn) (hp : p ≤ 370000) {cap : Nat} {l : List UInt8} (L : LentAt w g cap l) (hl : l.length = 512) (hgo : g ∉ b.dp :: b.x.own) {S : List SpE} (hS : S.map (fun e => (e.off, e.off + e.n)) = diffS (V q) l) (hf : ¬ b.room < keptOf H + 35 + sumN S) :
    Calls Tryz.prog 31 #[.pointer (some ⟨bp, 0, none⟩), .int .i64 (q : Int), .slice (some ⟨g, 0, none⟩) 512 cap] w fun e w' => e = .returned (.int .i64 0) ∧ ∃ b' H', Hid (CdP w0 w' rg mb bp dd ll pp nb pgn (p + 5800) s (mdl aN pgn cN aW pgn cW true (35 + keptOf H) b.t.chg) aN cN eN aW cW eW b' m U H' V (setPg V q l) ∧ BStep w w' b b' ∧ b'.t.chg = b.t.chg + (S.length : Int) ∧ keptOf H' = keptOf H + undN S) := by
  refine (I.putX hq hp L hl hgo hS).mono ?_
  rintro e w' (⟨hn, _⟩ | ⟨_, he, P⟩)
  · exact (hf hn).elim
  · obtain ⟨b', H', h⟩ := P.out
    exact ⟨he, b', H', hidI h⟩
/-- Bytes that lie in no block of the book's, where a book has done something. -/
theorem bytes_step {a : Option Addr} {l : List UInt8} (h : BytesAt w a l) (hn : l = [] ∨ ∀ bb off, a = some ⟨bb, off, none⟩ → bb ∉ b.dp :: b.x.own) (st : BStep w w' b b') : BytesAt w' a l := by
  rcases hn with rfl | hn
  · exact BytesAt.nil _ _
  · exact h.kept st.fr hn
theorem bytes_off {a : Option Addr} {l : List UInt8} (h : BytesAt w a l) {w1 : World} (h1 : BytesAt w1 a l) (hg : w1.heap.size ≤ g) (f : Fr [g] w w') : BytesAt w' a l := by
  intro j v hv
  obtain ⟨bb, off, ha, hc⟩ := h j v hv
  obtain ⟨bb1, off1, ha1, hc1⟩ := h1 j v hv
  rw [ha] at ha1
  cases ha1
  have hlt : bb < w1.heap.size := block_lt_of_cell hc1
  exact ⟨bb, off, ha, (World.cell?_of_block (f.block bb (block_lt_of_cell hc) (by simp; omega))).trans hc⟩
theorem ccopy_any (w : World) (ad : Option Addr) (c : Nat) (l : List UInt8) (h : Pg.SlAt w ad 512 c l) (hz : ad = none → c = 0) :
    Calls Tryz.prog 42 #[.slice ad 512 c] w fun e w' => ∃ g' c', e = .returned (.slice (some ⟨g', 0, none⟩) 512 c') ∧ RowB w' g' c' l ∧ w.heap.size ≤ g' ∧ Fr [] w w' := by
  refine (Pg.copyBytes_any w ad 512 c l h (by omega) hz).mono ?_
  rintro e w' ⟨ad', cap', he, _, _, h, f⟩
  obtain ⟨g', rfl, hr, hg⟩ := h (by omega)
  exact ⟨g', cap', he, hr, hg, fr_pg f⟩
/-- The model's last two stores. -/
theorem CdP.done {ow0 ch0 ow ch : Int} (C : CdP w0 w rg mb bp dd ll pp nb pgn p s (mdl aN pgn cN aW pgn cW true ow0 ch0) aN cN eN aW cW eW b m U H V V) (h1 : ow = 35 + keptOf H) (h2 : ch = b.t.chg) :
    ∃ w1 w2, w.setCell ⟨mb, 3, none⟩ (.int .i64 ow) = w1 ∧ w.frozen? ⟨mb, 3, none⟩ = false ∧ w.cell? ⟨mb, 3, none⟩ = some (.int .i64 ow0) ∧ w1.cell? ⟨mb, 4, none⟩ = some (.int .i64 ch0) ∧ w1.frozen? ⟨mb, 4, none⟩ = false ∧ w1.setCell ⟨mb, 4, none⟩ (.int .i64 ch) = w2 ∧ Hid (CdI w0 w2 rg mb bp dd ll pp nb pgn p s aN cN eN aW cW eW b m U H V) := by
  obtain ⟨w1, e1, z1, c1, P1⟩ := C.g.step 3 (.int .i64 ow) (v0 := .int .i64 ow0) rfl
  obtain ⟨G1, f1, k1⟩ := P1.out
  have G1' : Cg w0 w1 rg mb bp dd ll pp nb pgn (mdl aN pgn cN aW pgn cW true ow ch0) b m := G1
  obtain ⟨w2, e2, z2, c2, P2⟩ := G1'.step 4 (.int .i64 ch) (v0 := .int .i64 ch0) rfl
  obtain ⟨G2, f2, k2⟩ := P2.out
  have G2' : Cg w0 w2 rg mb bp dd ll pp nb pgn (mdl aN pgn cN aW pgn cW true ow ch) b m := G2
  rw [h1, h2] at G2'
  exact ⟨w1, w2, e1, z1, c1, c2, z2, e2, hidI ⟨G2', C.tx, C.un, (C.tn.off f1 k1 (by decide) (by decide)).off f2 k2 (by decide) (by decide), (C.tw.off f1 k1 (by decide) (by decide)).off f2 k2 (by decide) (by decide), C.ap, C.ph, C.sq⟩⟩
/-- The model's page is set by what CopyBytes made. -/
theorem CdP.copied {w1 : World} {tb q g1 c1 : Nat} {l : List UInt8} (C : CdP w0 w rg mb bp dd ll pp nb pgn p s M (some ⟨tb, 0, none⟩) cN eN aW cW eW b m U H V (setPg V q l)) (hq : q < pgn) (R : RowB w1 g1 c1 l) (hl : l.length = 512) (hg : w.heap.size ≤ g1) (f : Fr [] w w1) :
    ∃ w2 v0, w1.setCell ⟨tb, q, none⟩ (.slice (some ⟨g1, 0, none⟩) 512 c1) = w2 ∧ w1.frozen? ⟨tb, q, none⟩ = false ∧ w1.cell? ⟨tb, q, none⟩ = some v0 ∧ Fr [tb] w1 w2 ∧ (∃ cur, w1.heap[tb]? = some (.cells cur 37)) ∧ CdP w0 w2 rg mb bp dd ll pp nb pgn p s M (some ⟨tb, 0, none⟩) cN (eN.set q (g1, c1)) aW cW eW b m U H (setPg V q l) (setPg V q l) := by
  have C1 := C.quiet f
  have hout : g1 ∉ b.dp :: b.x.own := fun hm => by
    have h1 := C.g.ab.bk.lt g1 (by rcases List.mem_cons.1 hm with e | e <;> simp [e])
    omega
  obtain ⟨tb2, ha, hz, C2⟩ := C1.set (e := (g1, c1)) hq R hl (Nat.le_trans C.g.ab.fr.size hg) hout
  cases ha
  obtain ⟨tb3, e, ha, _, hc⟩ := C1.tn.t.at q hq
  cases ha
  obtain ⟨tb4, cur, ha, hcur⟩ := C1.tn.row (by omega)
  cases ha
  exact ⟨_, _, rfl, hz, hc, fr_set w1 tb q _, ⟨cur, hcur⟩, C2⟩
end
end Go.Proofs.YtopaeomjndblkaaGreat

