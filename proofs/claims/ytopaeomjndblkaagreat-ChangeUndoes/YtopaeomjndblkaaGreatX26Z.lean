/-
  A table of pages, as a law keeps them, beside a book.
-/
import Derived.Test.YtopaeomjndblkaaGreatX25Z
namespace Go.Proofs.YtopaeomjndblkaaGreat
open Go.RowKit Go.Maps
open Pg (SpE diffS)

structure DdV where
  kind : Int
  page : Int
  off : Int
  many : Int
  ad : Option Addr
  c : Nat
  l : List UInt8
  odd : Bool
structure DdOk (w : World) (d : DdV) : Prop where
  kind : (Lit.int .i64 d.kind).wf = true
  page : (Lit.int .i64 d.page).wf = true
  off : (Lit.int .i64 d.off).wf = true
  many : (Lit.int .i64 d.many).wf = true
  b : BytesAt w d.ad d.l
  n : d.ad = none → d.l.length = 0 ∧ d.c = 0
  s : d.l.length ≤ maxLen
  k : d.l.length ≤ d.c
/-- Its six cells. -/
def ddV (d : DdV) : List Value := [.int .i64 d.kind, .int .i64 d.page, .int .i64 d.off, .int .i64 d.many, .slice d.ad d.l.length d.c, .bool d.odd]
theorem DdOk.kept {w w' : World} {d : DdV} (h : DdOk w d) (f : Fr [] w w') : DdOk w' d := { h with b := h.b.kept f (by simp) }
theorem copy_new (w : World) (g c : Nat) (l : List UInt8) (hl : l.length = 512) (hb : BytesAt w (some ⟨g, 0, none⟩) l) (hc : 512 ≤ c) :
    Calls Tryz.prog 42 #[.slice (some ⟨g, 0, none⟩) 512 c] w fun e w' => ∃ g' c', e = .returned (.slice (some ⟨g', 0, none⟩) 512 c') ∧ RowB w' g' c' l ∧ w.heap.size ≤ g' ∧ Fr [] w w' := by
  refine (Pg.copyBytes_any w (some ⟨g, 0, none⟩) 512 c l ⟨hl, hb, hc⟩ (by omega) (fun e => nomatch e)).mono ?_
  rintro e w' ⟨ad', cap', he, _, _, h, f⟩
  obtain ⟨g', rfl, hr, hg⟩ := h (by omega)
  exact ⟨g', cap', he, hr, hg, fr_pg f⟩
theorem pick_in (w : World) (x n : Int) (hx : (Lit.int .i64 x).wf = true) (h1 : 1 ≤ n) (h2 : n ≤ 1000000) : ∃ k : Nat, x % n = (k : Int) ∧ (k : Int) < n ∧ Calls Tryz.prog 40 #[.int .i64 x, .int .i64 n] w fun e w' => e = .returned (.int .i64 (k : Int)) ∧ w' = w := by
  have h := Pg.pick_any w x n hx h1 h2
  have a1 : 0 ≤ x % n := Int.emod_nonneg _ (by omega)
  have a2 : x % n < n := Int.emod_lt_of_pos _ (by omega)
  refine ⟨(x % n).toNat, by omega, by omega, ?_⟩
  rw [show (((x % n).toNat : Nat) : Int) = x % n by omega]
  exact h
set_option maxHeartbeats 4000000 in
set_option maxRecDepth 100000 in
theorem written_any (w : World) (g c : Nat) (l : List UInt8) (hl : l.length = 512) (hb : BytesAt w (some ⟨g, 0, none⟩) l) (hc : 512 ≤ c) (d : DdV) (ok : DdOk w d) :
    Calls Tryz.prog 41 #[.slice (some ⟨g, 0, none⟩) 512 c, .agg #[.int .i64 d.kind, .int .i64 d.page, .int .i64 d.off, .int .i64 d.many, .slice d.ad d.l.length d.c, .bool d.odd]] w fun e w' => ∃ g' c', e = .returned (.slice (some ⟨g', 0, none⟩) 512 c') ∧ Hid (∃ l', RowB w' g' c' l' ∧ l'.length = 512 ∧ w.heap.size ≤ g' ∧ Fr [] w w') := by
  have f1 : Fr [] w (w.alloc (.cells #[.int .i64 d.kind, .int .i64 d.page, .int .i64 d.off, .int .i64 d.many, .slice d.ad d.l.length d.c, .bool d.odd] 64)) := (Fr.refl [] w).alloc _
  have h1 := heap_alloc_new w (.cells #[.int .i64 d.kind, .int .i64 d.page, .int .i64 d.off, .int .i64 d.many, .slice d.ad d.l.length d.c, .bool d.odd] 64)
  obtain ⟨w1, hw1⟩ : ∃ w1, w.alloc (.cells #[.int .i64 d.kind, .int .i64 d.page, .int .i64 d.off, .int .i64 d.many, .slice d.ad d.l.length d.c, .bool d.odd] 64) = w1 := ⟨_, rfl⟩
  rw [hw1] at f1 h1
  have HOK := hidI (ok.kept f1)
  have hs : d.l.length ≤ maxLen := ok.s
  obtain ⟨D, HD⟩ : ∃ D : Nat, Hid (d.l.length = D) := ⟨_, rfl⟩
  rw [HD.out] at hs h1 hw1 ⊢
  have hD : D ≤ 9223372036854775807 := by unfold maxLen at hs; omega
  have HCP := hidI (copy_new w1 g c l hl (hb.kept f1 (by simp)) hc)
  have HL := hidI hl
  clear hl hb hc ok hs
  go_enter Tryz.func41, Tryz.ntmps41
  go_wp2_with fail
  refine HCP.out.mono ?_
  rintro e w2 ⟨g', c', rfl, r2, hg2, f2⟩
  have h2 := f2.same (by simp) h1
  have x2 := cell_of_row _ w.heap.size 2 _ _ _ h2
  obtain ⟨k0, _, hk0, HP⟩ := pick_in w2 d.off 512 HOK.out.off (by omega) (by omega)
  have HP' := hidI HP
  clear HP
  go_wp2_with (go_at_call 40; refine HP'.out.mono ?_; rintro e wz ⟨rfl, hz⟩; rw [hz]; clear hz)
  have R2 : Hid (∃ l', RowB w2 g' c' l' ∧ l'.length = 512 ∧ Fr [g'] w2 w2) := hidI ⟨l, r2, HL.out, Fr.refl _ _⟩
  have ng : g' ≠ w.heap.size := by
    have := (Array.getElem?_eq_some_iff.1 h1).1
    omega
  have hgw : w.heap.size ≤ g' := Nat.le_trans f1.size hg2
  clear r2 x2
  go_loopw [6, 7, 8] (fun s6 s7 s8 wr => ∃ a n : Nat, s6 = .int .i64 (a : Int) ∧ s7 = .int .i64 (n : Int) ∧ a ≤ 512 + n ∧ n ≤ 30 ∧ Hid (∃ l', RowB wr g' c' l' ∧ l'.length = 512 ∧ Fr [g'] w2 wr)) (fun _ s7 _ _ => 31 - (intOf s7).toNat)
  case atStart => exact ⟨k0, 0, rfl, rfl, by omega, by omega, R2⟩
  case round =>
    obtain ⟨a, n, rfl, rfl, ha, hn, HR⟩ := hrel
    obtain ⟨l1, hr1, hl1, hf1⟩ := HR.out
    have h3 := hf1.same (by simpa using ng.symm) h2
    have y3 := cell_of_row _ w.heap.size 3 _ _ _ h3
    have y4 := cell_of_row _ w.heap.size 4 _ _ _ h3
    obtain ⟨k1, _, hk1, HP1⟩ := pick_in wr d.many 30 HOK.out.many (by omega) (by omega)
    have HP1' := hidI HP1
    have e1 : IntKind.i64.wrap (1 + (k1 : Int)) = 1 + (k1 : Int) := wrapI _ (by omega) (by omega)
    clear HP1 hr1 hl1
    have FIN : Hid (Fr [] w wr) := hidI ((f1.trans f2).then hf1 (fun i hi hm => by simp at hm; omega))
    by_cases hlt : (n : Int) < 1 + (k1 : Int)
    · by_cases hD0 : 0 < D
      · have q0 : (0 : Int) < (D : Int) := by omega
        go_wp2_with (go_at_call 40; refine HP1'.out.mono ?_; rintro e wz ⟨rfl, hz⟩; rw [hz]; clear hz)
        clear y3 y4 h3 hf1
        go_loopw [6, 8] (fun s6 s8 wi => ∃ a' i : Nat, s6 = .int .i64 (a' : Int) ∧ s8 = .int .i64 (i : Int) ∧ a ≤ a' ∧ a' ≤ max a 512 ∧ i ≤ D ∧ i ≤ 512 ∧ i ≤ a' ∧ Hid (∃ l', RowB wi g' c' l' ∧ l'.length = 512 ∧ Fr [g'] w2 wi)) (fun s6 _ _ => 513 - (intOf s6).toNat)
        case atStart => exact ⟨a, 0, rfl, rfl, Nat.le_refl _, by omega, by omega, by omega, by omega, HR⟩
        case round =>
          obtain ⟨a', i, rfl, rfl, ha1, ha2, hi1, hi3, hi4, HI⟩ := hrel
          obtain ⟨l2, hr2, hl2, hf2⟩ := HI.out
          have h5 := hf2.same (by simpa using ng.symm) h2
          have y4 := cell_of_row _ w.heap.size 4 _ _ _ h5
          by_cases hi : i < D
          · by_cases ha3 : a' < 512
            · have qi : (i : Int) < (D : Int) := by omega
              have qa : (a' : Int) < 512 := by omega
              have hl3 : i < d.l.length := by rw [HD.out]; exact hi
              obtain ⟨bb, off, hbb, hc5⟩ := HOK.out.b.at i hl3
              obtain ⟨x, hx⟩ : ∃ x : UInt8, byteAt d.l i = x := ⟨_, rfl⟩
              rw [hx] at hc5
              have lb : bb < w1.heap.size := block_lt_of_cell hc5
              have hc6 : wr.cell? ⟨bb, off + i, none⟩ = some (.int .u8 x.toNat) := by
                have e1 := (World.cell?_of_block (f2.block bb lb (by simp))).trans hc5
                have l2' := f2.size
                exact (World.cell?_of_block (hf2.block bb (by omega) (by simp; omega))).trans e1
              have y5 : wr.cell? ⟨w.heap.size, 4, none⟩ = some (.slice (some ⟨bb, off, none⟩) D d.c) := by
                rw [y4, ← hbb]
                rfl
              have z1 : wr.frozen? ⟨g', a', none⟩ = false := hr2.frozen a'
              have z2 := hr2.cell a' (by omega)
              have e2 : IntKind.i64.wrap ((a' : Int) + 1) = (a' : Int) + 1 := wrapI _ (by omega) (by omega)
              have HNX : Hid (∃ l', RowB (wr.setCell ⟨g', a', none⟩ (.int .u8 x.toNat)) g' c' l' ∧ l'.length = 512 ∧ Fr [g'] w2 (wr.setCell ⟨g', a', none⟩ (.int .u8 x.toNat))) := hidI ⟨_, hr2.set a' x (by omega), by rw [List.length_set]; exact hl2, hf2.trans (fr_set wr g' a' _)⟩
              clear y4 hx hbb hr2 hf2 h5 hc5
              go_wp2_with fail
              exact ⟨⟨a' + 1, i + 1, rfl, rfl, by omega, by omega, by omega, by omega, by omega, HNX⟩, by simp [intOf]; omega⟩
            · have qa : ¬ (a' : Int) < 512 := by omega
              have qi : (i : Int) < (D : Int) := by omega
              have e2 : IntKind.i64.wrap ((a' : Int) + 1) = (a' : Int) + 1 := wrapI _ (by omega) (by omega)
              have e3 : IntKind.i64.wrap ((n : Int) + 1) = (n : Int) + 1 := wrapI _ (by omega) (by omega)
              clear hr2 hf2 h5
              go_wp2_with fail
              exact ⟨⟨a' + 1, n + 1, rfl, rfl, by omega, by omega, HI⟩, by simp [intOf]; omega⟩
          · have qi : ¬ (i : Int) < (D : Int) := by omega
            have e2 : IntKind.i64.wrap ((a' : Int) + 1) = (a' : Int) + 1 := wrapI _ (by omega) (by omega)
            have e3 : IntKind.i64.wrap ((n : Int) + 1) = (n : Int) + 1 := wrapI _ (by omega) (by omega)
            clear hr2 hf2 h5
            go_wp2_with fail
            exact ⟨⟨a' + 1, n + 1, rfl, rfl, by omega, by omega, HI⟩, by simp [intOf]; omega⟩
      · have q0 : ¬ (0 : Int) < (D : Int) := by omega
        have q9 : ¬ 0 < D := hD0
        obtain ⟨l1, hr1, hl1, hf1⟩ := HR.out
        go_wp2_with (go_at_call 40; refine HP1'.out.mono ?_; rintro e wz ⟨rfl, hz⟩; rw [hz]; clear hz)
        go_ret
        exact ⟨g', c', rfl, hidI ⟨l1, hr1, hl1, hgw, FIN.out⟩⟩
    · obtain ⟨l1, hr1, hl1, hf1⟩ := HR.out
      go_wp2_with (go_at_call 40; refine HP1'.out.mono ?_; rintro e wz ⟨rfl, hz⟩; rw [hz]; clear hz)
      go_ret
      exact ⟨g', c', rfl, hidI ⟨l1, hr1, hl1, hgw, FIN.out⟩⟩
end Go.Proofs.YtopaeomjndblkaaGreat

namespace Go.Proofs.YtopaeomjndblkaaGreat
open Go.RowKit Go.Maps

def pgV (e : Nat × Nat) : Value := .slice (some ⟨e.1, 0, none⟩) 512 e.2
/-- A table of pages, new since B. -/
structure Tp (B : Nat) (w : World) (ad : Option Addr) (n c : Nat) (es : List (Nat × Nat)) (V : Pages) : Prop where
  own : w.ownsRow B 37 1 (.slice ad n c) n (es.map pgV)
  blk : ∀ i e, es[i]? = some e → RowB w e.1 e.2 (V i) ∧ (V i).length = 512 ∧ B ≤ e.1
theorem Tp.nil (B : Nat) (w : World) (V : Pages) : Tp B w none 0 0 [] V := ⟨World.ownsRow_nil _ _ _ _, fun i e h => by simp at h⟩
theorem Tp.len {B : Nat} {w : World} {ad : Option Addr} {n c : Nat} {es : List (Nat × Nat)} {V : Pages} (h : Tp B w ad n c es V) : es.length = n := by
  have h1 := h.own.1
  simp at h1
  omega
theorem ownB_kept {B : Nat} {w w' : World} {e : TypeId} {v : Value} {n : Nat} {xs : List Value} {L : List Nat} (h : w.ownsRow B e 1 v n xs) (f : Fr L w w') (hL : ∀ g ∈ L, ∀ cur, w.heap[g]? ≠ some (.cells cur e)) : w'.ownsRow B e 1 v n xs := by
  obtain ⟨h1, h2⟩ := h
  refine ⟨h1, ?_⟩
  rcases h2 with hn | ⟨g, cap, cur, hv, hb, hg, r⟩
  · exact Or.inl hn
  · exact Or.inr ⟨g, cap, cur, hv, hb, f.same (fun hm => hL g hm _ hg) hg, r⟩
theorem Tp.kept {B : Nat} {w w' : World} {ad : Option Addr} {n c : Nat} {es : List (Nat × Nat)} {V : Pages} (h : Tp B w ad n c es V) {L : List Nat} (f : Fr L w w') (hL : ∀ g ∈ L, ∀ cur, w.heap[g]? ≠ some (.cells cur 37)) (hg : ∀ e ∈ es, e.1 ∉ L) : Tp B w' ad n c es V :=
  ⟨ownB_kept h.own f hL, fun i e he => ⟨(h.blk i e he).1.kept f (hg e (List.mem_of_getElem? he)), (h.blk i e he).2⟩⟩
theorem Tp.at {B : Nat} {w : World} {ad : Option Addr} {n c : Nat} {es : List (Nat × Nat)} {V : Pages} (h : Tp B w ad n c es V) (i : Nat) (hi : i < n) : ∃ tb e, ad = some ⟨tb, 0, none⟩ ∧ es[i]? = some e ∧ w.cell? ⟨tb, i, none⟩ = some (pgV e) := by
  have hl := h.len
  rcases h.own.2 with ⟨_, h0⟩ | ⟨g, cap, cur, hv, hb, hg, hcap, hmx, hsz, htk⟩
  · omega
  · cases hv
    have h3 : es[i]? = some es[i] := List.getElem?_eq_getElem _
    refine ⟨g, es[i], rfl, h3, ?_⟩
    rw [cell_of_row w g i _ _ _ hg]
    have h2 : (es.map pgV)[i]? = some (pgV es[i]) := by rw [List.getElem?_map, h3]; rfl
    rw [← h2, ← htk, List.getElem?_take]
    simp
    intro hh
    omega
section
variable {ops : Array Oper} {rest : List Oper} {o : Oper} {a : Act} {w : World} {Q : Exit → Act → World → Prop}
/-- append of one page to a table. -/
theorem wp_appP (hgd : o.guard = none) (s x : Operand) (ho : o.op = .call { callee := .builtin .append, args := #[s, x], argTypes := #[57, 57] }) (B : Nat) (ad : Option Addr) (n c : Nat) (es : List (Nat × Nat)) (V : Pages) (b : Nat) (e : Nat × Nat) (hs : a.eval s = .slice ad n c) (hx : a.eval x = .slice (some ⟨b, 0, none⟩) 1 1)
    (ht : Tp B w ad n c es V) (hb : w.heap[b]? = some (.cells #[pgV e] 37)) (hv : RowB w e.1 e.2 (V n) ∧ (V n).length = 512 ∧ B ≤ e.1) (hB : B ≤ w.heap.size) (hm : n + 1 ≤ 100000)
    (h : ∀ g c' w' L, Tp B w' (some ⟨g, 0, none⟩) (n + 1) c' (es ++ [e]) V → Fr L w w' → (∀ j ∈ L, B ≤ j ∧ ∃ cur, w.heap[j]? = some (.cells cur 37)) → wpList Tryz.prog ops Q rest (a.put o.dst (.slice (some ⟨g, 0, none⟩) (n + 1) c')) w') : wpList Tryz.prog ops Q (o :: rest) a w :=
  wpList_plain hgd fun K hK => by
    obtain ⟨i, hi, hz, hsz, hbb⟩ := Pg.infoS'
    obtain ⟨v', w', hrun, h2, h3, h4, h5⟩ := run_append_own_at (P := Tryz.prog) w B 57 o.type 37 i (.slice none 0 0) 1 24 Tryz.underlying57 hi hz hsz hbb rfl (by omega) _ n _ ht.own ⟨b, 0, none⟩ 1 1 [pgV e] (by simp)
      (by
        intro j x hx
        cases j with
        | zero =>
          simp at hx
          subst hx
          rw [Addr.add_mid]
          exact cell_of_row w b 0 _ _ _ hb
        | succ j => simp at hx) (by intro x hx; simp at hx; subst hx; rfl) (by unfold maxLen; omega) (by omega) hB
    rcases h2.2 with ⟨e', hn0⟩ | ⟨g, c', cur, e', r⟩
    · omega
    · subst e'
      have hL : ∀ j ∈ (Value.ownBlock (.slice ad n c)).toList, B ≤ j ∧ ∃ cur, w.heap[j]? = some (.cells cur 37) := by
        intro j hj
        rcases ht.own.2 with ⟨hn, _⟩ | ⟨g', cap, cur', hv', hb', hg', r'⟩
        · cases hn
          simp [Value.ownBlock] at hj
        · cases hv'
          simp [Value.ownBlock] at hj
          subst hj
          exact ⟨hb', cur', hg'⟩
      have f3 : Fr (Value.ownBlock (.slice ad n c)).toList w w' := (Fr.refl _ _).grown h3 (fun j e _ => by simp [e])
      have hout : ∀ {g2 c2 : Nat} {l2 : List UInt8}, RowB w g2 c2 l2 → g2 ∉ (Value.ownBlock (.slice ad n c)).toList := fun hr hm => by
        obtain ⟨_, cur, hc⟩ := hL _ hm
        obtain ⟨tl, h6, _⟩ := hr
        rw [h6] at hc
        simp at hc
      unfold Oper.wp execOp
      simp [ho, resolve, invoke, builtin, hs, hx, hrun, Result.andThen]
      refine hK _ _ (h _ _ _ _ ⟨by rw [List.map_append]; exact h2, fun i' e' he' => ?_⟩ f3 hL)
      have hlen := ht.len
      by_cases hlt : i' < es.length
      · rw [List.getElem?_append_left hlt] at he'
        exact ⟨(ht.blk i' e' he').1.kept f3 (hout (ht.blk i' e' he').1), (ht.blk i' e' he').2⟩
      · rw [List.getElem?_append_right (by omega)] at he'
        have e0 : i' - es.length = 0 := by
          have := (List.getElem?_eq_some_iff.1 he').1
          simp at this
          omega
        rw [e0] at he'
        simp at he'
        subst he'
        obtain rfl : i' = n := by omega
        exact ⟨hv.1.kept f3 (hout hv.1), hv.2⟩
end
/-- What a book does leaves a table as it is. -/
theorem BkAt.noS {w : World} {b : Bk} (h : BkAt w b) : ∀ g ∈ b.dp :: b.x.own, ∀ cur, w.heap[g]? ≠ some (.cells cur 37) := fun g hg cur e => (h.away e (by decide) (by decide) (by decide) (by decide)).2.1 hg
theorem Tp.go {B : Nat} {w w' : World} {ad : Option Addr} {n c : Nat} {es : List (Nat × Nat)} {V : Pages} (h : Tp B w ad n c es V) {b b' : Bk} (hb : BkAt w b) (st : BStep w w' b b') (hg : ∀ e ∈ es, e.1 ∉ b.dp :: b.x.own) : Tp B w' ad n c es V ∧ ∀ e ∈ es, e.1 ∉ b'.dp :: b'.x.own := by
  refine ⟨h.kept st.fr hb.noS hg, fun e he hm => ?_⟩
  obtain ⟨i, hi⟩ := List.mem_iff_getElem?.1 he
  have hlt := (h.blk i e hi).1.lt
  rcases List.mem_cons.1 hm with e1 | e1
  · exact hg e he (by rw [e1, st.dp]; exact List.mem_cons_self)
  · rcases st.ow _ e1 with h1 | h1
    · exact hg e he (List.mem_cons_of_mem _ h1)
    · omega
theorem Tp.quiet {B : Nat} {w w' : World} {ad : Option Addr} {n c : Nat} {es : List (Nat × Nat)} {V : Pages} (h : Tp B w ad n c es V) (f : Fr [] w w') : Tp B w' ad n c es V := h.kept f (by simp) (by simp)
/-- A table grows: the book stays. -/
theorem Ab.tab {w0 w w' : World} {bp : Nat} {b : Bk} {K : List (Nat × Obj)} (h : Ab w0 w bp b K) {L : List Nat} (f : Fr L w w') (hL : ∀ j ∈ L, w0.heap.size ≤ j ∧ ∃ cur, w.heap[j]? = some (.cells cur 37)) (hK : ∀ p ∈ K, ∀ cur, p.2 ≠ .cells cur 37) : Ab w0 w' bp b K := by
  have hn : ∀ j ∈ L, b.bp ≠ j ∧ j ∉ b.dp :: b.x.own ∧ b.x.pp ≠ j := fun j hj => by
    obtain ⟨_, cur, hc⟩ := hL j hj
    exact h.bk.away hc (by decide) (by decide) (by decide) (by decide)
  refine ⟨h.bk.kept f (fun hm => (hn _ hm).1 rfl) (fun hm => (hn _ hm).2.1 List.mem_cons_self) (fun k hk hm => ?_), h.fr.then f (fun i hi hm => by have := (hL i hm).1; omega), h.new, h.ebp, fun p hp => ⟨f.same (fun hm => ?_) (h.kp p hp).1, (h.kp p hp).2⟩⟩
  · rcases List.mem_cons.1 hk with e | e
    · exact (hn _ hm).2.2 e.symm
    · exact (hn _ hm).2.1 (List.mem_cons_of_mem _ e)
  · obtain ⟨_, cur, hc⟩ := hL _ hm
    rw [(h.kp p hp).1] at hc
    exact hK p hp cur (Option.some.inj hc)
end Go.Proofs.YtopaeomjndblkaaGreat

