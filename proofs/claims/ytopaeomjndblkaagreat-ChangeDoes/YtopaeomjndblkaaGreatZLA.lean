/-
  ChangeDoes: any deed; what the law asks behind it.
-/
import Derived.Test.YtopaeomjndblkaaGreatZN
import Derived.Test.YtopaeomjndblkaaGreatZB7
import Derived.Test.YtopaeomjndblkaaGreatZB8
namespace Go.Proofs.YtopaeomjndblkaaGreat
open Go.RowKit Go.Maps
open Pg (SpE diffS)

section
variable {w0 w w' : World} {rg mb bp dd ll pp nb pgn : Nat} {p s : Int} {i : Bool}
theorem does_any (h : CdB i w0 w rg mb bp dd ll pp nb pgn p s) (hp : p ≤ 360000) (hs : s ≤ 1000) (hpos : 0 < pgn) (hpg2 : pgn ≤ 200) (d : DdV) (ok : DdOk w d) (h1000 : d.l.length ≤ 1000) (hdn : d.l = [] ∨ ∀ bb off, d.ad = some ⟨bb, off, none⟩ → bb < w0.heap.size) :
    ∃ i', Calls Tryz.prog 25 #[.pointer (some ⟨rg, 0, none⟩), .pointer (some ⟨mb, 0, none⟩), .agg (ddV d).toArray] w fun e w' => e = .returned (.bool true) ∧ Hid (CdB i' w0 w' rg mb bp dd ll pp nb pgn (p + 5900) (s + 1)) := by
  obtain ⟨k, hk0, hk, _⟩ := pick_in w d.kind 9 ok.kind (by omega) (by omega)
  have PK : ∀ j : Int, (k : Int) = j → Hid (∀ w', Calls Tryz.prog 40 #[.int .i64 d.kind, .int .i64 9] w' fun e w'' => e = .returned (.int .i64 j) ∧ w'' = w') := fun j hj => hidI (fun w' => by
    have h1 := Pg.pick_any w' d.kind 9 ok.kind (by omega) (by omega)
    rw [hk0, hj] at h1
    exact h1)
  have hc : k = 0 ∨ (k = 1 ∨ k = 2 ∨ k = 3 ∨ k = 4) ∨ k = 5 ∨ k = 6 ∨ k = 7 ∨ k = 8 := by omega
  cases i with
  | false =>
    obtain ⟨aN, cN, eN, aW, nW, cW, ow, ch, b, m, V, O⟩ := h
    have hdb : d.l = [] ∨ ∀ bb off, d.ad = some ⟨bb, off, none⟩ → bb ∉ b.dp :: b.x.own := hdn.imp id (fun hd bb off ha hm => by
      have h1 := hd bb off ha
      have h2 := O.g.ab.new bb hm
      omega)
    rcases hc with hc | hc | hc | hc | hc | hc
    · exact ⟨_, doesO0 O hp hs hpos hpg2 d ok (PK 0 (by omega))⟩
    · exact ⟨_, doesOP O hp hs hpos hpg2 d ok h1000 hdb (k := (k : Int)) (by omega) (PK k rfl)⟩
    · exact ⟨_, doesO5 O hp hs hpos hpg2 d ok (PK 5 (by omega))⟩
    · exact ⟨_, doesO6 O hp hs hpos hpg2 d ok (PK 6 (by omega))⟩
    · exact ⟨_, doesO7 O hp hs hpos hpg2 d ok (PK 7 (by omega))⟩
    · exact ⟨_, doesO8 O hp hs hpos hpg2 d ok (PK 8 (by omega))⟩
  | true =>
    obtain ⟨aN, cN, eN, aW, cW, eW, b, m, U, H, V, I⟩ := h
    have hdb : d.l = [] ∨ ∀ bb off, d.ad = some ⟨bb, off, none⟩ → bb ∉ b.dp :: b.x.own := hdn.imp id (fun hd bb off ha hm => by
      have h1 := hd bb off ha
      have h2 := I.g.ab.new bb hm
      omega)
    rcases hc with hc | hc | hc | hc | hc | hc
    · exact ⟨_, doesI0 I hp hs hpos hpg2 d ok (PK 0 (by omega))⟩
    · exact ⟨_, doesIP I hp hs hpos hpg2 d ok h1000 hdb (k := (k : Int)) (by omega) (PK k rfl)⟩
    · exact ⟨_, doesI5 I hp hs hpos hpg2 d ok (PK 5 (by omega))⟩
    · exact ⟨_, doesI6 I hp hs hpos hpg2 d ok (PK 6 (by omega))⟩
    · exact ⟨_, doesI7 I hp hs hpos hpg2 d ok (PK 7 (by omega))⟩
    · exact ⟨_, doesI8 I hp hs hpos hpg2 d ok (PK 8 (by omega))⟩
theorem Cg.in_ {M : Array Value} {b : Bk} {m : Mst} (h : Cg w0 w rg mb bp dd ll pp nb pgn M b m) : Calls Tryz.prog 26 #[.pointer (some ⟨bp, 0, none⟩)] w fun e w' => e = .returned (.bool (b.t.st != 0)) ∧ w' = w := ab_in h.ab
theorem Cg.changes {M : Array Value} {b : Bk} {m : Mst} (h : Cg w0 w rg mb bp dd ll pp nb pgn M b m) : Calls Tryz.prog 27 #[.pointer (some ⟨bp, 0, none⟩)] w fun e w' => e = .returned (.int .i64 b.t.chg) ∧ w' = w := by
  have h1 := bchanges_any h.ab.bk.box h.ab.bk.dl
  rw [h.ab.ebp] at h1
  exact h1
/-- What the law reads behind a deed. -/
structure Rds (w : World) (rg mb bp : Nat) (i : Bool) (cg cv : Int) : Prop where
  r3 : w.cell? ⟨rg, 3, none⟩ = some (.pointer (some ⟨bp, 0, none⟩))
  m2 : w.cell? ⟨mb, 2, none⟩ = some (.bool i)
  m4 : w.cell? ⟨mb, 4, none⟩ = some (.int .i64 cv)
  inn : Calls Tryz.prog 26 #[.pointer (some ⟨bp, 0, none⟩)] w fun e w' => e = .returned (.bool i) ∧ w' = w
  chg : Calls Tryz.prog 27 #[.pointer (some ⟨bp, 0, none⟩)] w fun e w' => e = .returned (.int .i64 cg) ∧ w' = w
theorem CdB.rds (h : CdB i w0 w rg mb bp dd ll pp nb pgn p s) : ∃ cg cv : Int, (i = true → cg = cv) ∧ (i = false → cg = 0) ∧ Hid (∀ w', Fr [] w w' → Rds w' rg mb bp i cg cv) := by
  cases i with
  | false =>
    obtain ⟨aN, cN, eN, aW, nW, cW, ow, ch, b, m, V, O⟩ := h
    refine ⟨0, ch, (by intro e; cases e), fun _ => rfl, hidI (fun w' f => ?_)⟩
    have O' := O.quiet f
    have e1 : b.t = dl0 := O.idle.t
    have h1 := O'.g.in_
    have h2 := O'.g.changes
    rw [e1] at h1 h2
    exact ⟨O'.g.c3, O'.g.mc rfl, O'.g.mc rfl, h1, h2⟩
  | true =>
    obtain ⟨aN, cN, eN, aW, cW, eW, b, m, U, H, V, I⟩ := h
    refine ⟨b.t.chg, b.t.chg, fun _ => rfl, (by intro e; cases e), hidI (fun w' f => ?_)⟩
    have I' := I.quiet f
    have h1 := I'.g.in_
    rw [I.tx.st] at h1
    exact ⟨I'.g.c3, I'.g.mc rfl, I'.g.mc rfl, h1, I'.g.changes⟩
end
section
variable {ops : Array Oper} {o : Oper} {a : Act} {w : World} {Q : Exit → Act → World → Prop}
/-- append of one page to a table, in a region that draws. -/
theorem step_appP {K : Act → World → Prop} {X : Prop} (hgd : o.guard = none) (s x : Operand) (ho : o.op = .call { callee := .builtin .append, args := #[s, x], argTypes := #[57, 57] }) (B : Nat) (ad : Option Addr) (n c : Nat) (es : List (Nat × Nat)) (V : Pages) (b : Nat) (e : Nat × Nat) (hs : a.eval s = .slice ad n c) (hx : a.eval x = .slice (some ⟨b, 0, none⟩) 1 1)
    (ht : Tp B w ad n c es V) (hb : w.heap[b]? = some (.cells #[pgV e] 37)) (hv : RowB w e.1 e.2 (V n) ∧ (V n).length = 512 ∧ B ≤ e.1) (hB : B ≤ w.heap.size) (hm : n + 1 ≤ 100000)
    (h : ∀ g c' w' L, Tp B w' (some ⟨g, 0, none⟩) (n + 1) c' (es ++ [e]) V → Fr L w w' → (∀ j ∈ L, B ≤ j ∧ ∃ cur, w.heap[j]? = some (.cells cur 37)) → K (a.put o.dst (.slice (some ⟨g, 0, none⟩) (n + 1) c')) w') :
    if Region.wanted o (yielded ops a.tmps) = true then Oper.wp Tryz.prog o a w K Q else X := by
  have hw : Region.wanted o (yielded ops a.tmps) = true := by simp [Region.wanted, hgd]
  rw [if_pos hw]
  obtain ⟨i, hi, hz, hsz, hbb⟩ := Pg.infoS'
  obtain ⟨v', w', hrun, h2, h3, h4, h5⟩ := run_append_own_at (P := Tryz.prog) w B 57 o.type 37 i (.slice none 0 0) 1 24 Tryz.underlying57 hi hz hsz hbb rfl (by omega) _ n _ ht.own ⟨b, 0, none⟩ 1 1 [pgV e] (by simp)
    (by
      intro j x hx
      cases j with
      | zero =>
        simp at hx
        subst hx
        rw [Addr.add_mid]
        exact cell_of_row w b 0 _ _ _ hb
      | succ j => simp at hx) (by intro x hx; simp at hx; subst hx; rfl) (by unfold maxLen; omega) (by omega) hB
  rcases h2.2 with ⟨e', hn0⟩ | ⟨g, c', cur, e', r⟩
  · omega
  · subst e'
    have hL : ∀ j ∈ (Value.ownBlock (.slice ad n c)).toList, B ≤ j ∧ ∃ cur, w.heap[j]? = some (.cells cur 37) := by
      intro j hj
      rcases ht.own.2 with ⟨hn, _⟩ | ⟨g', cap, cur', hv', hb', hg', r'⟩
      · cases hn
        simp [Value.ownBlock] at hj
      · cases hv'
        simp [Value.ownBlock] at hj
        subst hj
        exact ⟨hb', cur', hg'⟩
    have f3 : Fr (Value.ownBlock (.slice ad n c)).toList w w' := (Fr.refl _ _).grown h3 (fun j e _ => by simp [e])
    have hout : ∀ {g2 c2 : Nat} {l2 : List UInt8}, RowB w g2 c2 l2 → g2 ∉ (Value.ownBlock (.slice ad n c)).toList := fun hr hm => by
      obtain ⟨_, cur, hc⟩ := hL _ hm
      obtain ⟨tl, h6, _⟩ := hr
      rw [h6] at hc
      simp at hc
    unfold Oper.wp execOp
    simp [ho, resolve, invoke, builtin, hs, hx, hrun, Result.andThen]
    refine h _ _ _ _ ⟨by rw [List.map_append]; exact h2, fun i' e' he' => ?_⟩ f3 hL
    have hlen := ht.len
    by_cases hlt : i' < es.length
    · rw [List.getElem?_append_left hlt] at he'
      exact ⟨(ht.blk i' e' he').1.kept f3 (hout (ht.blk i' e' he').1), (ht.blk i' e' he').2⟩
    · rw [List.getElem?_append_right (by omega)] at he'
      have e0 : i' - es.length = 0 := by
        have := (List.getElem?_eq_some_iff.1 he').1
        simp at this
        omega
      rw [e0] at he'
      simp at he'
      subst he'
      obtain rfl : i' = n := by omega
      exact ⟨hv.1.kept f3 (hout hv.1), hv.2⟩
theorem run_make512 (w : World) : (Instr.makeSlice 37 (.int .i64 512) (.int .i64 512)).run Tryz.prog w = .ok (.slice (some ⟨w.heap.size, 0, none⟩) 512 512) (w.alloc (.cells (arr (zs 512)) 5)) := by
  obtain ⟨i, hi, hz, hs, hb⟩ := info5'
  have hrun := run_makeSlice (P := Tryz.prog) w 37 5 i (.int .u8 0) Tryz.underlying37 hi hz .i64 .i64 (512 : Int) (512 : Int) (by omega) (by omega) (by rw [hs]; decide) (by rw [hb]; decide) (by omega)
  have e1 : (512 : Int).toNat * 1 = 512 := rfl
  rw [hs, e1, arr_zeros] at hrun
  exact hrun
end
section
variable {w0 w w' : World} {rg mb bp dd ll pp nb pgn : Nat} {M : Array Value} {b : Bk} {m : Mst} {L : List Nat}
theorem Cg.tabs (h : Cg w0 w rg mb bp dd ll pp nb pgn M b m) (f : Fr L w w') (hL : ∀ j ∈ L, w0.heap.size ≤ j ∧ ∃ cur, w.heap[j]? = some (.cells cur 37)) : Cg w0 w' rg mb bp dd ll pp nb pgn M b m :=
  { h with ab := h.ab.tab f hL (fun p hp cur e => by
      simp at hp
      rcases hp with rfl | rfl
      · simp at e
      · simp at e) }
end
end Go.Proofs.YtopaeomjndblkaaGreat

