/-
  Records that are alike, lent and kept: the kit's SameSpan, SameRecord, LentSpan, LentRecord, KeptSpan, KeptRecord.
-/
import Derived.Test.YticmjdblcomecaaGreatQGet
namespace Go.Proofs.YticmjdblcomecaaGreat
open Go.RowKit Go.Maps

set_option maxHeartbeats 1000000 in
set_option maxRecDepth 100000 in
theorem sameSpan_yes (w : World) (r : Rec) (s t : Spots) (hs : SpotsAt w r s) (ht : SpotsAt w r t) (h1 : r.old.length ≤ 1000000) (h2 : r.new.length ≤ 1000000) :
    Calls Tryz.prog 32 #[.agg (spanV r s), .agg (spanV r t)] w fun e w' => e = .returned (.bool true) ∧ Fr [] w w' := by
  have p1 : PBox ((w.alloc (.cells (spanV r s) 25)).alloc (.cells (spanV r t) 25)) w.heap.size r s := heap_alloc2_old w _ _
  have p2 : PBox ((w.alloc (.cells (spanV r s) 25)).alloc (.cells (spanV r t) 25)) (w.heap.size + 1) r t := heap_alloc2_new w _ _
  have f2 : Fr [] w ((w.alloc (.cells (spanV r s) 25)).alloc (.cells (spanV r t) 25)) := kept_two _ _
  have HS := hidI hs
  have HT := hidI ht
  clear hs ht
  go_enter Tryz.func32, Tryz.ntmps32
  have x0 := p1.c0
  have x1 := p1.c1
  have x2 := p1.c2
  have y0 := p2.c0
  have y1 := p2.c1
  have y2 := p2.c2
  generalize hA : (w.alloc (.cells (spanV r s) 25)).alloc (.cells (spanV r t) 25) = w2 at p1 p2 f2 x0 x1 x2 y0 y1 y2
  go_wp2_with fail
  refine (same_any w2 s.a1 t.a1 r.old r.old r.old.length s.c1 t.c1 (HS.out.kept f2).b1 (HT.out.kept f2).b1 rfl rfl h1).mono ?_
  rintro e w3 ⟨rfl, f3⟩
  have x3 := (p1.kept f3 (by simp)).c3
  have y3 := (p2.kept f3 (by simp)).c3
  have F3 := f2.trans f3
  rw [beq_self_eq_true]
  clear x0 x1 x2 y0 y1 y2
  go_wp2_with fail
  refine (same_any w3 s.a2 t.a2 r.new r.new r.new.length s.c2 t.c2 (HS.out.kept F3).b2 (HT.out.kept F3).b2 rfl rfl h2).mono ?_
  rintro e w4 ⟨rfl, f4⟩
  rw [beq_self_eq_true]
  go_wp2_with fail
  go_ret
  exact ⟨rfl, F3.trans f4⟩

set_option maxHeartbeats 1000000 in
set_option maxRecDepth 100000 in
theorem sameRec_yes (w : World) (r : Rec) (s t : Spots) (hs : SpotsAt w r s) (ht : SpotsAt w r t) (h1 : r.old.length ≤ 1000000) (h2 : r.new.length ≤ 1000000) :
    Calls Tryz.prog 9 #[.agg (recV r s), .agg (recV r t)] w fun e w' => e = .returned (.bool true) ∧ Fr [] w w' := by
  have p1 : RBox ((w.alloc (.cells (recV r s) 27)).alloc (.cells (recV r t) 27)) w.heap.size r s := heap_alloc2_old w _ _
  have p2 : RBox ((w.alloc (.cells (recV r s) 27)).alloc (.cells (recV r t) 27)) (w.heap.size + 1) r t := heap_alloc2_new w _ _
  have f2 : Fr [] w ((w.alloc (.cells (recV r s) 27)).alloc (.cells (recV r t) 27)) := kept_two _ _
  have HS := hidI hs
  have HT := hidI ht
  clear hs ht
  have x0 := p1.c0
  have x1 := p1.c1
  have x2 := p1.c2
  have x3 := p1.c3
  have x4 := p1.c4
  have x5 := p1.c5
  have x6 := p1.c6
  have x7 := p1.c7
  have x8 := p1.c8
  have x9 := p1.c9
  have y0 := p2.c0
  have y1 := p2.c1
  have y2 := p2.c2
  have y3 := p2.c3
  have y4 := p2.c4
  have y5 := p2.c5
  have y6 := p2.c6
  have y7 := p2.c7
  have y8 := p2.c8
  have y9 := p2.c9
  go_enter Tryz.func9, Tryz.ntmps9
  generalize hA : (w.alloc (.cells (recV r s) 27)).alloc (.cells (recV r t) 27) = w2 at p1 p2 f2 x0 x1 x2 x3 x4 x5 x6 x7 x8 x9 y0 y1 y2 y3 y4 y5 y6 y7 y8 y9
  clear p1 p2
  go_wp2_with fail
  refine (sameSpan_yes w2 r s t (HS.out.kept f2) (HT.out.kept f2) h1 h2).mono ?_
  rintro e w3 ⟨rfl, f3⟩
  go_wp2_with fail
  go_ret
  exact ⟨rfl, f2.trans f3⟩

/-- A record's lists as they are lent. -/
structure LentR (w : World) (r : Rec) (s : Spots) : Prop where
  o : ∃ g k, s.a1 = some ⟨g, 0, none⟩ ∧ s.c1 = k ∧ LentAt w g k r.old
  n : ∃ g k, s.a2 = some ⟨g, 0, none⟩ ∧ s.c2 = k ∧ LentAt w g k r.new
theorem LentR.spots {w : World} {r : Rec} {s : Spots} (h : LentR w r s) : SpotsAt w r s := by
  obtain ⟨g1, k1, e1, rfl, h1⟩ := h.o
  obtain ⟨g2, k2, e2, rfl, h2⟩ := h.n
  exact ⟨by rw [e1]; exact h1.bytes, by rw [e2]; exact h2.bytes, fun e => (by rw [e1] at e; cases e), fun e => (by rw [e2] at e; cases e)⟩
theorem LentR.kept {w w' : World} {r : Rec} {s : Spots} (h : LentR w r s) (f : Fr [] w w') : LentR w' r s := by
  obtain ⟨g1, k1, e1, e2, h1⟩ := h.o
  obtain ⟨g2, k2, e3, e4, h2⟩ := h.n
  exact ⟨⟨g1, k1, e1, e2, h1.kept f (by simp)⟩, ⟨g2, k2, e3, e4, h2.kept f (by simp)⟩⟩

theorem RBox.t8 {w : World} {b : Nat} {r : Rec} {s : Spots} (h : RBox w b r s) (ad : Option Addr) (l : List UInt8) (n c : Nat) (hl : l.length = n) : RBox (w.setCell ⟨b, 8, none⟩ (.slice ad n c)) b { r with old := l } { s with a1 := ad, c1 := c } := by
  subst hl
  exact heap_setCell_same w b 8 _ _ _ h
theorem RBox.t9 {w : World} {b : Nat} {r : Rec} {s : Spots} (h : RBox w b r s) (ad : Option Addr) (l : List UInt8) (n c : Nat) (hl : l.length = n) : RBox (w.setCell ⟨b, 9, none⟩ (.slice ad n c)) b { r with new := l } { s with a2 := ad, c2 := c } := by
  subst hl
  exact heap_setCell_same w b 9 _ _ _ h
theorem sizeP : (Tryz.prog.info? 25).map (·.size) = some 4 := by kernel_rfl
theorem PBox.t2 {w : World} {b : Nat} {r : Rec} {s : Spots} (h : PBox w b r s) (ad : Option Addr) (c : Nat) : PBox (w.setCell ⟨b, 2, none⟩ (.slice ad r.old.length c)) b r { s with a1 := ad, c1 := c } := heap_setCell_same w b 2 _ _ _ h
theorem PBox.t3 {w : World} {b : Nat} {r : Rec} {s : Spots} (h : PBox w b r s) (ad : Option Addr) (c : Nat) : PBox (w.setCell ⟨b, 3, none⟩ (.slice ad r.new.length c)) b r { s with a2 := ad, c2 := c } := heap_setCell_same w b 3 _ _ _ h
theorem PBox.fz {w : World} {b : Nat} {r : Rec} {s : Spots} (h : PBox w b r s) (j : Nat) : w.frozen? ⟨b, j, none⟩ = false := frozen_of_row w b j _ _ h
section
variable {ops : Array Oper} {rest : List Oper} {o : Oper} {a : Act} {w : World} {Q : Exit → Act → World → Prop}
theorem wp_storeP (hgd : o.guard = none) (x y : Operand) (ho : o.op = .store 25 x y) (b : Nat) (r r' : Rec) (s s' : Spots) (hx : a.eval x = .pointer (some ⟨b, 0, none⟩)) (hy : a.eval y = .agg (spanV r' s')) (hg : PBox w b r s)
    (h : ∀ w', PBox w' b r' s' → Fr [b] w w' → wpList Tryz.prog ops Q rest (a.put o.dst undef) w') : wpList Tryz.prog ops Q (o :: rest) a w :=
  wpList_store_row hgd 25 x y ho b (spanV r' s') hx hy 25 (spanV r s) hg sizeP rfl (by simp [spanV]; exact ⟨rfl, rfl, rfl, rfl⟩)
    (h _ (setRow_heap w b _ _ _ _ hg) ⟨rfl, rfl, rfl, by simp, fun i _ hn => setRow_other w b i _ (fun e => hn (by simp [e]))⟩)
end
theorem resP1 {fn : Func} {p : Tmp} (h : fn.results = #[.cell p 25]) (tmps : Array Value) (w : World) (b : Nat) (r : Rec) (s : Spots) (hp : tmps.getD p undef = .pointer (some ⟨b, 0, none⟩)) (hg : PBox w b r s) :
    (results fn tmps).run Tryz.prog w = .ok (.agg (spanV r s)) w :=
  results_cell_row h tmps w b _ _ _ _ hp hg Tryz.underlying25 rfl (by rw [sizeP]; rfl)
theorem resR1' {fn : Func} {p : Tmp} (h : fn.results = #[.cell p 27]) (tmps : Array Value) (w : World) (b : Nat) (r : Rec) (s : Spots) (hp : tmps.getD p undef = .pointer (some ⟨b, 0, none⟩)) (hg : RBox w b r s) :
    (results fn tmps).run Tryz.prog w = .ok (.agg (recV r s)) w :=
  results_cell_row h tmps w b _ _ _ _ hp hg Tryz.underlying27 rfl (by rw [sizeR]; rfl)

end Go.Proofs.YticmjdblcomecaaGreat
