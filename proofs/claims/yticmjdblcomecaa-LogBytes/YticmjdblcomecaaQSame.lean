/-
  Records that are alike, lent and kept: the kit's SameSpan, SameRecord, LentSpan, LentRecord, KeptSpan, KeptRecord.
-/
import Derived.Test.YticmjdblcomecaaQGet
namespace Go.Proofs.Yticmjdblcomecaa
open Go.RowKit Go.Maps

set_option maxHeartbeats 1000000 in
set_option maxRecDepth 100000 in
theorem sameSpan_yes (w : World) (r : Rec) (s t : Spots) (hs : SpotsAt w r s) (ht : SpotsAt w r t) (h1 : r.old.length ≤ 1000000) (h2 : r.new.length ≤ 1000000) :
    Calls Try.prog 50 #[.agg (spanV r s), .agg (spanV r t)] w fun e w' => e = .returned (.bool true) ∧ Fr [] w w' := by
  have p1 : PBox ((w.alloc (.cells (spanV r s) 25)).alloc (.cells (spanV r t) 25)) w.heap.size r s := heap_alloc2_old w _ _
  have p2 : PBox ((w.alloc (.cells (spanV r s) 25)).alloc (.cells (spanV r t) 25)) (w.heap.size + 1) r t := heap_alloc2_new w _ _
  have f2 : Fr [] w ((w.alloc (.cells (spanV r s) 25)).alloc (.cells (spanV r t) 25)) := kept_two _ _
  have HS := hidI hs
  have HT := hidI ht
  clear hs ht
  go_enter Try.func50, Try.ntmps50
  have x0 := p1.c0
  have x1 := p1.c1
  have x2 := p1.c2
  have y0 := p2.c0
  have y1 := p2.c1
  have y2 := p2.c2
  generalize hA : (w.alloc (.cells (spanV r s) 25)).alloc (.cells (spanV r t) 25) = w2 at p1 p2 f2 x0 x1 x2 y0 y1 y2
  go_wp2_with fail
  refine (same_any w2 s.a1 t.a1 r.old r.old r.old.length s.c1 t.c1 (HS.out.kept f2).b1 (HT.out.kept f2).b1 rfl rfl h1).mono ?_
  rintro e w3 ⟨rfl, f3⟩
  have x3 := (p1.kept f3 (by simp)).c3
  have y3 := (p2.kept f3 (by simp)).c3
  have F3 := f2.trans f3
  rw [beq_self_eq_true]
  clear x0 x1 x2 y0 y1 y2
  go_wp2_with fail
  refine (same_any w3 s.a2 t.a2 r.new r.new r.new.length s.c2 t.c2 (HS.out.kept F3).b2 (HT.out.kept F3).b2 rfl rfl h2).mono ?_
  rintro e w4 ⟨rfl, f4⟩
  rw [beq_self_eq_true]
  go_wp2_with fail
  go_ret
  exact ⟨rfl, F3.trans f4⟩

set_option maxHeartbeats 1000000 in
set_option maxRecDepth 100000 in
theorem sameRec_yes (w : World) (r : Rec) (s t : Spots) (hs : SpotsAt w r s) (ht : SpotsAt w r t) (h1 : r.old.length ≤ 1000000) (h2 : r.new.length ≤ 1000000) :
    Calls Try.prog 15 #[.agg (recV r s), .agg (recV r t)] w fun e w' => e = .returned (.bool true) ∧ Fr [] w w' := by
  have p1 : RBox ((w.alloc (.cells (recV r s) 27)).alloc (.cells (recV r t) 27)) w.heap.size r s := heap_alloc2_old w _ _
  have p2 : RBox ((w.alloc (.cells (recV r s) 27)).alloc (.cells (recV r t) 27)) (w.heap.size + 1) r t := heap_alloc2_new w _ _
  have f2 : Fr [] w ((w.alloc (.cells (recV r s) 27)).alloc (.cells (recV r t) 27)) := kept_two _ _
  have HS := hidI hs
  have HT := hidI ht
  clear hs ht
  have x0 := p1.c0
  have x1 := p1.c1
  have x2 := p1.c2
  have x3 := p1.c3
  have x4 := p1.c4
  have x5 := p1.c5
  have x6 := p1.c6
  have x7 := p1.c7
  have x8 := p1.c8
  have x9 := p1.c9
  have y0 := p2.c0
  have y1 := p2.c1
  have y2 := p2.c2
  have y3 := p2.c3
  have y4 := p2.c4
  have y5 := p2.c5
  have y6 := p2.c6
  have y7 := p2.c7
  have y8 := p2.c8
  have y9 := p2.c9
  go_enter Try.func15, Try.ntmps15
  generalize hA : (w.alloc (.cells (recV r s) 27)).alloc (.cells (recV r t) 27) = w2 at p1 p2 f2 x0 x1 x2 x3 x4 x5 x6 x7 x8 x9 y0 y1 y2 y3 y4 y5 y6 y7 y8 y9
  clear p1 p2
  go_wp2_with fail
  refine (sameSpan_yes w2 r s t (HS.out.kept f2) (HT.out.kept f2) h1 h2).mono ?_
  rintro e w3 ⟨rfl, f3⟩
  go_wp2_with fail
  go_ret
  exact ⟨rfl, f2.trans f3⟩

/-- A record's lists as they are lent. -/
structure LentR (w : World) (r : Rec) (s : Spots) : Prop where
  o : ∃ g k, s.a1 = some ⟨g, 0, none⟩ ∧ s.c1 = k ∧ LentAt w g k r.old
  n : ∃ g k, s.a2 = some ⟨g, 0, none⟩ ∧ s.c2 = k ∧ LentAt w g k r.new
theorem LentR.spots {w : World} {r : Rec} {s : Spots} (h : LentR w r s) : SpotsAt w r s := by
  obtain ⟨g1, k1, e1, rfl, h1⟩ := h.o
  obtain ⟨g2, k2, e2, rfl, h2⟩ := h.n
  exact ⟨by rw [e1]; exact h1.bytes, by rw [e2]; exact h2.bytes, fun e => (by rw [e1] at e; cases e), fun e => (by rw [e2] at e; cases e)⟩
theorem LentR.kept {w w' : World} {r : Rec} {s : Spots} (h : LentR w r s) (f : Fr [] w w') : LentR w' r s := by
  obtain ⟨g1, k1, e1, e2, h1⟩ := h.o
  obtain ⟨g2, k2, e3, e4, h2⟩ := h.n
  exact ⟨⟨g1, k1, e1, e2, h1.kept f (by simp)⟩, ⟨g2, k2, e3, e4, h2.kept f (by simp)⟩⟩

set_option maxHeartbeats 1000000 in
set_option maxRecDepth 100000 in
theorem keptSpan_yes (w : World) (r : Rec) (s t : Spots) (hs : LentR w r s) (ht : SpotsAt w r t) (h1 : r.old.length ≤ 5000) (h2 : r.new.length ≤ 5000) :
    Calls Try.prog 49 #[.agg (spanV r s), .agg (spanV r t)] w fun e w' => e = .returned (.bool true) ∧ Fr [] w w' := by
  have p1 : PBox ((w.alloc (.cells (spanV r s) 25)).alloc (.cells (spanV r t) 25)) w.heap.size r s := heap_alloc2_old w _ _
  have p2 : PBox ((w.alloc (.cells (spanV r s) 25)).alloc (.cells (spanV r t) 25)) (w.heap.size + 1) r t := heap_alloc2_new w _ _
  have f2 : Fr [] w ((w.alloc (.cells (spanV r s) 25)).alloc (.cells (spanV r t) 25)) := kept_two _ _
  have HS := hidI hs
  have HT := hidI ht
  clear hs ht
  have x0 := p1.c0
  have x1 := p1.c1
  have x2 := p1.c2
  have x3 := p1.c3
  have y0 := p2.c0
  have y1 := p2.c1
  have y2 := p2.c2
  have y3 := p2.c3
  go_enter Try.func49, Try.ntmps49
  generalize hA : (w.alloc (.cells (spanV r s) 25)).alloc (.cells (spanV r t) 25) = w2 at p1 p2 f2 x0 x1 x2 x3 y0 y1 y2 y3
  go_wp2_with fail
  refine (sameSpan_yes w2 r s t (HS.out.kept f2).spots (HT.out.kept f2) (by omega) (by omega)).mono ?_
  rintro e w3 ⟨rfl, f3⟩
  have P3 := p1.kept f3 (by simp)
  have R3 := p2.kept f3 (by simp)
  have F3 := f2.trans f3
  clear x0 x1 x2 x3 y0 y1 y2 y3 p1 p2 hA
  have x2 := P3.c2
  have y2 := R3.c2
  obtain ⟨g1, k1, e1, e2, l1⟩ := (HS.out.kept F3).o
  obtain ⟨g2, k2, e3, e4, l2⟩ := (HS.out.kept F3).n
  rw [e1, e2] at x2
  go_wp2_with fail
  refine (kept_any w3 g1 k1 r.old.length t.c1 t.a1 r.old rfl h1 l1 (HT.out.kept F3).b1).mono ?_
  rintro e w4 ⟨rfl, f4⟩
  have x3 := (P3.kept f4 (by simp)).c3
  have y3 := (R3.kept f4 (by simp)).c3
  rw [e3, e4] at x3
  have F4 := F3.trans f4
  clear x2 y2
  go_wp2_with fail
  refine (kept_any w4 g2 k2 r.new.length t.c2 t.a2 r.new rfl h2 (l2.kept f4 (by simp)) (HT.out.kept F4).b2).mono ?_
  rintro e w5 ⟨rfl, f5⟩
  go_wp2_with fail
  go_ret
  exact ⟨rfl, F4.trans f5⟩

set_option maxHeartbeats 1000000 in
set_option maxRecDepth 100000 in
theorem keptRec_yes (w : World) (r : Rec) (s t : Spots) (hs : LentR w r s) (ht : SpotsAt w r t) (h1 : r.old.length ≤ 5000) (h2 : r.new.length ≤ 5000) :
    Calls Try.prog 14 #[.agg (recV r s), .agg (recV r t)] w fun e w' => e = .returned (.bool true) ∧ Fr [] w w' := by
  have p1 : RBox ((w.alloc (.cells (recV r s) 27)).alloc (.cells (recV r t) 27)) w.heap.size r s := heap_alloc2_old w _ _
  have p2 : RBox ((w.alloc (.cells (recV r s) 27)).alloc (.cells (recV r t) 27)) (w.heap.size + 1) r t := heap_alloc2_new w _ _
  have f2 : Fr [] w ((w.alloc (.cells (recV r s) 27)).alloc (.cells (recV r t) 27)) := kept_two _ _
  have HS := hidI hs
  have HT := hidI ht
  clear hs ht
  go_enter Try.func14, Try.ntmps14
  generalize hA : (w.alloc (.cells (recV r s) 27)).alloc (.cells (recV r t) 27) = w2 at p1 p2 f2
  go_wp2_with (first
    | (refine wpList_load_row rfl 27 _ rfl w.heap.size rfl _ _ _ _ p1 Try.underlying27 rfl (by rw [sizeR]; rfl) ?_)
    | (refine wpList_load_row rfl 27 _ rfl (w.heap.size + 1) rfl _ _ _ _ p2 Try.underlying27 rfl (by rw [sizeR]; rfl) ?_))
  refine (sameRec_yes w2 r s t (HS.out.kept f2).spots (HT.out.kept f2) (by omega) (by omega)).mono ?_
  rintro e w3 ⟨rfl, f3⟩
  have P3 := p1.kept f3 (by simp)
  have R3 := p2.kept f3 (by simp)
  have F3 := f2.trans f3
  clear p1 p2 hA
  have x6 := P3.c6
  have x7 := P3.c7
  have x8 := P3.c8
  have x9 := P3.c9
  have y6 := R3.c6
  have y7 := R3.c7
  have y8 := R3.c8
  have y9 := R3.c9
  clear P3 R3
  go_wp2_with fail
  refine (keptSpan_yes w3 r s t (HS.out.kept F3) (HT.out.kept F3) h1 h2).mono ?_
  rintro e w4 ⟨rfl, f4⟩
  go_wp2_with fail
  go_ret
  exact ⟨rfl, F3.trans f4⟩

set_option maxHeartbeats 1000000 in
set_option maxRecDepth 100000 in
theorem lentQ_nil (w : World) (n : Nat) (l : List UInt8) (hl : l.length = n) (hn : n ≤ 5000) (hn2 : n = 0) :
    Calls Try.prog 10 #[.slice none 0 0] w fun e w' => ∃ g cap, e = .returned (.slice (some ⟨g, 0, none⟩) 0 cap) ∧ LentAt w' g cap [] ∧ w.heap.size ≤ g ∧ Fr [] w w' := by
  subst hn2
  obtain rfl : l = [] := List.eq_nil_of_length_eq_zero hl
  obtain ⟨i, hi, hz, hs, hb⟩ := info5'
  have HL : Hid (([] : List UInt8).length = 0) := rfl
  have n0 : (0 : Nat) = 0 := rfl
  clear hl hn
  go_enter Try.func10, Try.ntmps10
  go_wp2_with (first
    | (refine wp_make0 rfl _ _ rfl 12 rfl (by rfl) (by omega) w (Fr.refl _ _) ?_; intro w1 o1)
    | (refine wpList_append_own_none rfl _ _ 23 rfl w.heap.size 5 i 1 Try.underlying23 hi _ 0 [] rfl o1.1 rfl ?_; have o2 := o1)
    | go_in)
  go_loopw [3, 4] (fun v i wr => ∃ j : Nat, j ≤ 12 ∧ i = .int .i64 j ∧ Own w wr v j (arr ([] ++ mkL 1 j)).toList) (fun _ i _ => 12 - (intOf i).toNat)
  case atStart => exact ⟨0, by omega, rfl, by simpa [mkL, arr] using o2⟩
  case round =>
    obtain ⟨j, hj, rfl, ow⟩ := hrel
    by_cases hlt : j < 12
    · have hlt' : (j : Int) < 12 := by omega
      have hj0 : (0 : Int) ≤ (j : Int) := by omega
      obtain ⟨m0, m1⟩ := mB_range 1 j
      go_wp2_with (first
        | (go_at_call 43; refine (markByte_any _ 1 j (by omega) (by omega) hj0 (by omega)).mono ?_; rintro e w5 ⟨rfl, rfl⟩)
        | (refine wp_app rfl _ _ rfl w _ j _ rfl (ow.kept ((Fr.refl [] wr).alloc _)) _ 1 _ [UInt8.ofNat (mB 1 j).toNat] rfl rfl (oneByte (mB 1 j) m0 m1 wr) (by omega) (fun h => absurd h (by omega)) ?_; intro v5 w5 o5)
        | go_in)
      refine ⟨⟨j + 1, by omega, by go_num, ?_⟩, by simp [intOf]; omega⟩
      rw [mkL_succ, ← List.append_assoc, ← arr_append]
      exact o5
    · obtain rfl : j = 12 := by omega
      have hpos : 0 < 12 := by omega
      obtain ⟨hle, hcase⟩ := ow.1
      rcases hcase with ⟨_, h0⟩ | ⟨g, cap, cur, hv, hb, hg, hcap, hmx, hsz, htk⟩
      · omega
      · subst hv
        have hcap' : (0 : Int) ≤ (cap : Int) := by omega
        have hcz : ¬ cap = 0 := by omega
        go_wp2_with fail
        go_ret
        exact ⟨g, cap, rfl, ⟨⟨cur, hg, by rw [HL.out]; simpa using htk, by omega⟩, by rw [HL.out]; omega⟩, hb, ow.2⟩



theorem lentQ (w : World) (ad : Option Addr) (n c : Nat) (l : List UInt8) (hl : l.length = n) (hb : BytesAt w ad l) (hn : n ≤ 5000) (hz : ad = none → n = 0 ∧ c = 0) :
    Calls Try.prog 10 #[.slice ad n c] w fun e w' => ∃ g cap, e = .returned (.slice (some ⟨g, 0, none⟩) n cap) ∧ LentAt w' g cap l ∧ w.heap.size ≤ g ∧ Fr [] w w' := by
  cases ad with
  | none =>
    obtain ⟨rfl, rfl⟩ := hz rfl
    have e0 : l = [] := List.eq_nil_of_length_eq_zero hl
    subst e0
    exact lentQ_nil w 0 [] rfl (by omega) rfl
  | some a0 => exact lent_any w a0 n c l hl hn hb

theorem RBox.t8 {w : World} {b : Nat} {r : Rec} {s : Spots} (h : RBox w b r s) (ad : Option Addr) (l : List UInt8) (n c : Nat) (hl : l.length = n) : RBox (w.setCell ⟨b, 8, none⟩ (.slice ad n c)) b { r with old := l } { s with a1 := ad, c1 := c } := by
  subst hl
  exact heap_setCell_same w b 8 _ _ _ h
theorem RBox.t9 {w : World} {b : Nat} {r : Rec} {s : Spots} (h : RBox w b r s) (ad : Option Addr) (l : List UInt8) (n c : Nat) (hl : l.length = n) : RBox (w.setCell ⟨b, 9, none⟩ (.slice ad n c)) b { r with new := l } { s with a2 := ad, c2 := c } := by
  subst hl
  exact heap_setCell_same w b 9 _ _ _ h
theorem sizeP : (Try.prog.info? 25).map (·.size) = some 4 := by kernel_rfl
theorem PBox.t2 {w : World} {b : Nat} {r : Rec} {s : Spots} (h : PBox w b r s) (ad : Option Addr) (c : Nat) : PBox (w.setCell ⟨b, 2, none⟩ (.slice ad r.old.length c)) b r { s with a1 := ad, c1 := c } := heap_setCell_same w b 2 _ _ _ h
theorem PBox.t3 {w : World} {b : Nat} {r : Rec} {s : Spots} (h : PBox w b r s) (ad : Option Addr) (c : Nat) : PBox (w.setCell ⟨b, 3, none⟩ (.slice ad r.new.length c)) b r { s with a2 := ad, c2 := c } := heap_setCell_same w b 3 _ _ _ h
theorem PBox.fz {w : World} {b : Nat} {r : Rec} {s : Spots} (h : PBox w b r s) (j : Nat) : w.frozen? ⟨b, j, none⟩ = false := frozen_of_row w b j _ _ h
section
variable {ops : Array Oper} {rest : List Oper} {o : Oper} {a : Act} {w : World} {Q : Exit → Act → World → Prop}
theorem wp_storeP (hgd : o.guard = none) (x y : Operand) (ho : o.op = .store 25 x y) (b : Nat) (r r' : Rec) (s s' : Spots) (hx : a.eval x = .pointer (some ⟨b, 0, none⟩)) (hy : a.eval y = .agg (spanV r' s')) (hg : PBox w b r s)
    (h : ∀ w', PBox w' b r' s' → Fr [b] w w' → wpList Try.prog ops Q rest (a.put o.dst undef) w') : wpList Try.prog ops Q (o :: rest) a w :=
  wpList_store_row hgd 25 x y ho b (spanV r' s') hx hy 25 (spanV r s) hg sizeP rfl (by simp [spanV]; exact ⟨rfl, rfl, rfl, rfl⟩)
    (h _ (setRow_heap w b _ _ _ _ hg) ⟨rfl, rfl, rfl, by simp, fun i _ hn => setRow_other w b i _ (fun e => hn (by simp [e]))⟩)
end
theorem resP1 {fn : Func} {p : Tmp} (h : fn.results = #[.cell p 25]) (tmps : Array Value) (w : World) (b : Nat) (r : Rec) (s : Spots) (hp : tmps.getD p undef = .pointer (some ⟨b, 0, none⟩)) (hg : PBox w b r s) :
    (results fn tmps).run Try.prog w = .ok (.agg (spanV r s)) w :=
  results_cell_row h tmps w b _ _ _ _ hp hg Try.underlying25 rfl (by rw [sizeP]; rfl)
theorem resR1' {fn : Func} {p : Tmp} (h : fn.results = #[.cell p 27]) (tmps : Array Value) (w : World) (b : Nat) (r : Rec) (s : Spots) (hp : tmps.getD p undef = .pointer (some ⟨b, 0, none⟩)) (hg : RBox w b r s) :
    (results fn tmps).run Try.prog w = .ok (.agg (recV r s)) w :=
  results_cell_row h tmps w b _ _ _ _ hp hg Try.underlying27 rfl (by rw [sizeR]; rfl)

set_option maxHeartbeats 1000000 in
set_option maxRecDepth 100000 in
theorem lentSpan_any (w : World) (r : Rec) (s : Spots) (hs : SpotsAt w r s) (h1 : r.old.length ≤ 5000) (h2 : r.new.length ≤ 5000) :
    Calls Try.prog 33 #[.agg (spanV r s)] w fun e w' => ∃ t, e = .returned (.agg (spanV r t)) ∧ LentR w' r t ∧ ((∀ a, t.a1 = some a → w.heap.size ≤ a.block) ∧ ∀ a, t.a2 = some a → w.heap.size ≤ a.block) ∧ Fr [] w w' := by
  have p1 : PBox ((w.alloc (.cells (spanV r s) 25)).alloc (.cells #[.int .i64 0, .int .i64 0, .slice none 0 0, .slice none 0 0] 25)) w.heap.size r s := heap_alloc2_old w _ _
  have p2 : PBox ((w.alloc (.cells (spanV r s) 25)).alloc (.cells #[.int .i64 0, .int .i64 0, .slice none 0 0, .slice none 0 0] 25)) (w.heap.size + 1) (zeroR 0 0) zeroS := heap_alloc2_new w _ _
  have f2 : Fr [] w ((w.alloc (.cells (spanV r s) 25)).alloc (.cells #[.int .i64 0, .int .i64 0, .slice none 0 0, .slice none 0 0] 25)) := kept_two _ _
  have HS := hidI hs
  clear hs
  have x2 := p1.c2
  go_enter Try.func33, Try.ntmps33
  generalize hA : (w.alloc (.cells (spanV r s) 25)).alloc (.cells #[.int .i64 0, .int .i64 0, .slice none 0 0, .slice none 0 0] 25) = w2 at p1 p2 f2 x2
  go_wp2_with fail
  have S2 := HS.out.kept f2
  refine (lentQ w2 s.a1 r.old.length s.c1 r.old rfl S2.b1 h1 S2.n1).mono ?_
  rintro e w3 ⟨g1, k1, rfl, l1, hg1, f3⟩
  have q1 := p1.kept f3 (by simp)
  have q2 := p2.kept f3 (by simp)
  have F3 := f2.trans f3
  have hz : w.heap.size < w2.heap.size := (Array.getElem?_eq_some_iff.1 p1).1
  have hz' : w.heap.size + 1 < w2.heap.size := (Array.getElem?_eq_some_iff.1 p2).1
  clear p1 p2 x2 hA S2
  have x2 := q1.c2
  have z2 := q1.fz 2
  obtain ⟨w4, hw4⟩ : ∃ w4, w3.setCell ⟨w.heap.size, 2, none⟩ (.slice (some ⟨g1, 0, none⟩) r.old.length k1) = w4 := ⟨_, rfl⟩
  have f4 : Fr [w.heap.size] w3 w4 := by rw [← hw4]; exact fr_set w3 _ 2 _
  have r1 := q1.t2 (some ⟨g1, 0, none⟩) k1
  rw [hw4] at r1
  have r2 := q2.kept f4 (by simp)
  have L4 := l1.kept f4 (by simp; omega)
  have F4 := F3.then f4 (fun i hi hm => by simp at hm; omega)
  have x3 := r1.c3
  go_wp2_with fail
  have S4 := HS.out.kept F4
  refine (lentQ w4 s.a2 r.new.length s.c2 r.new rfl S4.b2 h2 S4.n2).mono ?_
  rintro e w5 ⟨g2, k2, rfl, l2, hg2, f5⟩
  have t1 := r1.kept f5 (by simp)
  have t2 := r2.kept f5 (by simp)
  have L5 := L4.kept f5 (by simp)
  have F5 := F4.trans f5
  have hz4 : w.heap.size < w4.heap.size := (Array.getElem?_eq_some_iff.1 r1).1
  have hz4' : w.heap.size + 1 < w4.heap.size := (Array.getElem?_eq_some_iff.1 r2).1
  clear x2 z2 x3 hw4 r1 r2 L4 q1 q2
  have x3 := t1.c3
  have z3 := t1.fz 3
  obtain ⟨w6, hw6⟩ : ∃ w6, w5.setCell ⟨w.heap.size, 3, none⟩ (.slice (some ⟨g2, 0, none⟩) r.new.length k2) = w6 := ⟨_, rfl⟩
  have f6 : Fr [w.heap.size] w5 w6 := by rw [← hw6]; exact fr_set w5 _ 3 _
  have u1 := t1.t3 (some ⟨g2, 0, none⟩) k2
  rw [hw6] at u1
  have u2 := t2.kept f6 (by simp)
  have L6 := L5.kept f6 (by simp; omega)
  have M6 := l2.kept f6 (by simp; omega)
  have F6 := F5.then f6 (fun i hi hm => by simp at hm; omega)
  go_wp2_with (first
    | (refine wpList_load_row rfl 25 _ rfl w.heap.size rfl _ _ _ _ u1 Try.underlying25 rfl (by rw [sizeP]; rfl) ?_)
    | (refine wp_storeP rfl _ _ rfl (w.heap.size + 1) _ r _ _ rfl rfl u2 ?_; intro w7 v7 f7))
  refine bodyPost_ret (resP1 rfl _ _ (w.heap.size + 1) r _ rfl v7) rfl ⟨_, rfl, ⟨⟨g1, k1, rfl, rfl, L6.kept f7 ?_⟩, ⟨g2, k2, rfl, rfl, M6.kept f7 ?_⟩⟩, ⟨fun a e => ?_, fun a e => ?_⟩, F6.then f7 (fun i hi hm => by simp at hm; omega)⟩
  · simp; omega
  · simp; omega
  · cases e; dsimp only; omega
  · cases e; dsimp only; omega

set_option maxHeartbeats 1000000 in
set_option maxRecDepth 100000 in
theorem lentRec_any (w : World) (r : Rec) (s : Spots) (hs : SpotsAt w r s) (h1 : r.old.length ≤ 5000) (h2 : r.new.length ≤ 5000) :
    Calls Try.prog 7 #[.agg (recV r s)] w fun e w' => ∃ t, e = .returned (.agg (recV r t)) ∧ LentR w' r t ∧ Fr [] w w' := by
  have p1 : RBox ((w.alloc (.cells (recV r s) 27)).alloc (.cells #[.int .i64 0, .int .i64 0, .int .u8 0, .int .i64 0, .int .i64 0, .int .i64 0, .int .i64 0, .int .i64 0, .slice none 0 0, .slice none 0 0] 27)) w.heap.size r s := heap_alloc2_old w _ _
  have p2 : RBox ((w.alloc (.cells (recV r s) 27)).alloc (.cells #[.int .i64 0, .int .i64 0, .int .u8 0, .int .i64 0, .int .i64 0, .int .i64 0, .int .i64 0, .int .i64 0, .slice none 0 0, .slice none 0 0] 27)) (w.heap.size + 1) (zeroR 0 0) zeroS := heap_alloc2_new w _ _
  have f2 : Fr [] w ((w.alloc (.cells (recV r s) 27)).alloc (.cells #[.int .i64 0, .int .i64 0, .int .u8 0, .int .i64 0, .int .i64 0, .int .i64 0, .int .i64 0, .int .i64 0, .slice none 0 0, .slice none 0 0] 27)) := kept_two _ _
  have HS := hidI hs
  clear hs
  have x6 := p1.c6
  have x7 := p1.c7
  have x8 := p1.c8
  have x9 := p1.c9
  go_enter Try.func7, Try.ntmps7
  generalize hA : (w.alloc (.cells (recV r s) 27)).alloc (.cells #[.int .i64 0, .int .i64 0, .int .u8 0, .int .i64 0, .int .i64 0, .int .i64 0, .int .i64 0, .int .i64 0, .slice none 0 0, .slice none 0 0] 27) = w2 at p1 p2 f2 x6 x7 x8 x9
  go_wp2_with fail
  refine (lentSpan_any w2 r s (HS.out.kept f2) h1 h2).mono ?_
  rintro e w3 ⟨t, rfl, L3, hnew, f3⟩
  have hsz : w.heap.size + 1 < w2.heap.size := (Array.getElem?_eq_some_iff.1 p2).1
  have q1 := p1.kept f3 (by simp)
  have q2 := p2.kept f3 (by simp)
  have F3 := f2.trans f3
  clear p1 p2 x6 x7 x8 x9 hA
  have z6 := q1.fz 6
  have z7 := q1.fz 7
  have z8 := q1.fz 8
  have z9 := q1.fz 9
  have x6 := q1.c6
  have x7 := q1.c7
  have x8 := q1.c8
  have x9 := q1.c9
  obtain ⟨w4, hw4⟩ : ∃ w4, ((((w3.setCell ⟨w.heap.size, 6, none⟩ (.int .i64 r.block)).setCell ⟨w.heap.size, 7, none⟩ (.int .i64 r.off)).setCell ⟨w.heap.size, 8, none⟩ (.slice t.a1 r.old.length t.c1)).setCell ⟨w.heap.size, 9, none⟩ (.slice t.a2 r.new.length t.c2)) = w4 := ⟨_, rfl⟩
  have f4 : Fr [w.heap.size] w3 w4 := by rw [← hw4]; exact (((fr_set _ _ 6 _).trans (fr_set _ _ 7 _)).trans (fr_set _ _ 8 _)).trans (fr_set _ _ 9 _)
  have u4 : RBox w4 w.heap.size r t := by rw [← hw4]; exact (((q1.s6 r.block).s7 r.off).t8 t.a1 r.old _ t.c1 rfl).t9 t.a2 r.new _ t.c2 rfl
  have v4 := q2.kept f4 (by simp)
  have L4 : LentR w4 r t := by
    obtain ⟨g1, k1, e1, e2, l1⟩ := L3.o
    obtain ⟨g2, k2, e3, e4, l2⟩ := L3.n
    have m1 := hnew.1 _ e1
    have m2 := hnew.2 _ e3
    dsimp only at m1 m2
    exact ⟨⟨g1, k1, e1, e2, l1.kept f4 (by simp; omega)⟩, ⟨g2, k2, e3, e4, l2.kept f4 (by simp; omega)⟩⟩
  have F4 := F3.then f4 (fun i hi hm => by simp at hm; omega)
  have HZ := hidI hnew
  unfold spanV
  go_wp2_with (first
    | (refine wpList_load_row rfl 27 _ rfl w.heap.size rfl _ _ _ _ u4 Try.underlying27 rfl (by rw [sizeR]; rfl) ?_)
    | (refine wp_storeR rfl _ _ rfl (w.heap.size + 1) _ r _ _ rfl rfl v4 ?_; intro w7 v7 f7))
  refine bodyPost_ret (resR1' rfl _ _ (w.heap.size + 1) r t rfl v7) rfl ⟨t, rfl, ?_, F4.then f7 (fun i hi hm => by simp at hm; omega)⟩
  obtain ⟨g1, k1, e1, e2, l1⟩ := L4.o
  obtain ⟨g2, k2, e3, e4, l2⟩ := L4.n
  have m1 := HZ.out.1 _ e1
  have m2 := HZ.out.2 _ e3
  dsimp only at m1 m2
  exact ⟨⟨g1, k1, e1, e2, l1.kept f7 (by simp; omega)⟩, ⟨g2, k2, e3, e4, l2.kept f7 (by simp; omega)⟩⟩

end Go.Proofs.Yticmjdblcomecaa
