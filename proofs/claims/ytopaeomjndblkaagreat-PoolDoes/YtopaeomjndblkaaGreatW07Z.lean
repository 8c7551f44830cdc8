/-
  PoolDoes: a rig that was just begun, and its model; the table of rows as it is made; the loop over Dirty's rows.
-/
import Derived.Test.YtopaeomjndblkaaGreatQGet
import Derived.Laws.AppendOwnNone
import Derived.Test.YtopaeomjndblkaaGreatW06Z
import Derived.Maps.AppendAt
import Derived.Test.YtopaeomjndblkaaGreatW04Z
namespace Go.Proofs.YtopaeomjndblkaaGreat
open Go.RowKit Go.Maps

set_option maxHeartbeats 1000000 in
set_option maxRecDepth 100000 in
theorem sameSpan_yes (w : World) (r : Rec) (s t : Spots) (hs : SpotsAt w r s) (ht : SpotsAt w r t) (h1 : r.old.length ≤ 1000000) (h2 : r.new.length ≤ 1000000) :
    Calls Tryz.prog 179 #[.agg (spanV r s), .agg (spanV r t)] w fun e w' => e = .returned (.bool true) ∧ Fr [] w w' := by
  have p1 : PBox ((w.alloc (.cells (spanV r s) 42)).alloc (.cells (spanV r t) 42)) w.heap.size r s := heap_alloc2_old w _ _
  have p2 : PBox ((w.alloc (.cells (spanV r s) 42)).alloc (.cells (spanV r t) 42)) (w.heap.size + 1) r t := heap_alloc2_new w _ _
  have f2 : Fr [] w ((w.alloc (.cells (spanV r s) 42)).alloc (.cells (spanV r t) 42)) := kept_two _ _
  have HS := hidI hs
  have HT := hidI ht
  clear hs ht
  go_enter Tryz.func179, Tryz.ntmps179
  have x0 := p1.c0
  have x1 := p1.c1
  have x2 := p1.c2
  have y0 := p2.c0
  have y1 := p2.c1
  have y2 := p2.c2
  generalize hA : (w.alloc (.cells (spanV r s) 42)).alloc (.cells (spanV r t) 42) = w2 at p1 p2 f2 x0 x1 x2 y0 y1 y2
  go_wp2_with fail
  refine (same_any w2 s.a1 t.a1 r.old r.old r.old.length s.c1 t.c1 (HS.out.kept f2).b1 (HT.out.kept f2).b1 rfl rfl h1).mono ?_
  rintro e w3 ⟨rfl, f3⟩
  have x3 := (p1.kept f3 (by simp)).c3
  have y3 := (p2.kept f3 (by simp)).c3
  have F3 := f2.trans f3
  rw [beq_self_eq_true]
  clear x0 x1 x2 y0 y1 y2
  go_wp2_with fail
  refine (same_any w3 s.a2 t.a2 r.new r.new r.new.length s.c2 t.c2 (HS.out.kept F3).b2 (HT.out.kept F3).b2 rfl rfl h2).mono ?_
  rintro e w4 ⟨rfl, f4⟩
  rw [beq_self_eq_true]
  go_wp2_with fail
  go_ret
  exact ⟨rfl, F3.trans f4⟩

/-- A record's lists as they are lent. -/
structure LentR (w : World) (r : Rec) (s : Spots) : Prop where
  o : ∃ g k, s.a1 = some ⟨g, 0, none⟩ ∧ s.c1 = k ∧ LentAt w g k r.old
  n : ∃ g k, s.a2 = some ⟨g, 0, none⟩ ∧ s.c2 = k ∧ LentAt w g k r.new
theorem LentR.spots {w : World} {r : Rec} {s : Spots} (h : LentR w r s) : SpotsAt w r s := by
  obtain ⟨g1, k1, e1, rfl, h1⟩ := h.o
  obtain ⟨g2, k2, e2, rfl, h2⟩ := h.n
  exact ⟨by rw [e1]; exact h1.bytes, by rw [e2]; exact h2.bytes, fun e => (by rw [e1] at e; cases e), fun e => (by rw [e2] at e; cases e)⟩
theorem LentR.kept {w w' : World} {r : Rec} {s : Spots} (h : LentR w r s) (f : Fr [] w w') : LentR w' r s := by
  obtain ⟨g1, k1, e1, e2, h1⟩ := h.o
  obtain ⟨g2, k2, e3, e4, h2⟩ := h.n
  exact ⟨⟨g1, k1, e1, e2, h1.kept f (by simp)⟩, ⟨g2, k2, e3, e4, h2.kept f (by simp)⟩⟩

set_option maxHeartbeats 1000000 in
set_option maxRecDepth 100000 in
theorem keptSpan_yes (w : World) (r : Rec) (s t : Spots) (hs : LentR w r s) (ht : SpotsAt w r t) (h1 : r.old.length ≤ 5000) (h2 : r.new.length ≤ 5000) :
    Calls Tryz.prog 79 #[.agg (spanV r s), .agg (spanV r t)] w fun e w' => e = .returned (.bool true) ∧ Fr [] w w' := by
  have p1 : PBox ((w.alloc (.cells (spanV r s) 42)).alloc (.cells (spanV r t) 42)) w.heap.size r s := heap_alloc2_old w _ _
  have p2 : PBox ((w.alloc (.cells (spanV r s) 42)).alloc (.cells (spanV r t) 42)) (w.heap.size + 1) r t := heap_alloc2_new w _ _
  have f2 : Fr [] w ((w.alloc (.cells (spanV r s) 42)).alloc (.cells (spanV r t) 42)) := kept_two _ _
  have HS := hidI hs
  have HT := hidI ht
  clear hs ht
  have x0 := p1.c0
  have x1 := p1.c1
  have x2 := p1.c2
  have x3 := p1.c3
  have y0 := p2.c0
  have y1 := p2.c1
  have y2 := p2.c2
  have y3 := p2.c3
  go_enter Tryz.func79, Tryz.ntmps79
  generalize hA : (w.alloc (.cells (spanV r s) 42)).alloc (.cells (spanV r t) 42) = w2 at p1 p2 f2 x0 x1 x2 x3 y0 y1 y2 y3
  go_wp2_with fail
  refine (sameSpan_yes w2 r s t (HS.out.kept f2).spots (HT.out.kept f2) (by omega) (by omega)).mono ?_
  rintro e w3 ⟨rfl, f3⟩
  have P3 := p1.kept f3 (by simp)
  have R3 := p2.kept f3 (by simp)
  have F3 := f2.trans f3
  clear x0 x1 x2 x3 y0 y1 y2 y3 p1 p2 hA
  have x2 := P3.c2
  have y2 := R3.c2
  obtain ⟨g1, k1, e1, e2, l1⟩ := (HS.out.kept F3).o
  obtain ⟨g2, k2, e3, e4, l2⟩ := (HS.out.kept F3).n
  rw [e1, e2] at x2
  go_wp2_with fail
  refine (kept_any w3 g1 k1 r.old.length t.c1 t.a1 r.old rfl h1 l1 (HT.out.kept F3).b1).mono ?_
  rintro e w4 ⟨rfl, f4⟩
  have x3 := (P3.kept f4 (by simp)).c3
  have y3 := (R3.kept f4 (by simp)).c3
  rw [e3, e4] at x3
  have F4 := F3.trans f4
  clear x2 y2
  go_wp2_with fail
  refine (kept_any w4 g2 k2 r.new.length t.c2 t.a2 r.new rfl h2 (l2.kept f4 (by simp)) (HT.out.kept F4).b2).mono ?_
  rintro e w5 ⟨rfl, f5⟩
  go_wp2_with fail
  go_ret
  exact ⟨rfl, F4.trans f5⟩

set_option maxHeartbeats 1000000 in
set_option maxRecDepth 100000 in
theorem lentQ_nil (w : World) (n : Nat) (l : List UInt8) (hl : l.length = n) (hn : n ≤ 5000) (hn2 : n = 0) :
    Calls Tryz.prog 178 #[.slice none 0 0] w fun e w' => ∃ g cap, e = .returned (.slice (some ⟨g, 0, none⟩) 0 cap) ∧ LentAt w' g cap [] ∧ w.heap.size ≤ g ∧ Fr [] w w' := by
  subst hn2
  obtain rfl : l = [] := List.eq_nil_of_length_eq_zero hl
  obtain ⟨i, hi, hz, hs, hb⟩ := info5'
  have HL : Hid (([] : List UInt8).length = 0) := rfl
  have n0 : (0 : Nat) = 0 := rfl
  clear hl hn
  go_enter Tryz.func178, Tryz.ntmps178
  go_wp2_with (first
    | (refine wp_make0 rfl _ _ rfl 12 rfl (by rfl) (by omega) w (Fr.refl _ _) ?_; intro w1 o1)
    | (refine wpList_append_own_none rfl _ _ 37 rfl w.heap.size 5 i 1 Tryz.underlying37 hi _ 0 [] rfl o1.1 rfl ?_; have o2 := o1)
    | go_in)
  go_loopw [3, 4] (fun v i wr => ∃ j : Nat, j ≤ 12 ∧ i = .int .i64 j ∧ Own w wr v j (arr ([] ++ mkL 1 j)).toList) (fun _ i _ => 12 - (intOf i).toNat)
  case atStart => exact ⟨0, by omega, rfl, by simpa [mkL, arr] using o2⟩
  case round =>
    obtain ⟨j, hj, rfl, ow⟩ := hrel
    by_cases hlt : j < 12
    · have hlt' : (j : Int) < 12 := by omega
      have hj0 : (0 : Int) ≤ (j : Int) := by omega
      obtain ⟨m0, m1⟩ := mB_range 1 j
      go_wp2_with (first
        | (go_at_call 230; refine (markByte_any _ 1 j (by omega) (by omega) hj0 (by omega)).mono ?_; rintro e w5 ⟨rfl, rfl⟩)
        | (refine wp_app rfl _ _ rfl w _ j _ rfl (ow.kept ((Fr.refl [] wr).alloc _)) _ 1 _ [UInt8.ofNat (mB 1 j).toNat] rfl rfl (oneByte (mB 1 j) m0 m1 wr) (by omega) (fun h => absurd h (by omega)) ?_; intro v5 w5 o5)
        | go_in)
      refine ⟨⟨j + 1, by omega, by go_num, ?_⟩, by simp [intOf]; omega⟩
      rw [mkL_succ, ← List.append_assoc, ← arr_append]
      exact o5
    · obtain rfl : j = 12 := by omega
      have hpos : 0 < 12 := by omega
      obtain ⟨hle, hcase⟩ := ow.1
      rcases hcase with ⟨_, h0⟩ | ⟨g, cap, cur, hv, hb, hg, hcap, hmx, hsz, htk⟩
      · omega
      · subst hv
        have hcap' : (0 : Int) ≤ (cap : Int) := by omega
        have hcz : ¬ cap = 0 := by omega
        go_wp2_with fail
        go_ret
        exact ⟨g, cap, rfl, ⟨⟨cur, hg, by rw [HL.out]; simpa using htk, by omega⟩, by rw [HL.out]; omega⟩, hb, ow.2⟩



theorem lentQ (w : World) (ad : Option Addr) (n c : Nat) (l : List UInt8) (hl : l.length = n) (hb : BytesAt w ad l) (hn : n ≤ 5000) (hz : ad = none → n = 0 ∧ c = 0) :
    Calls Tryz.prog 178 #[.slice ad n c] w fun e w' => ∃ g cap, e = .returned (.slice (some ⟨g, 0, none⟩) n cap) ∧ LentAt w' g cap l ∧ w.heap.size ≤ g ∧ Fr [] w w' := by
  cases ad with
  | none =>
    obtain ⟨rfl, rfl⟩ := hz rfl
    have e0 : l = [] := List.eq_nil_of_length_eq_zero hl
    subst e0
    exact lentQ_nil w 0 [] rfl (by omega) rfl
  | some a0 => exact lent_any w a0 n c l hl hn hb

theorem RBox.t8 {w : World} {b : Nat} {r : Rec} {s : Spots} (h : RBox w b r s) (ad : Option Addr) (l : List UInt8) (n c : Nat) (hl : l.length = n) : RBox (w.setCell ⟨b, 8, none⟩ (.slice ad n c)) b { r with old := l } { s with a1 := ad, c1 := c } := by
  subst hl
  exact heap_setCell_same w b 8 _ _ _ h
theorem RBox.t9 {w : World} {b : Nat} {r : Rec} {s : Spots} (h : RBox w b r s) (ad : Option Addr) (l : List UInt8) (n c : Nat) (hl : l.length = n) : RBox (w.setCell ⟨b, 9, none⟩ (.slice ad n c)) b { r with new := l } { s with a2 := ad, c2 := c } := by
  subst hl
  exact heap_setCell_same w b 9 _ _ _ h
theorem sizeP : (Tryz.prog.info? 42).map (·.size) = some 4 := by kernel_rfl
theorem PBox.t2 {w : World} {b : Nat} {r : Rec} {s : Spots} (h : PBox w b r s) (ad : Option Addr) (c : Nat) : PBox (w.setCell ⟨b, 2, none⟩ (.slice ad r.old.length c)) b r { s with a1 := ad, c1 := c } := heap_setCell_same w b 2 _ _ _ h
theorem PBox.t3 {w : World} {b : Nat} {r : Rec} {s : Spots} (h : PBox w b r s) (ad : Option Addr) (c : Nat) : PBox (w.setCell ⟨b, 3, none⟩ (.slice ad r.new.length c)) b r { s with a2 := ad, c2 := c } := heap_setCell_same w b 3 _ _ _ h
theorem PBox.fz {w : World} {b : Nat} {r : Rec} {s : Spots} (h : PBox w b r s) (j : Nat) : w.frozen? ⟨b, j, none⟩ = false := frozen_of_row w b j _ _ h
section
variable {ops : Array Oper} {rest : List Oper} {o : Oper} {a : Act} {w : World} {Q : Exit → Act → World → Prop}
theorem wp_storeP (hgd : o.guard = none) (x y : Operand) (ho : o.op = .store 42 x y) (b : Nat) (r r' : Rec) (s s' : Spots) (hx : a.eval x = .pointer (some ⟨b, 0, none⟩)) (hy : a.eval y = .agg (spanV r' s')) (hg : PBox w b r s)
    (h : ∀ w', PBox w' b r' s' → Fr [b] w w' → wpList Tryz.prog ops Q rest (a.put o.dst undef) w') : wpList Tryz.prog ops Q (o :: rest) a w :=
  wpList_store_row hgd 42 x y ho b (spanV r' s') hx hy 42 (spanV r s) hg sizeP rfl (by simp [spanV]; exact ⟨rfl, rfl, rfl, rfl⟩)
    (h _ (setRow_heap w b _ _ _ _ hg) ⟨rfl, rfl, rfl, by simp, fun i _ hn => setRow_other w b i _ (fun e => hn (by simp [e]))⟩)
end
theorem resP1 {fn : Func} {p : Tmp} (h : fn.results = #[.cell p 42]) (tmps : Array Value) (w : World) (b : Nat) (r : Rec) (s : Spots) (hp : tmps.getD p undef = .pointer (some ⟨b, 0, none⟩)) (hg : PBox w b r s) :
    (results fn tmps).run Tryz.prog w = .ok (.agg (spanV r s)) w :=
  results_cell_row h tmps w b _ _ _ _ hp hg Tryz.underlying42 rfl (by rw [sizeP]; rfl)
theorem resR1' {fn : Func} {p : Tmp} (h : fn.results = #[.cell p 192]) (tmps : Array Value) (w : World) (b : Nat) (r : Rec) (s : Spots) (hp : tmps.getD p undef = .pointer (some ⟨b, 0, none⟩)) (hg : RBox w b r s) :
    (results fn tmps).run Tryz.prog w = .ok (.agg (recV r s)) w :=
  results_cell_row h tmps w b _ _ _ _ hp hg Tryz.underlying192 rfl (by rw [sizeR]; rfl)

set_option maxHeartbeats 1000000 in
set_option maxRecDepth 100000 in
theorem lentSpan_any (w : World) (r : Rec) (s : Spots) (hs : SpotsAt w r s) (h1 : r.old.length ≤ 5000) (h2 : r.new.length ≤ 5000) :
    Calls Tryz.prog 78 #[.agg (spanV r s)] w fun e w' => ∃ t, e = .returned (.agg (spanV r t)) ∧ LentR w' r t ∧ ((∀ a, t.a1 = some a → w.heap.size ≤ a.block) ∧ ∀ a, t.a2 = some a → w.heap.size ≤ a.block) ∧ Fr [] w w' := by
  have p1 : PBox ((w.alloc (.cells (spanV r s) 42)).alloc (.cells #[.int .i64 0, .int .i64 0, .slice none 0 0, .slice none 0 0] 42)) w.heap.size r s := heap_alloc2_old w _ _
  have p2 : PBox ((w.alloc (.cells (spanV r s) 42)).alloc (.cells #[.int .i64 0, .int .i64 0, .slice none 0 0, .slice none 0 0] 42)) (w.heap.size + 1) (zeroR 0 0) zeroS := heap_alloc2_new w _ _
  have f2 : Fr [] w ((w.alloc (.cells (spanV r s) 42)).alloc (.cells #[.int .i64 0, .int .i64 0, .slice none 0 0, .slice none 0 0] 42)) := kept_two _ _
  have HS := hidI hs
  clear hs
  have x2 := p1.c2
  go_enter Tryz.func78, Tryz.ntmps78
  generalize hA : (w.alloc (.cells (spanV r s) 42)).alloc (.cells #[.int .i64 0, .int .i64 0, .slice none 0 0, .slice none 0 0] 42) = w2 at p1 p2 f2 x2
  go_wp2_with fail
  have S2 := HS.out.kept f2
  refine (lentQ w2 s.a1 r.old.length s.c1 r.old rfl S2.b1 h1 S2.n1).mono ?_
  rintro e w3 ⟨g1, k1, rfl, l1, hg1, f3⟩
  have q1 := p1.kept f3 (by simp)
  have q2 := p2.kept f3 (by simp)
  have F3 := f2.trans f3
  have hz : w.heap.size < w2.heap.size := (Array.getElem?_eq_some_iff.1 p1).1
  have hz' : w.heap.size + 1 < w2.heap.size := (Array.getElem?_eq_some_iff.1 p2).1
  clear p1 p2 x2 hA S2
  have x2 := q1.c2
  have z2 := q1.fz 2
  obtain ⟨w4, hw4⟩ : ∃ w4, w3.setCell ⟨w.heap.size, 2, none⟩ (.slice (some ⟨g1, 0, none⟩) r.old.length k1) = w4 := ⟨_, rfl⟩
  have f4 : Fr [w.heap.size] w3 w4 := by rw [← hw4]; exact fr_set w3 _ 2 _
  have r1 := q1.t2 (some ⟨g1, 0, none⟩) k1
  rw [hw4] at r1
  have r2 := q2.kept f4 (by simp)
  have L4 := l1.kept f4 (by simp; omega)
  have F4 := F3.then f4 (fun i hi hm => by simp at hm; omega)
  have x3 := r1.c3
  go_wp2_with fail
  have S4 := HS.out.kept F4
  refine (lentQ w4 s.a2 r.new.length s.c2 r.new rfl S4.b2 h2 S4.n2).mono ?_
  rintro e w5 ⟨g2, k2, rfl, l2, hg2, f5⟩
  have t1 := r1.kept f5 (by simp)
  have t2 := r2.kept f5 (by simp)
  have L5 := L4.kept f5 (by simp)
  have F5 := F4.trans f5
  have hz4 : w.heap.size < w4.heap.size := (Array.getElem?_eq_some_iff.1 r1).1
  have hz4' : w.heap.size + 1 < w4.heap.size := (Array.getElem?_eq_some_iff.1 r2).1
  clear x2 z2 x3 hw4 r1 r2 L4 q1 q2
  have x3 := t1.c3
  have z3 := t1.fz 3
  obtain ⟨w6, hw6⟩ : ∃ w6, w5.setCell ⟨w.heap.size, 3, none⟩ (.slice (some ⟨g2, 0, none⟩) r.new.length k2) = w6 := ⟨_, rfl⟩
  have f6 : Fr [w.heap.size] w5 w6 := by rw [← hw6]; exact fr_set w5 _ 3 _
  have u1 := t1.t3 (some ⟨g2, 0, none⟩) k2
  rw [hw6] at u1
  have u2 := t2.kept f6 (by simp)
  have L6 := L5.kept f6 (by simp; omega)
  have M6 := l2.kept f6 (by simp; omega)
  have F6 := F5.then f6 (fun i hi hm => by simp at hm; omega)
  go_wp2_with (first
    | (refine wpList_load_row rfl 42 _ rfl w.heap.size rfl _ _ _ _ u1 Tryz.underlying42 rfl (by rw [sizeP]; rfl) ?_)
    | (refine wp_storeP rfl _ _ rfl (w.heap.size + 1) _ r _ _ rfl rfl u2 ?_; intro w7 v7 f7))
  refine bodyPost_ret (resP1 rfl _ _ (w.heap.size + 1) r _ rfl v7) rfl ⟨_, rfl, ⟨⟨g1, k1, rfl, rfl, L6.kept f7 ?_⟩, ⟨g2, k2, rfl, rfl, M6.kept f7 ?_⟩⟩, ⟨fun a e => ?_, fun a e => ?_⟩, F6.then f7 (fun i hi hm => by simp at hm; omega)⟩
  · simp; omega
  · simp; omega
  · cases e; dsimp only; omega
  · cases e; dsimp only; omega

end Go.Proofs.YtopaeomjndblkaaGreat

namespace Go.Proofs.YtopaeomjndblkaaGreat
open Go.RowKit Go.Maps

theorem i64_bounds {x : Int} (h : (Lit.int .i64 x).wf = true) : -9223372036854775808 ≤ x ∧ x ≤ 9223372036854775807 := by
  simp [Lit.wf, show IntKind.i64.min = -9223372036854775808 from rfl, show IntKind.i64.max = 9223372036854775807 from rfl] at h
  exact h

theorem tmod_neg {x n : Int} (h1 : 1 ≤ n) (h : x.tmod n < 0) : x.tmod n + n = x % n := by
  have e := Int.tmod_eq_emod (a := x) (b := n)
  have h2 := Int.emod_nonneg x (show n ≠ 0 by omega)
  split at e <;> omega
theorem tmod_pos {x n : Int} (h1 : 1 ≤ n) (h : 0 ≤ x.tmod n) : x.tmod n = x % n := by
  have e := Int.tmod_eq_emod (a := x) (b := n)
  have h2 := Int.emod_lt_of_pos x (show 0 < n by omega)
  split at e <;> omega
theorem wrap64_small {v : Int} (h0 : -9223372036854775808 ≤ v) (h1 : v ≤ 9223372036854775807) : wrap64 v = v := by
  unfold wrap64
  omega

set_option maxHeartbeats 400000 in
theorem pick_any (w : World) (x n : Int) (hx : (Lit.int .i64 x).wf = true) (h1 : 1 ≤ n) (h2 : n ≤ 1000000) :
    Calls Tryz.prog 40 #[.int .i64 x, .int .i64 n] w fun e w' => e = .returned (.int .i64 (x % n)) ∧ w' = w := by
  obtain ⟨b1, b2⟩ := i64_bounds hx
  have hn : ¬ n < 1 := by omega
  have g1 := Int.emod_nonneg x (show n ≠ 0 by omega)
  have g2 := Int.emod_lt_of_pos x (show 0 < n by omega)
  by_cases hneg : x.tmod n < 0
  · have e1 : Hid (wrap64 (x.tmod n + n) = x % n) := by rw [tmod_neg h1 hneg]; exact wrap64_small (by omega) (by omega)
    clear g1 g2
    go_enter Tryz.func40, Tryz.ntmps40
    go_wp2
    go_ret
    exact ⟨ret_int e1.out, rfl⟩
  · have e1 : Hid (x.tmod n = x % n) := tmod_pos h1 (by omega)
    clear g1 g2
    go_enter Tryz.func40, Tryz.ntmps40
    go_wp2
    go_ret
    exact ⟨ret_int e1.out, rfl⟩


theorem own_row {w0 w : World} {v : Value} {n : Nat} {l : List UInt8} (h : Own w0 w v n (arr l).toList) (hl : l.length = n) (h0 : 0 < n) : ∃ g cap, v = .slice (some ⟨g, 0, none⟩) n cap ∧ RowB w g cap l ∧ w0.heap.size ≤ g := by
  rcases h.1.2 with ⟨_, hn⟩ | ⟨g, cap, cur, rfl, hb, hg, hnc, _, hcs, ht⟩
  · omega
  · refine ⟨g, cap, rfl, ⟨cur.toList.drop n, ?_, ?_⟩, hb⟩
    · rw [hg]
      refine congrArg (fun z => some (Obj.cells z 5)) (Array.ext' ?_)
      have h2 : cur.toList.take n = (arr l).toList := by simpa using ht
      rw [← h2]
      simp
    · have e1 : cur.toList.length = cur.size := rfl
      rw [List.length_drop, hl]
      omega

theorem own_none (w : World) : Own w w (.slice none 0 0) 0 [] := ⟨⟨rfl, Or.inl ⟨rfl, rfl⟩⟩, Fr.refl _ _⟩

set_option maxHeartbeats 400000 in
set_option maxRecDepth 100000 in
theorem copyBytes_any (w : World) (ad : Option Addr) (n c : Nat) (l : List UInt8) (hl : l.length = n) (hb : BytesAt w ad l) (hn : n ≤ 100000) (hz : ad = none → n = 0 ∧ c = 0) :
    Calls Tryz.prog 42 #[.slice ad n c] w fun e w' => ∃ v, e = .returned v ∧ Own w w' v n (arr l).toList := by
  obtain ⟨i, hi, hzz, hss, hbb⟩ := info5'
  have HL := hidI hl
  clear hl
  cases ad with
  | none =>
    obtain ⟨rfl, rfl⟩ := hz rfl
    obtain rfl : l = [] := List.eq_nil_of_length_eq_zero HL.out
    have o1 := own_none w
    go_enter Tryz.func42, Tryz.ntmps42
    go_wp2_with (refine wpList_append_own_none rfl _ _ 37 rfl w.heap.size 5 i 1 Tryz.underlying37 hi _ 0 [] rfl o1.1 rfl ?_)
    go_ret
    exact ⟨_, rfl, by simpa [arr] using o1⟩
  | some a0 =>
    go_enter Tryz.func42, Tryz.ntmps42
    go_wp2_with (refine wp_app rfl _ _ rfl w _ 0 [] rfl (own_none w) _ n _ l rfl HL.out hb (by omega) (fun _ => ⟨_, rfl⟩) ?_; intro v2 w2 o2)
    go_ret
    refine ⟨_, rfl, ?_⟩
    rw [Nat.zero_add, List.nil_append] at o2
    exact o2

theorem own_keptL {w w' : World} {base : Nat} {v : Value} {n : Nat} {xs : List Value} {L : List Nat} (h : w.ownsRow base 5 1 v n xs) (f : Fr L w w') (hL : ∀ g ∈ L, g < base) : w'.ownsRow base 5 1 v n xs := by
  obtain ⟨h1, h2⟩ := h
  refine ⟨h1, ?_⟩
  rcases h2 with hn | ⟨g, cap, cur, rfl, hb, hg, r⟩
  · exact Or.inl hn
  · exact Or.inr ⟨g, cap, cur, rfl, hb, f.same (fun hm => by have := hL g hm; omega) hg, r⟩
theorem own_low {w : World} {base base' : Nat} {v : Value} {n : Nat} {xs : List Value} (h : w.ownsRow base 5 1 v n xs) (hle : base' ≤ base) : w.ownsRow base' 5 1 v n xs := by
  obtain ⟨h1, h2⟩ := h
  refine ⟨h1, ?_⟩
  rcases h2 with hn | ⟨g, cap, cur, rfl, hb, hg, r⟩
  · exact Or.inl hn
  · exact Or.inr ⟨g, cap, cur, rfl, by omega, hg, r⟩
/-- A row of one's own, as bytes somewhere. -/
theorem own_is {w : World} {base n : Nat} {v : Value} {l : List UInt8} (h : w.ownsRow base 5 1 v n (arr l).toList) (hl : l.length = n) : ∃ ad c, v = .slice ad n c ∧ BytesAt w ad l ∧ (ad = none → n = 0 ∧ c = 0) ∧ (∀ a, ad = some a → base ≤ a.block ∧ a.block < w.heap.size ∧ a = ⟨a.block, 0, none⟩) ∧ n ≤ c := by
  rcases h.2 with ⟨rfl, h0⟩ | ⟨g, cap, cur, rfl, hb, hg, hcap, hmx, hsz, htk⟩
  · subst h0
    obtain rfl : l = [] := List.eq_nil_of_length_eq_zero hl
    exact ⟨none, 0, rfl, BytesAt.nil _ _, fun _ => ⟨rfl, rfl⟩, fun a e => (nomatch e), Nat.le_refl _⟩
  · refine ⟨_, cap, rfl, ?_, fun e => (nomatch e), fun a e => ?_, by omega⟩
    · intro j u hu
      refine ⟨g, 0, rfl, ?_⟩
      rw [Nat.zero_add, cell_of_row w g j _ _ _ hg]
      have hj : j < n := by
        have := (List.getElem?_eq_some_iff.1 hu).1
        simp [arr, hl] at this
        omega
      rw [← hu, ← htk, List.getElem?_take]
      simp [hj]
    · cases e
      exact ⟨hb, (Array.getElem?_eq_some_iff.1 hg).1, rfl⟩

/-- A record whose lists are rows of one's own, apart. -/
structure OwnR (base : Nat) (w : World) (r : Rec) (s : Spots) : Prop where
  o : w.ownsRow base 5 1 (.slice s.a1 r.old.length s.c1) r.old.length (arr r.old).toList
  n : w.ownsRow base 5 1 (.slice s.a2 r.new.length s.c2) r.new.length (arr r.new).toList
  ne : ∀ a b, s.a1 = some a → s.a2 = some b → a.block ≠ b.block
theorem OwnR.spots {base : Nat} {w : World} {r : Rec} {s : Spots} (h : OwnR base w r s) : SpotsAt w r s := by
  obtain ⟨ad, c, e, hb, hz, -⟩ := own_is h.o rfl
  obtain ⟨ad', c', e', hb', hz', -⟩ := own_is h.n rfl
  cases e
  cases e'
  exact ⟨hb, hb', hz, hz'⟩
theorem OwnR.kept {base : Nat} {w w' : World} {r : Rec} {s : Spots} {L : List Nat} (h : OwnR base w r s) (f : Fr L w w') (hL : ∀ g ∈ L, g < base) : OwnR base w' r s :=
  ⟨own_keptL h.o f hL, own_keptL h.n f hL, h.ne⟩
theorem OwnR.low {base base' : Nat} {w : World} {r : Rec} {s : Spots} (h : OwnR base w r s) (hle : base' ≤ base) : OwnR base' w r s := ⟨own_low h.o hle, own_low h.n hle, h.ne⟩

end Go.Proofs.YtopaeomjndblkaaGreat

namespace Go.Proofs.YtopaeomjndblkaaGreat
open Go.RowKit Go.Maps

def vrV (v : Vr) : List Value := [.slice (some ⟨v.g, 0, none⟩) 512 v.c, .int .i64 v.n]
def vsV (vs : List Vr) : List Value := vs.flatMap vrV
theorem vsV_len (vs : List Vr) : (vsV vs).length = vs.length * 2 := by
  induction vs with
  | nil => rfl
  | cons f l ih => simp [vsV, vrV] at ih ⊢; omega
theorem vsV_app (vs : List Vr) (v : Vr) : vsV (vs ++ [v]) = vsV vs ++ vrV v := by simp [vsV]
theorem vsV_at (vs : List Vr) (k : Nat) (v : Vr) (h : vs[k]? = some v) : (vsV vs)[k * 2]? = some (.slice (some ⟨v.g, 0, none⟩) 512 v.c) ∧ (vsV vs)[k * 2 + 1]? = some (.int .i64 v.n) := by
  induction vs generalizing k with
  | nil => simp at h
  | cons f l ih =>
    have e : vsV (f :: l) = .slice (some ⟨f.g, 0, none⟩) 512 f.c :: .int .i64 f.n :: vsV l := rfl
    cases k with
    | zero =>
      simp at h
      subst h
      rw [e]
      exact ⟨rfl, rfl⟩
    | succ k =>
      have h2 := ih k (by simpa using h)
      have e1 : (k + 1) * 2 = k * 2 + 1 + 1 := by omega
      rw [e, e1]
      exact h2
theorem infoVr : (Tryz.prog.info? 39).map (fun i => (i.zero, i.size, i.bytes)) = some (some (.agg #[.slice none 0 0, .int .i64 0]), 2, 32) := by kernel_rfl
theorem infoVr' : ∃ i, Tryz.prog.info? 39 = some i ∧ i.zero = some (.agg #[.slice none 0 0, .int .i64 0]) ∧ i.size = 2 ∧ i.bytes = 32 := by
  have h := infoVr
  cases hi : Tryz.prog.info? 39 with
  | none => rw [hi] at h; cases h
  | some i =>
    rw [hi] at h
    simp at h
    exact ⟨i, rfl, h.1, h.2.1, h.2.2⟩
theorem infoVs : (Tryz.prog.info? 40).map (fun i => (i.zero, i.size, i.bytes)) = some (some (.slice none 0 0), 1, 24) := by kernel_rfl
theorem infoVs' : ∃ i, Tryz.prog.info? 40 = some i ∧ i.zero = some (.slice none 0 0) ∧ i.size = 1 ∧ i.bytes = 24 := by
  have h := infoVs
  cases hi : Tryz.prog.info? 40 with
  | none => rw [hi] at h; cases h
  | some i =>
    rw [hi] at h
    simp at h
    exact ⟨i, rfl, h.1, h.2.1, h.2.2⟩
def rwV (r : Rw) : Value := .slice (some ⟨r.g, 0, none⟩) r.vs.length r.c
def Rw.own (r : Rw) : List Nat := r.g :: r.vs.map (·.g)
/-- A version's bytes in memory. -/
structure VrAt (B : Nat) (w : World) (v : Vr) : Prop where
  b : RowB w v.g v.c v.l
  l : v.l.length = 512
  lo : B ≤ v.g
/-- A row of versions in memory. -/
structure RwAt (B : Nat) (w : World) (r : Rw) : Prop where
  own : w.ownsRow B 39 2 (.slice (some ⟨r.g, 0, none⟩) r.vs.length r.c) r.vs.length (vsV r.vs)
  ne : 0 < r.vs.length
  by' : ∀ v ∈ r.vs, VrAt B w v
theorem ownsRow_kept {B : Nat} {w w' : World} {e : TypeId} {sz : Nat} {v : Value} {n : Nat} {xs : List Value} {L : List Nat} (h : w.ownsRow B e sz v n xs) (f : Fr L w w') (hL : ∀ g ∈ (Value.ownBlock v).toList, g ∉ L) : w'.ownsRow B e sz v n xs := by
  obtain ⟨h1, h2⟩ := h
  refine ⟨h1, ?_⟩
  rcases h2 with hn | ⟨g, cap, cur, hv, hb, hg, r⟩
  · exact Or.inl hn
  · refine Or.inr ⟨g, cap, cur, hv, hb, f.same (hL g ?_) hg, r⟩
    rw [hv]
    simp [Value.ownBlock]
theorem VrAt.kept {B : Nat} {w w' : World} {v : Vr} {L : List Nat} (h : VrAt B w v) (f : Fr L w w') (hL : v.g ∉ L) : VrAt B w' v := ⟨h.b.kept f hL, h.l, h.lo⟩
theorem VrAt.ty {B : Nat} {w : World} {v : Vr} (h : VrAt B w v) : ∃ cur, w.heap[v.g]? = some (.cells cur 5) := by
  obtain ⟨tl, h1, _⟩ := h.b
  exact ⟨_, h1⟩
theorem RwAt.ty {B : Nat} {w : World} {r : Rw} (h : RwAt B w r) : B ≤ r.g ∧ ∃ cur, w.heap[r.g]? = some (.cells cur 39) := by
  rcases h.own.2 with ⟨hv, _⟩ | ⟨g, cap, cur, hv, hb, hg, _⟩
  · cases hv
  · cases hv
    exact ⟨hb, cur, hg⟩
theorem RwAt.lt {B : Nat} {w : World} {r : Rw} (h : RwAt B w r) : ∀ k ∈ r.own, B ≤ k ∧ k < w.heap.size := by
  intro k hk
  rcases List.mem_cons.1 hk with rfl | hk
  · obtain ⟨hb, cur, hg⟩ := h.ty
    exact ⟨hb, (Array.getElem?_eq_some_iff.1 hg).1⟩
  · obtain ⟨v, hv, rfl⟩ := List.mem_map.1 hk
    exact ⟨(h.by' v hv).lo, (h.by' v hv).b.lt⟩
theorem RwAt.kept {B : Nat} {w w' : World} {r : Rw} {L : List Nat} (h : RwAt B w r) (f : Fr L w w') (hL : ∀ k ∈ r.own, k ∉ L) : RwAt B w' r :=
  ⟨ownsRow_kept h.own f (fun g hg => by
    simp [Value.ownBlock] at hg
    subst hg
    exact hL _ List.mem_cons_self), h.ne, fun v hv => (h.by' v hv).kept f (hL _ (List.mem_cons_of_mem _ (List.mem_map_of_mem hv)))⟩
theorem RwAt.cells {B : Nat} {w : World} {r : Rw} (h : RwAt B w r) {k : Nat} {v : Vr} (hk : r.vs[k]? = some v) : w.cell? ⟨r.g, k * 2, none⟩ = some (.slice (some ⟨v.g, 0, none⟩) 512 v.c) ∧ w.cell? ⟨r.g, k * 2 + 1, none⟩ = some (.int .i64 v.n) := by
  have hlt := (List.getElem?_eq_some_iff.1 hk).1
  have hat := vsV_at _ _ _ hk
  rcases h.own.2 with ⟨hv, _⟩ | ⟨g, cap, cur, hv, hb, hg, _, _, _, htk⟩
  · cases hv
  · cases hv
    rw [cell_of_row w _ (k * 2) _ _ _ hg, cell_of_row w _ (k * 2 + 1) _ _ _ hg]
    rw [← htk] at hat
    rw [List.getElem?_take, List.getElem?_take, if_pos (by omega), if_pos (by omega)] at hat
    simpa using hat
/-- The model. -/
structure Mo where
  mb : Nat
  ad : Option Addr
  c : Nat
  R : List Rw
  hb : Nat
  hs : List Int
def Mo.tb (m : Mo) : List Nat := (Value.ownBlock (.slice m.ad m.R.length m.c)).toList
def Mo.own (m : Mo) : List Nat := m.mb :: m.hb :: (m.tb ++ m.R.flatMap Rw.own)
def Mo.box (m : Mo) : Array Value := #[.slice m.ad m.R.length m.c, .slice (some ⟨m.hb, 0, none⟩) m.hs.length m.hs.length]
structure MoAt (B : Nat) (w : World) (m : Mo) : Prop where
  box : w.heap[m.mb]? = some (.cells m.box 36)
  tab : w.ownsRow B 40 1 (.slice m.ad m.R.length m.c) m.R.length (m.R.map rwV)
  row : ∀ r ∈ m.R, RwAt B w r
  nod : (m.R.map (·.g)).Nodup
  hd : Hd w m.hb m.hs.length m.hs
  b0 : B ≤ m.mb
  b1 : B ≤ m.hb
theorem Mo.own_row {m : Mo} {r : Rw} (h : r ∈ m.R) {k : Nat} (hk : k ∈ r.own) : k ∈ m.own := List.mem_cons_of_mem _ (List.mem_cons_of_mem _ (List.mem_append_right _ (List.mem_flatMap.2 ⟨r, h, hk⟩)))
theorem Mo.own_tb {m : Mo} {k : Nat} (hk : k ∈ m.tb) : k ∈ m.own := List.mem_cons_of_mem _ (List.mem_cons_of_mem _ (List.mem_append_left _ hk))
theorem MoAt.tbty {B : Nat} {w : World} {m : Mo} (h : MoAt B w m) : ∀ k ∈ m.tb, B ≤ k ∧ ∃ cur, w.heap[k]? = some (.cells cur 40) := by
  intro k hk
  rcases h.tab.2 with ⟨hv, _⟩ | ⟨g, cap, cur, hv, hb, hg, _⟩
  · unfold Mo.tb at hk
    rw [hv] at hk
    simp [Value.ownBlock] at hk
  · unfold Mo.tb at hk
    rw [hv] at hk
    simp [Value.ownBlock] at hk
    subst hk
    exact ⟨hb, cur, hg⟩
theorem MoAt.lt {B : Nat} {w : World} {m : Mo} (h : MoAt B w m) : ∀ k ∈ m.own, B ≤ k ∧ k < w.heap.size := by
  intro k hk
  rcases List.mem_cons.1 hk with rfl | hk
  · exact ⟨h.b0, (Array.getElem?_eq_some_iff.1 h.box).1⟩
  rcases List.mem_cons.1 hk with rfl | hk
  · exact ⟨h.b1, (Array.getElem?_eq_some_iff.1 h.hd.2).1⟩
  rcases List.mem_append.1 hk with hk | hk
  · obtain ⟨hb, cur, hg⟩ := h.tbty k hk
    exact ⟨hb, (Array.getElem?_eq_some_iff.1 hg).1⟩
  · obtain ⟨r, hr, hk⟩ := List.mem_flatMap.1 hk
    exact (h.row r hr).lt k hk
theorem MoAt.kept {B : Nat} {w w' : World} {m : Mo} {L : List Nat} (h : MoAt B w m) (f : Fr L w w') (hL : ∀ k ∈ m.own, k ∉ L) : MoAt B w' m :=
  ⟨f.same (hL _ List.mem_cons_self) h.box, ownsRow_kept h.tab f (fun g hg => hL g (Mo.own_tb hg)), fun r hr => (h.row r hr).kept f (fun k hk => hL k (Mo.own_row hr hk)), h.nod, ⟨h.hd.1, f.same (hL _ (List.mem_cons_of_mem _ List.mem_cons_self)) h.hd.2⟩, h.b0, h.b1⟩
theorem MoAt.c0 {B : Nat} {w : World} {m : Mo} (h : MoAt B w m) : w.cell? ⟨m.mb, 0, none⟩ = some (.slice m.ad m.R.length m.c) := cell_of_row w m.mb 0 _ _ _ h.box
theorem MoAt.c1 {B : Nat} {w : World} {m : Mo} (h : MoAt B w m) : w.cell? ⟨m.mb, 1, none⟩ = some (.slice (some ⟨m.hb, 0, none⟩) m.hs.length m.hs.length) := cell_of_row w m.mb 1 _ _ _ h.box
theorem MoAt.fz {B : Nat} {w : World} {m : Mo} (h : MoAt B w m) (i : Nat) : w.frozen? ⟨m.mb, i, none⟩ = false := frozen_of_row w m.mb i _ _ h.box
theorem MoAt.hc {B : Nat} {w : World} {m : Mo} (h : MoAt B w m) {i : Nat} {k : Int} (hk : m.hs[i]? = some k) : w.cell? ⟨m.hb, i, none⟩ = some (.int .i64 k) := h.hd.cell hk
theorem MoAt.hz {B : Nat} {w : World} {m : Mo} (h : MoAt B w m) (i : Nat) : w.frozen? ⟨m.hb, i, none⟩ = false := frozen_of_row w m.hb i _ _ h.hd.2
/-- Where a table has a row, its block, and the row's cell. -/
theorem MoAt.at {B : Nat} {w : World} {m : Mo} (h : MoAt B w m) {i : Nat} {r : Rw} (hi : m.R[i]? = some r) : ∃ tb, m.ad = some ⟨tb, 0, none⟩ := by
  have hlt := (List.getElem?_eq_some_iff.1 hi).1
  rcases h.tab.2 with ⟨_, hn⟩ | ⟨g, cap, cur, hv, hb, hg, _⟩
  · omega
  · injection hv with hv _ _
    exact ⟨g, hv⟩
theorem MoAt.cell {B : Nat} {w : World} {m : Mo} (h : MoAt B w m) {i : Nat} {r : Rw} (hi : m.R[i]? = some r) {tb : Nat} (ht : m.ad = some ⟨tb, 0, none⟩) : w.cell? ⟨tb, i, none⟩ = some (rwV r) ∧ w.frozen? ⟨tb, i, none⟩ = false := by
  have hlt := (List.getElem?_eq_some_iff.1 hi).1
  rcases h.tab.2 with ⟨_, hn⟩ | ⟨g, cap, cur, hv, hb, hg, _, _, _, htk⟩
  · omega
  · rw [ht] at hv
    injection hv with hv hv2 hv3
    have e0 : tb = g := by
      cases hv
      rfl
    subst e0
    refine ⟨?_, frozen_of_row w _ _ _ _ hg⟩
    rw [cell_of_row w _ i _ _ _ hg]
    have h2 : (m.R.map rwV)[i]? = some (rwV r) := by rw [List.getElem?_map, hi]; rfl
    rw [← htk, List.getElem?_take, if_pos (by omega)] at h2
    simpa using h2
theorem ne_of_ty {w : World} {a b : Nat} {c1 c2 : Array Value} {t1 t2 : TypeId} (h1 : w.heap[a]? = some (.cells c1 t1)) (h2 : w.heap[b]? = some (.cells c2 t2)) (ht : t1 ≠ t2) : a ≠ b := by
  rintro rfl
  rw [h1] at h2
  cases h2
  exact ht rfl
/-- One count changes. -/
theorem MoAt.setH {B : Nat} {w : World} {m : Mo} (h : MoAt B w m) (i : Nat) (k : Int) : MoAt B (w.setCell ⟨m.hb, i, none⟩ (.int .i64 k)) { m with hs := m.hs.set i k } ∧ Fr [m.hb] w (w.setCell ⟨m.hb, i, none⟩ (.int .i64 k)) := by
  have f := fr_set w m.hb i (.int .i64 k)
  have hg := heap_setCell_same w m.hb i _ _ (.int .i64 k) h.hd.2
  have n1 : m.mb ≠ m.hb := ne_of_ty h.box h.hd.2 (by decide)
  have hl : (m.hs.set i k).length = m.hs.length := List.length_set
  refine ⟨⟨?_, ?_, fun r hr => (h.row r hr).kept f (fun j hj e => ?_), h.nod, ⟨rfl, ?_⟩, h.b0, h.b1⟩, f⟩
  · have h2 := f.same (by simpa using n1) h.box
    show _ = some (Obj.cells #[.slice m.ad m.R.length m.c, .slice (some ⟨m.hb, 0, none⟩) (m.hs.set i k).length (m.hs.set i k).length] _)
    rw [hl]
    exact h2
  · refine ownsRow_kept h.tab f (fun g hm e => ?_)
    obtain ⟨_, cur, hc⟩ := h.tbty g hm
    exact ne_of_ty hc h.hd.2 (by decide) (by simpa using e)
  · have e : j = m.hb := by simpa using e
    subst e
    rcases List.mem_cons.1 hj with e | hj
    · obtain ⟨_, cur, hc⟩ := (h.row r hr).ty
      exact ne_of_ty h.hd.2 hc (by decide) e
    · obtain ⟨v, hv, e⟩ := List.mem_map.1 hj
      obtain ⟨cur, hc⟩ := ((h.row r hr).by' v hv).ty
      exact ne_of_ty hc h.hd.2 (by decide) e
  · rw [hg]
    simp [List.map_set]
/-- Another row at one place of the table. -/
theorem MoAt.setR {B : Nat} {w w1 : World} {m : Mo} (h : MoAt B w m) {q : Nat} {r r' : Rw} (hq : m.R[q]? = some r) {tb : Nat} (ht : m.ad = some ⟨tb, 0, none⟩) (f : Fr [r.g] w w1) (hr : RwAt B w1 r') (hg : r'.g = r.g ∨ w.heap.size ≤ r'.g) :
    MoAt B (w1.setCell ⟨tb, q, none⟩ (rwV r')) { m with R := m.R.set q r' } ∧ Fr [r.g, tb] w (w1.setCell ⟨tb, q, none⟩ (rwV r')) := by
  have hrm := List.mem_of_getElem? hq
  have R0 := h.row r hrm
  obtain ⟨_, curr, hcr⟩ := R0.ty
  have hlt := (List.getElem?_eq_some_iff.1 hq).1
  have htb : tb ∈ m.tb := by
    unfold Mo.tb
    rw [ht]
    simp [Value.ownBlock]
  obtain ⟨_, curt, hct⟩ := h.tbty tb htb
  have nt : tb ≠ r.g := ne_of_ty hct hcr (by decide)
  have hct1 := f.same (by simpa using nt) hct
  have f2 := fr_set w1 tb q (rwV r')
  have hl : (m.R.set q r').length = m.R.length := List.length_set
  have offr : ∀ r2, RwAt B w1 r2 → ∀ k ∈ r2.own, k ∉ [tb] := fun r2 h2 k hk e => by
    have e : k = tb := by simpa using e
    subst e
    rcases List.mem_cons.1 hk with e | hk
    · obtain ⟨_, cur, hc⟩ := h2.ty
      exact ne_of_ty hct1 hc (by decide) e
    · obtain ⟨v, hv, e⟩ := List.mem_map.1 hk
      obtain ⟨cur, hc⟩ := (h2.by' v hv).ty
      exact ne_of_ty hc hct1 (by decide) e
  have hrow1 : ∀ i r2, i ≠ q → m.R[i]? = some r2 → RwAt B w1 r2 := fun i r2 hi h2 => (h.row r2 (List.mem_of_getElem? h2)).kept f (fun k hk e => by
    have e : k = r.g := by simpa using e
    subst e
    rcases List.mem_cons.1 hk with e | hk
    · apply hi
      have hn := h.nod
      have e1 : (m.R.map (·.g))[i]? = some r.g := by rw [List.getElem?_map, h2, e]; rfl
      have e2 : (m.R.map (·.g))[q]? = some r.g := by rw [List.getElem?_map, hq]; rfl
      exact (List.getElem?_inj (by simpa using (List.getElem?_eq_some_iff.1 h2).1) hn).1 (e1.trans e2.symm)
    · obtain ⟨v, hv, e⟩ := List.mem_map.1 hk
      obtain ⟨cur, hc⟩ := ((h.row r2 (List.mem_of_getElem? h2)).by' v hv).ty
      exact ne_of_ty hc hcr (by decide) e)
  refine ⟨⟨?_, ?_, fun r2 hr2 => ?_, ?_, ?_, h.b0, h.b1⟩, ?_⟩
  · have n1 : m.mb ≠ r.g := ne_of_ty h.box hcr (by decide)
    have n2 : m.mb ≠ tb := ne_of_ty h.box hct (by decide)
    have h2 := f2.same (by simpa using n2) (f.same (by simpa using n1) h.box)
    show _ = some (Obj.cells #[.slice m.ad (m.R.set q r').length m.c, .slice (some ⟨m.hb, 0, none⟩) m.hs.length m.hs.length] _)
    rw [hl]
    exact h2
  · show World.ownsRow _ B _ 1 (.slice m.ad (m.R.set q r').length m.c) (m.R.set q r').length ((m.R.set q r').map rwV)
    rw [hl]
    rcases h.tab.2 with ⟨_, hn⟩ | ⟨g, cap, cur, hv, hb, hgc, hcap, hmx, hsz, htk⟩
    · omega
    · have e0 : g = tb := by
        rw [ht] at hv
        injection hv with hv _ _
        cases hv
        rfl
      subst e0
      have hgc1 := f.same (by simpa using nt) hgc
      refine ⟨by simp, Or.inr ⟨g, cap, _, hv, hb, heap_setCell_same w1 g q _ _ (rwV r') hgc1, hcap, hmx, by simpa using hsz, ?_⟩⟩
      rw [List.map_set, Array.toList_setIfInBounds, List.take_set, htk]
  · rcases List.mem_iff_getElem?.1 hr2 with ⟨i, hi⟩
    by_cases e : i = q
    · subst e
      rw [List.getElem?_set_self hlt] at hi
      cases hi
      exact hr.kept f2 (offr _ hr)
    · rw [List.getElem?_set_ne (fun h => e h.symm)] at hi
      have h3 := hrow1 i r2 e hi
      exact h3.kept f2 (offr _ h3)
  · show ((m.R.set q r').map (·.g)).Nodup
    rw [List.map_set]
    rcases hg with e | e
    · rw [e]
      have h2 : (m.R.map (·.g)).set q r.g = m.R.map (·.g) := set_same (by rw [List.getElem?_map, hq]; rfl)
      rw [h2]
      exact h.nod
    · refine nodup_set h.nod (fun hm => ?_)
      obtain ⟨r3, h3, e3⟩ := List.mem_map.1 hm
      have := ((h.row r3 h3).lt r3.g List.mem_cons_self).2
      omega
  · have n1 : m.hb ≠ r.g := ne_of_ty h.hd.2 hcr (by decide)
    have n2 : m.hb ≠ tb := ne_of_ty h.hd.2 hct (by decide)
    exact ⟨h.hd.1, f2.same (by simpa using n2) (f.same (by simpa using n1) h.hd.2)⟩
  · exact (f.mono (fun k _ hk => by simp at hk; simp [hk])).trans (f2.mono (fun k _ hk => by simp at hk; simp [hk]))
end Go.Proofs.YtopaeomjndblkaaGreat

namespace Go.Proofs.YtopaeomjndblkaaGreat
open Go.RowKit Go.Maps

structure Pd (w0 w : World) (rg : Nat) (x : Po) (m : Mo) : Prop where
  rig : RigAt w rg x
  mo : MoAt w0.heap.size w m
  fr : Fr [] w0 w
  new : ∀ k ∈ rg :: x.pp :: x.own, w0.heap.size ≤ k
  dis : ∀ k ∈ m.own, k ∉ rg :: x.pp :: x.own
section
variable {w0 w w' : World} {rg : Nat} {x x' : Po} {m m' : Mo}
theorem Pd.quiet (h : Pd w0 w rg x m) (f : Fr [] w w') : Pd w0 w' rg x m :=
  ⟨h.rig.kept f (by simp) (by simp), h.mo.kept f (by simp), h.fr.trans f, h.new, h.dis⟩
theorem Pd.lt (h : Pd w0 w rg x m) : ∀ k ∈ rg :: x.pp :: x.own, k < w.heap.size := by
  intro k hk
  rcases List.mem_cons.1 hk with rfl | hk
  · exact h.rig.lt
  · exact h.rig.po.lt k hk
/-- The pool moves: the model stays. -/
theorem Pd.step (h : Pd w0 w rg x m) (st : Step w w' x x') (R : RigAt w' rg x') (hpp : x'.pp = x.pp) : Pd w0 w' rg x' m := by
  have hown : ∀ k ∈ rg :: x'.pp :: x'.own, k ∈ rg :: x.pp :: x.own ∨ w.heap.size ≤ k := by
    intro k hk
    rcases List.mem_cons.1 hk with rfl | hk
    · exact Or.inl List.mem_cons_self
    rcases List.mem_cons.1 hk with rfl | hk
    · rw [hpp]
      exact Or.inl (List.mem_cons_of_mem _ List.mem_cons_self)
    · rcases st.ow k hk with h1 | h1
      · exact Or.inl (List.mem_cons_of_mem _ (List.mem_cons_of_mem _ h1))
      · exact Or.inr h1
  have hs := h.fr.size
  refine ⟨R, h.mo.kept st.fr (fun k hk hx => h.dis k hk (List.mem_cons_of_mem _ (List.mem_cons_of_mem _ hx))), h.fr.then st.fr (fun i hi hx => ?_), fun k hk => ?_, fun k hk hx => ?_⟩
  · have := h.new i (List.mem_cons_of_mem _ (List.mem_cons_of_mem _ hx))
    omega
  · rcases hown k hk with h1 | h1
    · exact h.new k h1
    · omega
  · rcases hown k hx with h1 | h1
    · exact h.dis k hk h1
    · have := (h.mo.lt k hk).2
      omega
/-- The model moves: the pool stays. -/
theorem Pd.mod (h : Pd w0 w rg x m) {L : List Nat} (f : Fr L w w') (M : MoAt w0.heap.size w' m') (hL : ∀ k ∈ L, k ∈ m.own) (ho : ∀ k ∈ m'.own, k ∈ m.own ∨ k ∉ rg :: x.pp :: x.own) : Pd w0 w' rg x m' := by
  have hn : ∀ k ∈ rg :: x.pp :: x.own, k ∉ L := fun k hk hl => h.dis k (hL k hl) hk
  refine ⟨h.rig.kept f (hn _ List.mem_cons_self) (fun k hk => hn k (List.mem_cons_of_mem _ hk)), M, h.fr.then f (fun i hi hl => ?_), h.new, fun k hk hx => ?_⟩
  · have := (h.mo.lt i (hL i hl)).1
    omega
  · rcases ho k hk with h1 | h1
    · exact h.dis k h1 hx
    · exact h1 hx
/-- A block that is neither's is written. -/
theorem Pd.off (h : Pd w0 w rg x m) {g : Nat} (f : Fr [g] w w') (h0 : w0.heap.size ≤ g) (h1 : g ∉ m.own) (h2 : g ∉ rg :: x.pp :: x.own) : Pd w0 w' rg x m := by
  have hn : ∀ k ∈ rg :: x.pp :: x.own, k ∉ [g] := fun k hk e => h2 (by rw [← List.mem_singleton.1 e]; exact hk)
  refine ⟨h.rig.kept f (hn _ List.mem_cons_self) (fun k hk => hn k (List.mem_cons_of_mem _ hk)), h.mo.kept f (fun k hk e => h1 (by rw [← List.mem_singleton.1 e]; exact hk)), h.fr.then f (fun i hi hl => ?_), h.new, h.dis⟩
  have := List.mem_singleton.1 hl
  omega
/-- One count changes. -/
theorem Pd.setH (h : Pd w0 w rg x m) (i : Nat) (k : Int) : Pd w0 (w.setCell ⟨m.hb, i, none⟩ (.int .i64 k)) rg x { m with hs := m.hs.set i k } := by
  obtain ⟨M, f⟩ := h.mo.setH i k
  exact h.mod f M (fun j hj => by
    rw [List.mem_singleton.1 hj]
    exact List.mem_cons_of_mem _ List.mem_cons_self) (fun j hj => Or.inl hj)
/-- Another row at one place. -/
theorem Pd.setR (h : Pd w0 w rg x m) {q : Nat} {r r' : Rw} (hq : m.R[q]? = some r) {tb : Nat} (ht : m.ad = some ⟨tb, 0, none⟩) {w1 : World} (f : Fr [r.g] w w1) (hr : RwAt w0.heap.size w1 r') (hg : r'.g = r.g ∨ w.heap.size ≤ r'.g) (hv : ∀ v ∈ r'.vs, v ∈ r.vs ∨ v.g ∉ rg :: x.pp :: x.own) :
    Pd w0 (w1.setCell ⟨tb, q, none⟩ (rwV r')) rg x { m with R := m.R.set q r' } := by
  obtain ⟨M, f2⟩ := h.mo.setR hq ht f hr hg
  have hrm := List.mem_of_getElem? hq
  have htb : tb ∈ m.tb := by
    unfold Mo.tb
    rw [ht]
    simp [Value.ownBlock]
  refine h.mod f2 M (fun j hj => ?_) (fun j hj => ?_)
  · rcases List.mem_cons.1 hj with e | e
    · rw [e]
      exact Mo.own_row hrm List.mem_cons_self
    · rw [List.mem_singleton.1 e]
      exact Mo.own_tb htb
  · rcases List.mem_cons.1 hj with e | hj
    · rw [e]
      exact Or.inl List.mem_cons_self
    rcases List.mem_cons.1 hj with e | hj
    · rw [e]
      exact Or.inl (List.mem_cons_of_mem _ List.mem_cons_self)
    rcases List.mem_append.1 hj with hj | hj
    · refine Or.inl (Mo.own_tb ?_)
      have e : (Value.ownBlock (.slice m.ad (m.R.set q r').length m.c)).toList = m.tb := by
        unfold Mo.tb
        rw [List.length_set]
      rw [← e]
      exact hj
    · obtain ⟨r2, hr2, hj2⟩ := List.mem_flatMap.1 hj
      rcases List.mem_or_eq_of_mem_set hr2 with h1 | h1
      · exact Or.inl (Mo.own_row h1 hj2)
      · rw [h1] at hj2
        rcases List.mem_cons.1 hj2 with e | hj
        · rcases hg with h2 | h2
          · rw [e, h2]
            exact Or.inl (Mo.own_row hrm List.mem_cons_self)
          · rw [e]
            exact Or.inr (fun hm => by
              have := h.lt _ hm
              omega)
        · obtain ⟨v, hv1, e⟩ := List.mem_map.1 hj
          rcases hv v hv1 with h2 | h2
          · exact Or.inl (Mo.own_row hrm (List.mem_cons_of_mem _ (List.mem_map.2 ⟨v, h2, e⟩)))
          · rw [← e]
            exact Or.inr h2
theorem Pd.d (h : Pd w0 w rg x m) : w.cell? ⟨rg, 0, none⟩ = some (.pointer (some ⟨x.y.d, 0, none⟩)) := h.rig.box.c0
theorem Pd.l (h : Pd w0 w rg x m) : w.cell? ⟨rg, 1, none⟩ = some (.pointer (some ⟨x.y.p, 0, none⟩)) := h.rig.box.c1
theorem Pd.p (h : Pd w0 w rg x m) : w.cell? ⟨rg, 2, none⟩ = some (.pointer (some ⟨x.pp, 0, none⟩)) := h.rig.box.c2
end
section
variable {ops : Array Oper} {rest : List Oper} {o : Oper} {a : Act} {w : World} {Q : Exit → Act → World → Prop}
/-- append of one version to a row, as a step of a region that draws its order. -/
theorem step_appVr {K : Act → World → Prop} {X : Prop} (hgd : o.guard = none) (s x : Operand) (ho : o.op = .call { callee := .builtin .append, args := #[s, x], argTypes := #[40, 40] }) (B : Nat) (r : Rw) (n : Nat) (hn : n = r.vs.length) (b : Nat) (v : Vr) (hs : a.eval s = .slice (some ⟨r.g, 0, none⟩) n r.c) (hx : a.eval x = .slice (some ⟨b, 0, none⟩) 1 1)
    (hown : RwAt B w r) (hb : w.heap[b]? = some (.cells #[.slice (some ⟨v.g, 0, none⟩) 512 v.c, .int .i64 v.n] 39)) (hv : VrAt B w v) (hB : B ≤ w.heap.size) (hm : n + 1 ≤ 1000000)
    (h : ∀ g c' w', RwAt B w' ⟨g, c', r.vs ++ [v]⟩ → Fr [r.g] w w' → (g = r.g ∨ w.heap.size ≤ g) → K (a.put o.dst (.slice (some ⟨g, 0, none⟩) (n + 1) c')) w') :
    if Region.wanted o (yielded ops a.tmps) = true then Oper.wp Tryz.prog o a w K Q else X := by
  subst hn
  have hw : Region.wanted o (yielded ops a.tmps) = true := by simp [Region.wanted, hgd]
  rw [if_pos hw]
  obtain ⟨i, hi, hz, hsz, hbb⟩ := infoVr'
  obtain ⟨v', w', hrun, h2, h3, h4, h5⟩ := run_append_own_at (P := Tryz.prog) w B 40 o.type 39 i (.agg #[.slice none 0 0, .int .i64 0]) 2 32 Tryz.underlying40 hi hz hsz hbb rfl (by omega) _ r.vs.length (vsV r.vs) hown.own ⟨b, 0, none⟩ 1 1 (vrV v) rfl
    (by
      intro j x hx
      rw [Addr.add_mid]
      match j, hx with
      | 0, hx => simp [vrV] at hx; subst hx; exact cell_of_row w b 0 _ _ _ hb
      | 1, hx => simp [vrV] at hx; subst hx; exact cell_of_row w b 1 _ _ _ hb
      | j + 2, hx => simp [vrV] at hx) (by intro x hx; simp [vrV] at hx; rcases hx with rfl | rfl <;> rfl) (by unfold maxLen; omega) (by omega) hB
  rcases h2.2 with ⟨e, hn0⟩ | ⟨g, c', cur, e, r2⟩
  · omega
  · subst e
    have f3 : Fr [r.g] w w' := (Fr.refl _ _).grown h3 (fun j e _ => by
      simp [Value.ownBlock] at e
      simp [e])
    obtain ⟨_, curr, hcr⟩ := hown.ty
    have off : ∀ u, VrAt B w u → u.g ∉ [r.g] := fun u hu e => by
      obtain ⟨cur2, hc⟩ := hu.ty
      exact ne_of_ty hc hcr (by decide) (by simpa using e)
    unfold Oper.wp
    simp [execOp, ho, resolve, invoke, builtin, hs, hx, hrun, Result.andThen]
    refine h _ _ _ ⟨?_, ?_, fun u hu => ?_⟩ f3 ?_
    · show World.ownsRow _ B _ 2 (.slice _ (r.vs ++ [v]).length _) (r.vs ++ [v]).length (vsV (r.vs ++ [v]))
      rw [vsV_app, List.length_append]
      exact h2
    · show 0 < (r.vs ++ [v]).length
      simp
    · rcases List.mem_append.1 hu with h1 | h1
      · exact (hown.by' u h1).kept f3 (off u (hown.by' u h1))
      · rw [List.mem_singleton.1 h1]
        exact hv.kept f3 (off v hv)
    · rcases h5 with h5 | h5
      · left
        simpa [Value.ownBlock] using h5
      · right
        simp [Value.ownBlock] at h5
        omega
/-- append of one row to the table. -/
theorem step_appRw {K : Act → World → Prop} {X : Prop} (hgd : o.guard = none) (s x : Operand) (ho : o.op = .call { callee := .builtin .append, args := #[s, x], argTypes := #[34, 34] }) (B : Nat) (ad : Option Addr) (c : Nat) (R : List Rw) (n : Nat) (hn : n = R.length) (b : Nat) (r : Rw) (hs : a.eval s = .slice ad n c) (hx : a.eval x = .slice (some ⟨b, 0, none⟩) 1 1)
    (hown : w.ownsRow B 40 1 (.slice ad R.length c) R.length (R.map rwV)) (hb : w.heap[b]? = some (.cells #[rwV r] 40)) (hB : B ≤ w.heap.size) (hm : n + 1 ≤ 1000000)
    (h : ∀ g c' w', w'.ownsRow B 40 1 (.slice (some ⟨g, 0, none⟩) (R ++ [r]).length c') (R ++ [r]).length ((R ++ [r]).map rwV) → Fr (Value.ownBlock (.slice ad n c)).toList w w' → NewOr ad n c g w.heap.size → K (a.put o.dst (.slice (some ⟨g, 0, none⟩) (n + 1) c')) w') :
    if Region.wanted o (yielded ops a.tmps) = true then Oper.wp Tryz.prog o a w K Q else X := by
  subst hn
  have hw : Region.wanted o (yielded ops a.tmps) = true := by simp [Region.wanted, hgd]
  rw [if_pos hw]
  obtain ⟨i, hi, hz, hsz, hbb⟩ := infoVs'
  obtain ⟨v', w', hrun, h2, h3, h4, h5⟩ := run_append_own_at (P := Tryz.prog) w B 34 o.type 40 i (.slice none 0 0) 1 24 Tryz.underlying34 hi hz hsz hbb rfl (by omega) _ R.length (R.map rwV) hown ⟨b, 0, none⟩ 1 1 [rwV r] rfl
    (by
      intro j x hx
      rw [Addr.add_mid]
      match j, hx with
      | 0, hx => simp at hx; subst hx; exact cell_of_row w b 0 _ _ _ hb
      | j + 1, hx => simp at hx) (by intro x hx; simp at hx; subst hx; rfl) (by unfold maxLen; omega) (by omega) hB
  rcases h2.2 with ⟨e, hn0⟩ | ⟨g, c', cur, e, r2⟩
  · omega
  · subst e
    unfold Oper.wp
    simp [execOp, ho, resolve, invoke, builtin, hs, hx, hrun, Result.andThen]
    refine h _ _ _ ?_ ((Fr.refl _ _).grown h3 (fun j e _ => by simp [e])) (new_of h5)
    rw [List.map_append, List.length_append]
    exact h2
end
end Go.Proofs.YtopaeomjndblkaaGreat

namespace Go.Proofs.YtopaeomjndblkaaGreat
open Go.RowKit Go.Maps

theorem info3' : ∃ i, Tryz.prog.info? 3 = some i ∧ i.zero = some (.int .i64 0) ∧ i.size = 1 ∧ i.bytes = 8 := by
  have h : (Tryz.prog.info? 3).map (fun i => (i.zero, i.size, i.bytes)) = some (some (.int .i64 0), 1, 8) := by kernel_rfl
  obtain ⟨i, hi, hx⟩ := Option.map_eq_some_iff.1 h
  simp only [Prod.mk.injEq] at hx
  exact ⟨i, hi, hx.1, hx.2.1, hx.2.2⟩
theorem ints_zeros (n : Nat) : madeCells (Value.int .i64 0).cells n = ((List.replicate n (0 : Int)).map (Value.int .i64 ·)).toArray := by
  unfold madeCells
  apply Array.ext'
  simp [Value.cells]
  apply List.ext_getElem
  · simp
  · intro i h1 h2
    simp [Nat.mod_one]
theorem run_makeI (w : World) (n : Nat) (hn : n ≤ 65536) : (Instr.makeSlice 33 (.int .i64 (n : Int)) (.int .i64 (n : Int))).run Tryz.prog w = .ok (.slice (some ⟨w.heap.size, 0, none⟩) n n) (w.alloc (.cells ((List.replicate n (0 : Int)).map (Value.int .i64 ·)).toArray 3)) := by
  obtain ⟨i, hi, hz, hs, hb⟩ := info3'
  have hrun := run_makeSlice (P := Tryz.prog) w 33 3 i (.int .i64 0) Tryz.underlying33 hi hz .i64 .i64 (n : Int) (n : Int) (by omega) (by omega) (by rw [hs]; omega) (by rw [hb]; omega) (by omega)
  rw [hs] at hrun
  simp only [Int.toNat_natCast, Nat.mul_one] at hrun
  rw [ints_zeros] at hrun
  exact hrun
theorem run_mk512 (w : World) : (Instr.makeSlice 37 (.int .i64 512) (.int .i64 512)).run Tryz.prog w = .ok (.slice (some ⟨w.heap.size, 0, none⟩) 512 512) (w.alloc (.cells (arr (zs 512)) 5)) := by
  obtain ⟨i, hi, hz, hs, hb⟩ := info5'
  have hrun := run_makeSlice (P := Tryz.prog) w 37 5 i (.int .u8 0) Tryz.underlying37 hi hz .i64 .i64 (512 : Int) (512 : Int) (by omega) (by omega) (by rw [hs]; decide) (by rw [hb]; decide) (by omega)
  have e1 : (512 : Int).toNat * 1 = 512 := rfl
  rw [hs, e1, arr_zeros] at hrun
  exact hrun
/-- Rows of one version each: nothing but noughts. -/
def Zrows (R : List Rw) : Prop := ∀ r ∈ R, ∃ g c, r.vs = [⟨g, c, zs 512, 0⟩]
/-- What holds of a rig that was just begun, with a model of noughts. -/
theorem iv_zero (d bs bo : Nat) (p pp rp mp pages most : Nat) (R : List Rw) (hR : R.length = pages) (hz : Zrows R) : Iv pages most 0 (po0 d bs bo (12 + (pages : Int)) p pp rp mp 12 pages most 12) R (List.replicate pages 0) := by
  have hpg : ∀ q, pgD 12 (lo0 d bs bo (12 + (pages : Int)) p 12) q = zs 512 := fun q => rfl
  refine { pg := rfl, mo := rfl, st := rfl, first := rfl, c12 := rfl, T1 := rfl, E := Int.le_refl _, rl := hR, hl := List.length_replicate, rc := fun q r hq => ?_, hh := ⟨fun f hf => (nomatch hf), fun q hq _ => ?_⟩, hb := fun k hk => ?_, nod := List.nodup_nil, vb := fun r hr => ?_ }
  · obtain ⟨g, c, e⟩ := hz r (List.mem_of_getElem? hq)
    rw [e]
    refine ⟨⟨_, rfl, Or.inr ⟨fun h => (nomatch h), hpg q⟩, Or.inl (Int.le_refl _)⟩, ⟨_, List.mem_singleton.2 rfl, (hpg q).symm, Int.le_refl _⟩, ?_⟩
    rintro ⟨f, hf, _⟩
    exact nomatch hf
  · rw [List.getElem?_replicate]
    exact if_pos hq
  · rw [List.mem_replicate] at hk
    omega
  · obtain ⟨g, c, e⟩ := hz r hr
    rw [e]
    exact Int.le_refl _
section
variable {w0 w w' : World} {rg : Nat} {x : Po} {m : Mo}
/-- One row more in the table. -/
theorem Pd.addR (h : Pd w0 w rg x m) {w3 w8 : World} (f3 : Fr [] w w3) {r : Rw} (hr : RwAt w0.heap.size w3 r) (hnew : ∀ k ∈ r.own, w.heap.size ≤ k) {g c8 : Nat} (T8 : w8.ownsRow w0.heap.size 40 1 (.slice (some ⟨g, 0, none⟩) (m.R ++ [r]).length c8) (m.R ++ [r]).length ((m.R ++ [r]).map rwV)) (f8 : Fr m.tb w3 w8) (hg : NewOr m.ad m.R.length m.c g w3.heap.size) :
    (w8.cell? ⟨m.mb, 0, none⟩ = some (.slice m.ad m.R.length m.c) ∧ w8.frozen? ⟨m.mb, 0, none⟩ = false) ∧ Pd w0 (w8.setCell ⟨m.mb, 0, none⟩ (.slice (some ⟨g, 0, none⟩) (m.R.length + 1) c8)) rg x { m with ad := some ⟨g, 0, none⟩, c := c8, R := m.R ++ [r] } := by
  have X3 := h.quiet f3
  have hbty : ∀ k ∈ m.tb, ∃ cur, w3.heap[k]? = some (.cells cur 40) := fun k hk => (X3.mo.tbty k hk).2
  have off : ∀ {b : Nat} {cur : Array Value} {t : TypeId}, w3.heap[b]? = some (.cells cur t) → t ≠ 40 → b ∉ m.tb := fun {b cur t} hb ht hk => by
    obtain ⟨c2, h2⟩ := hbty b hk
    exact ne_of_ty hb h2 ht rfl
  have b8 := f8.same (off X3.mo.box (by decide)) X3.mo.box
  have f9 := fr_set w8 m.mb 0 (.slice (some ⟨g, 0, none⟩) (m.R.length + 1) c8)
  have hg8 := heap_setCell_same w8 m.mb 0 _ _ (.slice (some ⟨g, 0, none⟩) (m.R.length + 1) c8) b8
  have hlen : (m.R ++ [r]).length = m.R.length + 1 := by simp
  obtain ⟨curg, hgt⟩ : ∃ cur, w8.heap[g]? = some (.cells cur 40) := by
    rcases T8.2 with ⟨hv, _⟩ | ⟨g', cap, cur, hv, _, hg', _⟩
    · cases hv
    · cases hv
      exact ⟨cur, hg'⟩
  have offR : ∀ r2, RwAt w0.heap.size w3 r2 → RwAt w0.heap.size (w8.setCell ⟨m.mb, 0, none⟩ (.slice (some ⟨g, 0, none⟩) (m.R.length + 1) c8)) r2 := fun r2 h2 => by
    have tyk : ∀ k ∈ r2.own, ∃ cur t, w3.heap[k]? = some (.cells cur t) ∧ t ≠ 40 ∧ t ≠ 36 := fun k hk => by
      rcases List.mem_cons.1 hk with e | hk
      · obtain ⟨_, cur, hc⟩ := h2.ty
        rw [← e] at hc
        exact ⟨cur, _, hc, by decide, by decide⟩
      · obtain ⟨v, hv, e⟩ := List.mem_map.1 hk
        obtain ⟨cur, hc⟩ := (h2.by' v hv).ty
        rw [e] at hc
        exact ⟨cur, _, hc, by decide, by decide⟩
    have h8 := h2.kept f8 (fun k hk => by
      obtain ⟨cur, t, hc, h1, _⟩ := tyk k hk
      exact off hc h1)
    refine h8.kept f9 (fun k hk e => ?_)
    obtain ⟨cur, t, hc, _, h1⟩ := tyk k hk
    exact ne_of_ty hc X3.mo.box h1 (List.mem_singleton.1 e)
  have M : MoAt w0.heap.size (w8.setCell ⟨m.mb, 0, none⟩ (.slice (some ⟨g, 0, none⟩) (m.R.length + 1) c8)) { m with ad := some ⟨g, 0, none⟩, c := c8, R := m.R ++ [r] } := by
    refine ⟨?_, ?_, fun r2 hr2 => ?_, ?_, ⟨rfl, ?_⟩, h.mo.b0, h.mo.b1⟩
    · rw [hg8]
      show _ = some (Obj.cells #[.slice (some ⟨g, 0, none⟩) (m.R ++ [r]).length c8, .slice (some ⟨m.hb, 0, none⟩) m.hs.length m.hs.length] _)
      rw [hlen]
      rfl
    · exact ownsRow_kept T8 f9 (fun k hk e => by
        have e1 : k = g := by simpa [Value.ownBlock] using hk
        have e2 : k = m.mb := List.mem_singleton.1 e
        rw [← e1, e2, b8] at hgt
        simp at hgt)
    · rcases List.mem_append.1 hr2 with h1 | h1
      · exact offR r2 (X3.mo.row r2 h1)
      · rw [List.mem_singleton.1 h1]
        exact offR r hr
    · show ((m.R ++ [r]).map (·.g)).Nodup
      rw [List.map_append, List.nodup_append]
      refine ⟨h.mo.nod, by simp, fun a ha b hb e => ?_⟩
      obtain ⟨r2, h2, e2⟩ := List.mem_map.1 ha
      have e3 : b = r.g := by simpa using hb
      have h4 := ((h.mo.row r2 h2).lt r2.g List.mem_cons_self).2
      have h5 := hnew r.g List.mem_cons_self
      omega
    · have h1 := f8.same (off X3.mo.hd.2 (by decide)) X3.mo.hd.2
      exact f9.same (by simpa using ne_of_ty X3.mo.hd.2 X3.mo.box (by decide)) h1
  refine ⟨⟨cell_of_row w8 m.mb 0 _ _ _ b8, frozen_of_row w8 m.mb 0 _ _ b8⟩, X3.mod (L := m.mb :: m.tb) ((f8.mono (fun k _ hk => List.mem_cons_of_mem _ hk)).trans (f9.mono (fun k _ hk => by rw [List.mem_singleton.1 hk]; exact List.mem_cons_self))) M (fun k hk => ?_) (fun k hk => ?_)⟩
  · rcases List.mem_cons.1 hk with e | hk
    · rw [e]
      exact List.mem_cons_self
    · exact Mo.own_tb hk
  · have hlt := X3.lt
    rcases List.mem_cons.1 hk with e | hk
    · rw [e]
      exact Or.inl List.mem_cons_self
    rcases List.mem_cons.1 hk with e | hk
    · rw [e]
      exact Or.inl (List.mem_cons_of_mem _ List.mem_cons_self)
    rcases List.mem_append.1 hk with hk | hk
    · have e1 : k = g := by simpa [Mo.tb, Value.ownBlock] using hk
      rcases hg with h1 | h1
      · exact Or.inl (Mo.own_tb (by rw [e1]; unfold Mo.tb; rw [h1]; simp))
      · refine Or.inr (fun hm => ?_)
        have := hlt k hm
        omega
    · obtain ⟨r2, hr2, hk⟩ := List.mem_flatMap.1 hk
      rcases List.mem_append.1 hr2 with h1 | h1
      · exact Or.inl (Mo.own_row h1 hk)
      · rw [List.mem_singleton.1 h1] at hk
        refine Or.inr (fun hm => ?_)
        have h2 := hnew k hk
        have h3 := h.lt k hm
        omega
end
/-- Dirty's rows, read. -/
theorem DRow.cells {w0 w w' : World} {ad : Option Addr} {n c : Nat} {ds : List Fm} (h : DRow w0 w ad n c ds) (f : Fr [] w w') {gd : Nat} (ha : ad = some ⟨gd, 0, none⟩) {k : Nat} {x : Fm} (hk : ds[k]? = some x) : w'.cell? ⟨gd, k * 2, none⟩ = some (.int .i64 (x.pg : Int)) ∧ w'.cell? ⟨gd, k * 2 + 1, none⟩ = some (.int .i64 x.fst) := by
  have hlt := (List.getElem?_eq_some_iff.1 hk).1
  have hat : (dtV ds)[k * 2]? = some (.int .i64 (x.pg : Int)) ∧ (dtV ds)[k * 2 + 1]? = some (.int .i64 x.fst) := by
    clear h hlt
    induction ds generalizing k with
    | nil => simp at hk
    | cons y l ih =>
      have e : dtV (y :: l) = .int .i64 (y.pg : Int) :: .int .i64 y.fst :: dtV l := rfl
      cases k with
      | zero =>
        simp at hk
        subst hk
        rw [e]
        exact ⟨rfl, rfl⟩
      | succ k =>
        have h2 := ih (k := k) (by simpa using hk)
        have e1 : (k + 1) * 2 = k * 2 + 1 + 1 := by omega
        rw [e, e1]
        exact h2
  rcases h.own.2 with ⟨_, hn⟩ | ⟨g, cap, cur, hv, hb, hg, _, _, _, htk⟩
  · have := h.len
    omega
  · rw [ha] at hv
    injection hv with hv _ _
    have e0 : gd = g := by
      cases hv
      rfl
    subst e0
    have hg' := f.same (by simp) hg
    rw [cell_of_row w' _ (k * 2) _ _ _ hg', cell_of_row w' _ (k * 2 + 1) _ _ _ hg']
    have hl := h.len
    rw [← htk] at hat
    rw [List.getElem?_take, List.getElem?_take, if_pos (by omega), if_pos (by omega)] at hat
    simpa using hat
theorem DRow.at {w0 w : World} {ad : Option Addr} {n c : Nat} {ds : List Fm} (h : DRow w0 w ad n c ds) (hn : 0 < n) : ∃ gd, ad = some ⟨gd, 0, none⟩ := by
  rcases h.own.2 with ⟨_, h0⟩ | ⟨g, cap, cur, hv, _⟩
  · omega
  · injection hv with hv _ _
    exact ⟨g, hv⟩
/-- They rise. -/
theorem Rising.lt {x : Po} (hn : ((ids x.fs).map (·.1)).Nodup) {ds : List Fm} (h : Rising x.fs ds) {k : Nat} {f g : Fm} (hf : ds[k]? = some f) (hg : ds[k + 1]? = some g) (hb : (x.fs.map (·.b)).Nodup) : f.pg < g.pg := by
  have h1 : f.pg ≤ g.pg := by
    obtain ⟨i1, e1⟩ := List.getElem?_eq_some_iff.1 hf
    obtain ⟨i2, e2⟩ := List.getElem?_eq_some_iff.1 hg
    have := List.pairwise_iff_getElem.1 h.up k (k + 1) i1 i2 (by omega)
    rw [e1, e2] at this
    exact this
  rcases Nat.lt_or_ge f.pg g.pg with h2 | h2
  · exact h2
  · have e := f_uniq hn (h.mem (List.mem_of_getElem? hf)).1 (h.mem (List.mem_of_getElem? hg)).1 (by omega)
    subst e
    have hnd := h.nodb hb
    have e3 : (ds.map (·.b))[k]? = some f.b := by rw [List.getElem?_map, hf]; rfl
    have e4 : (ds.map (·.b))[k + 1]? = some f.b := by rw [List.getElem?_map, hg]; rfl
    have e5 := (List.getElem?_inj (by simpa using (List.getElem?_eq_some_iff.1 hf).1) hnd).1 (e3.trans e4.symm)
    omega
end Go.Proofs.YtopaeomjndblkaaGreat

