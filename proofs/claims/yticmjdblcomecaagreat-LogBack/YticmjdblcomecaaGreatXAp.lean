/-
  Rows of bytes that lie apart, in a new table.
-/
import Derived.Test.YticmjdblcomecaaGreatQSame
import Derived.Laws.AppendOwnNone
import Derived.Test.YticmjdblcomecaaGreatAbApartB
namespace Go.Proofs.YticmjdblcomecaaGreat
open Go.RowKit Go.Maps

theorem i64_bounds {x : Int} (h : (Lit.int .i64 x).wf = true) : -9223372036854775808 ≤ x ∧ x ≤ 9223372036854775807 := by
  simp [Lit.wf, show IntKind.i64.min = -9223372036854775808 from rfl, show IntKind.i64.max = 9223372036854775807 from rfl] at h
  exact h

theorem tmod_neg {x n : Int} (h1 : 1 ≤ n) (h : x.tmod n < 0) : x.tmod n + n = x % n := by
  have e := Int.tmod_eq_emod (a := x) (b := n)
  have h2 := Int.emod_nonneg x (show n ≠ 0 by omega)
  split at e <;> omega
theorem tmod_pos {x n : Int} (h1 : 1 ≤ n) (h : 0 ≤ x.tmod n) : x.tmod n = x % n := by
  have e := Int.tmod_eq_emod (a := x) (b := n)
  have h2 := Int.emod_lt_of_pos x (show 0 < n by omega)
  split at e <;> omega
theorem wrap64_small {v : Int} (h0 : -9223372036854775808 ≤ v) (h1 : v ≤ 9223372036854775807) : wrap64 v = v := by
  unfold wrap64
  omega

set_option maxHeartbeats 400000 in
theorem pick_any (w : World) (x n : Int) (hx : (Lit.int .i64 x).wf = true) (h1 : 1 ≤ n) (h2 : n ≤ 1000000) :
    Calls Tryz.prog 10 #[.int .i64 x, .int .i64 n] w fun e w' => e = .returned (.int .i64 (x % n)) ∧ w' = w := by
  obtain ⟨b1, b2⟩ := i64_bounds hx
  have hn : ¬ n < 1 := by omega
  have g1 := Int.emod_nonneg x (show n ≠ 0 by omega)
  have g2 := Int.emod_lt_of_pos x (show 0 < n by omega)
  by_cases hneg : x.tmod n < 0
  · have e1 : Hid (wrap64 (x.tmod n + n) = x % n) := by rw [tmod_neg h1 hneg]; exact wrap64_small (by omega) (by omega)
    clear g1 g2
    go_enter Tryz.func10, Tryz.ntmps10
    go_wp2
    go_ret
    exact ⟨ret_int e1.out, rfl⟩
  · have e1 : Hid (x.tmod n = x % n) := tmod_pos h1 (by omega)
    clear g1 g2
    go_enter Tryz.func10, Tryz.ntmps10
    go_wp2
    go_ret
    exact ⟨ret_int e1.out, rfl⟩


theorem own_row {w0 w : World} {v : Value} {n : Nat} {l : List UInt8} (h : Own w0 w v n (arr l).toList) (hl : l.length = n) (h0 : 0 < n) : ∃ g cap, v = .slice (some ⟨g, 0, none⟩) n cap ∧ RowB w g cap l ∧ w0.heap.size ≤ g := by
  rcases h.1.2 with ⟨_, hn⟩ | ⟨g, cap, cur, rfl, hb, hg, hnc, _, hcs, ht⟩
  · omega
  · refine ⟨g, cap, rfl, ⟨cur.toList.drop n, ?_, ?_⟩, hb⟩
    · rw [hg]
      refine congrArg (fun z => some (Obj.cells z 5)) (Array.ext' ?_)
      have h2 : cur.toList.take n = (arr l).toList := by simpa using ht
      rw [← h2]
      simp
    · have e1 : cur.toList.length = cur.size := rfl
      rw [List.length_drop, hl]
      omega

theorem own_none (w : World) : Own w w (.slice none 0 0) 0 [] := ⟨⟨rfl, Or.inl ⟨rfl, rfl⟩⟩, Fr.refl _ _⟩

set_option maxHeartbeats 400000 in
set_option maxRecDepth 100000 in
theorem copyBytes_any (w : World) (ad : Option Addr) (n c : Nat) (l : List UInt8) (hl : l.length = n) (hb : BytesAt w ad l) (hn : n ≤ 100000) (hz : ad = none → n = 0 ∧ c = 0) :
    Calls Tryz.prog 8 #[.slice ad n c] w fun e w' => ∃ v, e = .returned v ∧ Own w w' v n (arr l).toList := by
  obtain ⟨i, hi, hzz, hss, hbb⟩ := info5'
  have HL := hidI hl
  clear hl
  cases ad with
  | none =>
    obtain ⟨rfl, rfl⟩ := hz rfl
    obtain rfl : l = [] := List.eq_nil_of_length_eq_zero HL.out
    have o1 := own_none w
    go_enter Tryz.func8, Tryz.ntmps8
    go_wp2_with (refine wpList_append_own_none rfl _ _ 23 rfl w.heap.size 5 i 1 Tryz.underlying23 hi _ 0 [] rfl o1.1 rfl ?_)
    go_ret
    exact ⟨_, rfl, by simpa [arr] using o1⟩
  | some a0 =>
    go_enter Tryz.func8, Tryz.ntmps8
    go_wp2_with (refine wp_app rfl _ _ rfl w _ 0 [] rfl (own_none w) _ n _ l rfl HL.out hb (by omega) (fun _ => ⟨_, rfl⟩) ?_; intro v2 w2 o2)
    go_ret
    refine ⟨_, rfl, ?_⟩
    rw [Nat.zero_add, List.nil_append] at o2
    exact o2

theorem own_keptL {w w' : World} {base : Nat} {v : Value} {n : Nat} {xs : List Value} {L : List Nat} (h : w.ownsRow base 5 1 v n xs) (f : Fr L w w') (hL : ∀ g ∈ L, g < base) : w'.ownsRow base 5 1 v n xs := by
  obtain ⟨h1, h2⟩ := h
  refine ⟨h1, ?_⟩
  rcases h2 with hn | ⟨g, cap, cur, rfl, hb, hg, r⟩
  · exact Or.inl hn
  · exact Or.inr ⟨g, cap, cur, rfl, hb, f.same (fun hm => by have := hL g hm; omega) hg, r⟩
theorem own_low {w : World} {base base' : Nat} {v : Value} {n : Nat} {xs : List Value} (h : w.ownsRow base 5 1 v n xs) (hle : base' ≤ base) : w.ownsRow base' 5 1 v n xs := by
  obtain ⟨h1, h2⟩ := h
  refine ⟨h1, ?_⟩
  rcases h2 with hn | ⟨g, cap, cur, rfl, hb, hg, r⟩
  · exact Or.inl hn
  · exact Or.inr ⟨g, cap, cur, rfl, by omega, hg, r⟩
/-- A row of one's own, as bytes somewhere. -/
theorem own_is {w : World} {base n : Nat} {v : Value} {l : List UInt8} (h : w.ownsRow base 5 1 v n (arr l).toList) (hl : l.length = n) : ∃ ad c, v = .slice ad n c ∧ BytesAt w ad l ∧ (ad = none → n = 0 ∧ c = 0) ∧ (∀ a, ad = some a → base ≤ a.block ∧ a.block < w.heap.size ∧ a = ⟨a.block, 0, none⟩) ∧ n ≤ c := by
  rcases h.2 with ⟨rfl, h0⟩ | ⟨g, cap, cur, rfl, hb, hg, hcap, hmx, hsz, htk⟩
  · subst h0
    obtain rfl : l = [] := List.eq_nil_of_length_eq_zero hl
    exact ⟨none, 0, rfl, BytesAt.nil _ _, fun _ => ⟨rfl, rfl⟩, fun a e => (nomatch e), Nat.le_refl _⟩
  · refine ⟨_, cap, rfl, ?_, fun e => (nomatch e), fun a e => ?_, by omega⟩
    · intro j u hu
      refine ⟨g, 0, rfl, ?_⟩
      rw [Nat.zero_add, cell_of_row w g j _ _ _ hg]
      have hj : j < n := by
        have := (List.getElem?_eq_some_iff.1 hu).1
        simp [arr, hl] at this
        omega
      rw [← hu, ← htk, List.getElem?_take]
      simp [hj]
    · cases e
      exact ⟨hb, (Array.getElem?_eq_some_iff.1 hg).1, rfl⟩

/-- A record whose lists are rows of one's own, apart. -/
structure OwnR (base : Nat) (w : World) (r : Rec) (s : Spots) : Prop where
  o : w.ownsRow base 5 1 (.slice s.a1 r.old.length s.c1) r.old.length (arr r.old).toList
  n : w.ownsRow base 5 1 (.slice s.a2 r.new.length s.c2) r.new.length (arr r.new).toList
  ne : ∀ a b, s.a1 = some a → s.a2 = some b → a.block ≠ b.block
theorem OwnR.spots {base : Nat} {w : World} {r : Rec} {s : Spots} (h : OwnR base w r s) : SpotsAt w r s := by
  obtain ⟨ad, c, e, hb, hz, -⟩ := own_is h.o rfl
  obtain ⟨ad', c', e', hb', hz', -⟩ := own_is h.n rfl
  cases e
  cases e'
  exact ⟨hb, hb', hz, hz'⟩
theorem OwnR.kept {base : Nat} {w w' : World} {r : Rec} {s : Spots} {L : List Nat} (h : OwnR base w r s) (f : Fr L w w') (hL : ∀ g ∈ L, g < base) : OwnR base w' r s :=
  ⟨own_keptL h.o f hL, own_keptL h.n f hL, h.ne⟩
theorem OwnR.low {base base' : Nat} {w : World} {r : Rec} {s : Spots} (h : OwnR base w r s) (hle : base' ≤ base) : OwnR base' w r s := ⟨own_low h.o hle, own_low h.n hle, h.ne⟩

set_option maxHeartbeats 1000000 in
set_option maxRecDepth 100000 in
theorem copySpan_any (w : World) (r : Rec) (s : Spots) (hs : SpotsAt w r s) (h1 : r.old.length ≤ 100000) (h2 : r.new.length ≤ 100000) :
    Calls Tryz.prog 21 #[.agg (spanV r s)] w fun e w' => ∃ t, e = .returned (.agg (spanV r t)) ∧ OwnR w.heap.size w' r t ∧ Fr [] w w' := by
  have p1 : PBox ((w.alloc (.cells (spanV r s) 25)).alloc (.cells #[.int .i64 0, .int .i64 0, .slice none 0 0, .slice none 0 0] 25)) w.heap.size r s := heap_alloc2_old w _ _
  have p2 : PBox ((w.alloc (.cells (spanV r s) 25)).alloc (.cells #[.int .i64 0, .int .i64 0, .slice none 0 0, .slice none 0 0] 25)) (w.heap.size + 1) (zeroR 0 0) zeroS := heap_alloc2_new w _ _
  have f2 : Fr [] w ((w.alloc (.cells (spanV r s) 25)).alloc (.cells #[.int .i64 0, .int .i64 0, .slice none 0 0, .slice none 0 0] 25)) := kept_two _ _
  have HS := hidI hs
  clear hs
  have x2 := p1.c2
  go_enter Tryz.func21, Tryz.ntmps21
  generalize hA : (w.alloc (.cells (spanV r s) 25)).alloc (.cells #[.int .i64 0, .int .i64 0, .slice none 0 0, .slice none 0 0] 25) = w2 at p1 p2 f2 x2
  go_wp2_with fail
  have S2 := HS.out.kept f2
  refine (copyBytes_any w2 s.a1 r.old.length s.c1 r.old rfl S2.b1 h1 S2.n1).mono ?_
  rintro e w3 ⟨v1, rfl, o1⟩
  have f3 := o1.2
  obtain ⟨a1, c1, rfl, -, -, n1, -⟩ := own_is o1.1 rfl
  have q1 := p1.kept f3 (by simp)
  have q2 := p2.kept f3 (by simp)
  have F3 := f2.trans f3
  have hz : w.heap.size < w2.heap.size := (Array.getElem?_eq_some_iff.1 p1).1
  have hz' : w.heap.size + 1 < w2.heap.size := (Array.getElem?_eq_some_iff.1 p2).1
  clear p1 p2 x2 hA S2
  have x2 := q1.c2
  have z2 := q1.fz 2
  obtain ⟨w4, hw4⟩ : ∃ w4, w3.setCell ⟨w.heap.size, 2, none⟩ (.slice a1 r.old.length c1) = w4 := ⟨_, rfl⟩
  have f4 : Fr [w.heap.size] w3 w4 := by rw [← hw4]; exact fr_set w3 _ 2 _
  have r1 := q1.t2 a1 c1
  rw [hw4] at r1
  have r2 := q2.kept f4 (by simp)
  have L4 := own_keptL o1.1 f4 (fun g hg => by simp at hg; omega)
  have F4 := F3.then f4 (fun i hi hm => by simp at hm; omega)
  have x3 := r1.c3
  have hs3 : w3.heap.size ≤ w4.heap.size := f4.size
  go_wp2_with fail
  have S4 := HS.out.kept F4
  refine (copyBytes_any w4 s.a2 r.new.length s.c2 r.new rfl S4.b2 h2 S4.n2).mono ?_
  rintro e w5 ⟨v2, rfl, o2⟩
  have f5 := o2.2
  obtain ⟨a2, c2, rfl, -, -, n2, -⟩ := own_is o2.1 rfl
  have t1 := r1.kept f5 (by simp)
  have t2 := r2.kept f5 (by simp)
  have L5 := own_keptL L4 f5 (fun g hg => nomatch hg)
  have F5 := F4.trans f5
  have hz4 : w.heap.size < w4.heap.size := (Array.getElem?_eq_some_iff.1 r1).1
  have hz4' : w.heap.size + 1 < w4.heap.size := (Array.getElem?_eq_some_iff.1 r2).1
  clear x2 z2 x3 hw4 r1 r2 L4 q1 q2
  have x3 := t1.c3
  have z3 := t1.fz 3
  obtain ⟨w6, hw6⟩ : ∃ w6, w5.setCell ⟨w.heap.size, 3, none⟩ (.slice a2 r.new.length c2) = w6 := ⟨_, rfl⟩
  have f6 : Fr [w.heap.size] w5 w6 := by rw [← hw6]; exact fr_set w5 _ 3 _
  have u1 := t1.t3 a2 c2
  rw [hw6] at u1
  have u2 := t2.kept f6 (by simp)
  have L6 := own_keptL L5 f6 (fun g hg => by simp at hg; omega)
  have M6 := own_keptL o2.1 f6 (fun g hg => by simp at hg; omega)
  have F6 := F5.then f6 (fun i hi hm => by simp at hm; omega)
  go_wp2_with (first
    | (refine wpList_load_row rfl 25 _ rfl w.heap.size rfl _ _ _ _ u1 Tryz.underlying25 rfl (by rw [sizeP]; rfl) ?_)
    | (refine wp_storeP rfl _ _ rfl (w.heap.size + 1) _ r _ _ rfl rfl u2 ?_; intro w7 v7 f7))
  refine bodyPost_ret (resP1 rfl _ _ (w.heap.size + 1) r _ rfl v7) rfl ⟨_, rfl, ⟨own_low (own_keptL L6 f7 ?_) (by omega), own_low (own_keptL M6 f7 ?_) (by omega), fun a b e1 e2 => ?_⟩, F6.then f7 (fun i hi hm => by simp at hm; omega)⟩
  · intro g hg; simp at hg; omega
  · intro g hg; simp at hg; omega
  · have m1 := (n1 a e1).2.1
    have m2 := (n2 b e2).1
    omega

set_option maxHeartbeats 1000000 in
set_option maxRecDepth 100000 in
theorem copyRec_any (w : World) (r : Rec) (s : Spots) (hs : SpotsAt w r s) (h1 : r.old.length ≤ 100000) (h2 : r.new.length ≤ 100000) :
    Calls Tryz.prog 5 #[.agg (recV r s)] w fun e w' => ∃ t, e = .returned (.agg (recV r t)) ∧ OwnR w.heap.size w' r t ∧ Fr [] w w' := by
  have p1 : RBox ((w.alloc (.cells (recV r s) 27)).alloc (.cells #[.int .i64 0, .int .i64 0, .int .u8 0, .int .i64 0, .int .i64 0, .int .i64 0, .int .i64 0, .int .i64 0, .slice none 0 0, .slice none 0 0] 27)) w.heap.size r s := heap_alloc2_old w _ _
  have p2 : RBox ((w.alloc (.cells (recV r s) 27)).alloc (.cells #[.int .i64 0, .int .i64 0, .int .u8 0, .int .i64 0, .int .i64 0, .int .i64 0, .int .i64 0, .int .i64 0, .slice none 0 0, .slice none 0 0] 27)) (w.heap.size + 1) (zeroR 0 0) zeroS := heap_alloc2_new w _ _
  have f2 : Fr [] w ((w.alloc (.cells (recV r s) 27)).alloc (.cells #[.int .i64 0, .int .i64 0, .int .u8 0, .int .i64 0, .int .i64 0, .int .i64 0, .int .i64 0, .int .i64 0, .slice none 0 0, .slice none 0 0] 27)) := kept_two _ _
  have HS := hidI hs
  clear hs
  have x6 := p1.c6
  have x7 := p1.c7
  have x8 := p1.c8
  have x9 := p1.c9
  go_enter Tryz.func5, Tryz.ntmps5
  generalize hA : (w.alloc (.cells (recV r s) 27)).alloc (.cells #[.int .i64 0, .int .i64 0, .int .u8 0, .int .i64 0, .int .i64 0, .int .i64 0, .int .i64 0, .int .i64 0, .slice none 0 0, .slice none 0 0] 27) = w2 at p1 p2 f2 x6 x7 x8 x9
  go_wp2_with fail
  refine (copySpan_any w2 r s (HS.out.kept f2) h1 h2).mono ?_
  rintro e w3 ⟨t, rfl, L3, f3⟩
  have hsz : w.heap.size + 1 < w2.heap.size := (Array.getElem?_eq_some_iff.1 p2).1
  have q1 := p1.kept f3 (by simp)
  have q2 := p2.kept f3 (by simp)
  have F3 := f2.trans f3
  clear p1 p2 x6 x7 x8 x9 hA
  have z6 := q1.fz 6
  have z7 := q1.fz 7
  have z8 := q1.fz 8
  have z9 := q1.fz 9
  have x6 := q1.c6
  have x7 := q1.c7
  have x8 := q1.c8
  have x9 := q1.c9
  obtain ⟨w4, hw4⟩ : ∃ w4, ((((w3.setCell ⟨w.heap.size, 6, none⟩ (.int .i64 r.block)).setCell ⟨w.heap.size, 7, none⟩ (.int .i64 r.off)).setCell ⟨w.heap.size, 8, none⟩ (.slice t.a1 r.old.length t.c1)).setCell ⟨w.heap.size, 9, none⟩ (.slice t.a2 r.new.length t.c2)) = w4 := ⟨_, rfl⟩
  have f4 : Fr [w.heap.size] w3 w4 := by rw [← hw4]; exact (((fr_set _ _ 6 _).trans (fr_set _ _ 7 _)).trans (fr_set _ _ 8 _)).trans (fr_set _ _ 9 _)
  have u4 : RBox w4 w.heap.size r t := by rw [← hw4]; exact (((q1.s6 r.block).s7 r.off).t8 t.a1 r.old _ t.c1 rfl).t9 t.a2 r.new _ t.c2 rfl
  have v4 := q2.kept f4 (by simp)
  have L4 := hidI (L3.kept f4 (fun g hg => by simp at hg; omega))
  have F4 := F3.then f4 (fun i hi hm => by simp at hm; omega)
  unfold spanV
  go_wp2_with (first
    | (refine wpList_load_row rfl 27 _ rfl w.heap.size rfl _ _ _ _ u4 Tryz.underlying27 rfl (by rw [sizeR]; rfl) ?_)
    | (refine wp_storeR rfl _ _ rfl (w.heap.size + 1) _ r _ _ rfl rfl v4 ?_; intro w7 v7 f7))
  exact bodyPost_ret (resR1' rfl _ _ (w.heap.size + 1) r t rfl v7) rfl ⟨t, rfl, (L4.out.kept f7 (fun g hg => by simp at hg; omega)).low (by omega), F4.then f7 (fun i hi hm => by simp at hm; omega)⟩

end Go.Proofs.YticmjdblcomecaaGreat

namespace Go.Proofs.YticmjdblcomecaaGreat
open Go.RowKit Go.Maps

theorem Blk.own {w : World} {g : Nat} {l : List UInt8} (h : Blk w g l) (hm : l.length ≤ 1000000) : w.ownsRow 0 5 1 (.slice (some ⟨g, 0, none⟩) l.length l.length) l.length (arr l).toList :=
  ⟨by simp [arr], Or.inr ⟨g, l.length, arr l, rfl, Nat.zero_le _, h, Nat.le_refl _, by unfold maxLen; omega, by simp [arr_size], List.take_of_length_le (by simp [arr])⟩⟩
theorem ownB_kept {w w' : World} {v : Value} {n : Nat} {xs : List Value} (h : w.ownsRow 0 5 1 v n xs) (k : Fr [] w w') : w'.ownsRow 0 5 1 v n xs := by
  obtain ⟨h1, h2⟩ := h
  refine ⟨h1, ?_⟩
  rcases h2 with hn | ⟨g, cap, cur, rfl, hb, hg, r⟩
  · exact Or.inl hn
  · exact Or.inr ⟨g, cap, cur, rfl, hb, k.same (by simp) hg, r⟩
theorem fr_ab {L : List Nat} {a b : World} (h : Ab.Fr L a b) : Fr L a b := ⟨h.os, h.tape, h.output, h.size, h.block⟩

/-- A list of bytes: where it lies, its length, its room. -/
abbrev Spot := Option Addr × Nat × Nat
def Spot.val (s : Spot) : Value := .slice s.1 s.2.1 s.2.2
def blocksOf (vs : List Spot) : List Nat := vs.flatMap fun s => s.val.ownBlock.toList
theorem blocks_mem {vs : List Spot} {g : Nat} : g ∈ blocksOf vs ↔ ∃ s ∈ vs, s.val.ownBlock = some g := by
  simp [blocksOf]

/-- Lists of bytes that lie apart, in a new table. -/
theorem lists_of {w : World} (vs : List Spot) (tab : Array Value) (htab : tab = (vs.map Spot.val).toArray) (hK : vs.length ≤ 50) (hn : ∀ s ∈ vs, s.2.1 ≤ 100000) (hown : ∀ s ∈ vs, ∃ xs : List Value, xs.length = s.2.1 ∧ w.ownsRow 0 5 1 s.val s.2.1 xs)
    (hap : vs.Pairwise fun s t => ∀ g, s.val.ownBlock = some g → t.val.ownBlock ≠ some g) :
    Ab.Lists (w.alloc (.cells tab 23)) (blocksOf vs) vs.length w.heap.size (fun j => (vs.getD j (none, 0, 0)).1) (fun j => (vs.getD j (none, 0, 0)).2.1) (fun j => (vs.getD j (none, 0, 0)).2.2) := by
  subst htab
  have hget : ∀ j, (hj : j < vs.length) → vs.getD j (none, 0, 0) = vs[j] := fun j hj => by simp [hj]
  have hlt : ∀ g ∈ blocksOf vs, g < w.heap.size := by
    intro g hg
    obtain ⟨s, hs, hb⟩ := blocks_mem.1 hg
    obtain ⟨xs, _, ho⟩ := hown s hs
    rcases ho.2 with ⟨e, _⟩ | ⟨g', _, cur, e, _, hh, _⟩
    · rw [e] at hb; cases hb
    · rw [e] at hb
      have : g' = g := by simpa [Value.ownBlock] using hb
      subst this
      exact (Array.getElem?_eq_some_iff.1 hh).1
  refine ⟨hK, ?_, ?_, ?_, ?_, ?_, ?_⟩
  · intro j hj
    simp only [hget j hj]
    exact hn _ (List.getElem_mem hj)
  · intro j hj
    simp only [hget j hj]
    rw [cell_of_row _ _ _ _ _ _ (heap_alloc_new w _)]
    simp [hj, Spot.val]
  · intro j hj
    simp only [hget j hj]
    obtain ⟨xs, h1, h2⟩ := hown _ (List.getElem_mem hj)
    exact ⟨xs, h1, ownB_kept h2 ((Fr.refl [] w).alloc _)⟩
  · intro i j hi hj hij g
    simp only [hget i hi, hget j hj]
    rcases Nat.lt_or_gt_of_ne hij with k | k
    · exact (List.pairwise_iff_getElem.1 hap i j hi hj k) g
    · exact fun e1 e2 => (List.pairwise_iff_getElem.1 hap j i hj hi k) g e2 e1
  · intro j hj g
    simp only [hget j hj]
    exact fun e => blocks_mem.2 ⟨_, List.getElem_mem hj, e⟩
  · intro h
    have := hlt _ h
    omega
/-- Six lists of bytes: a row of one's own each, in other blocks. -/
theorem six_apart {w : World} {a1 a2 a3 a4 a5 a6 : Option Addr} {n1 n2 n3 n4 n5 n6 c1 c2 c3 c4 c5 c6 B : Nat} (hn1 : n1 ≤ 100000) (hn2 : n2 ≤ 100000) (hn3 : n3 ≤ 100000) (hn4 : n4 ≤ 100000) (hn5 : n5 ≤ 100000) (hn6 : n6 ≤ 100000)
    (o1 : ∃ xs : List Value, xs.length = n1 ∧ w.ownsRow 0 5 1 (.slice a1 n1 c1) n1 xs) (o2 : ∃ xs : List Value, xs.length = n2 ∧ w.ownsRow 0 5 1 (.slice a2 n2 c2) n2 xs) (o3 : ∃ xs : List Value, xs.length = n3 ∧ w.ownsRow 0 5 1 (.slice a3 n3 c3) n3 xs) (o4 : ∃ xs : List Value, xs.length = n4 ∧ w.ownsRow 0 5 1 (.slice a4 n4 c4) n4 xs) (o5 : ∃ xs : List Value, xs.length = n5 ∧ w.ownsRow 0 5 1 (.slice a5 n5 c5) n5 xs) (o6 : ∃ xs : List Value, xs.length = n6 ∧ w.ownsRow 0 5 1 (.slice a6 n6 c6) n6 xs)
    (b1 : ∀ g, (Value.slice a1 n1 c1).ownBlock = some g → B ≤ g) (b2 : ∀ g, (Value.slice a2 n2 c2).ownBlock = some g → B ≤ g) (b3 : ∀ g, (Value.slice a3 n3 c3).ownBlock = some g → B ≤ g) (b4 : ∀ g, (Value.slice a4 n4 c4).ownBlock = some g → B ≤ g) (b5 : ∀ g, (Value.slice a5 n5 c5).ownBlock = some g → B ≤ g) (b6 : ∀ g, (Value.slice a6 n6 c6).ownBlock = some g → B ≤ g)
    (d12 : ∀ g, (Value.slice a1 n1 c1).ownBlock = some g → (Value.slice a2 n2 c2).ownBlock ≠ some g) (d13 : ∀ g, (Value.slice a1 n1 c1).ownBlock = some g → (Value.slice a3 n3 c3).ownBlock ≠ some g) (d14 : ∀ g, (Value.slice a1 n1 c1).ownBlock = some g → (Value.slice a4 n4 c4).ownBlock ≠ some g) (d15 : ∀ g, (Value.slice a1 n1 c1).ownBlock = some g → (Value.slice a5 n5 c5).ownBlock ≠ some g) (d16 : ∀ g, (Value.slice a1 n1 c1).ownBlock = some g → (Value.slice a6 n6 c6).ownBlock ≠ some g) (d23 : ∀ g, (Value.slice a2 n2 c2).ownBlock = some g → (Value.slice a3 n3 c3).ownBlock ≠ some g) (d24 : ∀ g, (Value.slice a2 n2 c2).ownBlock = some g → (Value.slice a4 n4 c4).ownBlock ≠ some g) (d25 : ∀ g, (Value.slice a2 n2 c2).ownBlock = some g → (Value.slice a5 n5 c5).ownBlock ≠ some g) (d26 : ∀ g, (Value.slice a2 n2 c2).ownBlock = some g → (Value.slice a6 n6 c6).ownBlock ≠ some g) (d34 : ∀ g, (Value.slice a3 n3 c3).ownBlock = some g → (Value.slice a4 n4 c4).ownBlock ≠ some g) (d35 : ∀ g, (Value.slice a3 n3 c3).ownBlock = some g → (Value.slice a5 n5 c5).ownBlock ≠ some g) (d36 : ∀ g, (Value.slice a3 n3 c3).ownBlock = some g → (Value.slice a6 n6 c6).ownBlock ≠ some g) (d45 : ∀ g, (Value.slice a4 n4 c4).ownBlock = some g → (Value.slice a5 n5 c5).ownBlock ≠ some g) (d46 : ∀ g, (Value.slice a4 n4 c4).ownBlock = some g → (Value.slice a6 n6 c6).ownBlock ≠ some g) (d56 : ∀ g, (Value.slice a5 n5 c5).ownBlock = some g → (Value.slice a6 n6 c6).ownBlock ≠ some g) :
    Calls Tryz.prog 11 #[.slice (some ⟨w.heap.size, 0, none⟩) 6 6] (w.alloc (.cells #[.slice a1 n1 c1, .slice a2 n2 c2, .slice a3 n3 c3, .slice a4 n4 c4, .slice a5 n5 c5, .slice a6 n6 c6] 23)) fun e w' => e = .returned (.bool true) ∧ ∃ G, (∀ g ∈ G, B ≤ g) ∧ Fr G (w.alloc (.cells #[.slice a1 n1 c1, .slice a2 n2 c2, .slice a3 n3 c3, .slice a4 n4 c4, .slice a5 n5 c5, .slice a6 n6 c6] 23)) w' := by
  have L := lists_of (w := w) [(a1, n1, c1), (a2, n2, c2), (a3, n3, c3), (a4, n4, c4), (a5, n5, c5), (a6, n6, c6)] #[.slice a1 n1 c1, .slice a2 n2 c2, .slice a3 n3 c3, .slice a4 n4 c4, .slice a5 n5 c5, .slice a6 n6 c6] rfl (by simp) (by intro s hs; simp at hs; rcases hs with rfl | rfl | rfl | rfl | rfl | rfl <;> assumption) (by intro s hs; simp at hs; rcases hs with rfl | rfl | rfl | rfl | rfl | rfl <;> assumption)
    (by
      simp only [List.pairwise_cons, List.mem_cons, List.not_mem_nil, or_false, forall_eq_or_imp, forall_eq, Spot.val]
      exact ⟨⟨d12, d13, d14, d15, d16⟩, ⟨d23, d24, d25, d26⟩, ⟨d34, d35, d36⟩, ⟨d45, d46⟩, d56, by simp⟩)
  have hB : ∀ g ∈ blocksOf [(a1, n1, c1), (a2, n2, c2), (a3, n3, c3), (a4, n4, c4), (a5, n5, c5), (a6, n6, c6)], B ≤ g := by
    intro g hg
    obtain ⟨s, hs, hb⟩ := blocks_mem.1 hg
    simp at hs
    rcases hs with rfl | rfl | rfl | rfl | rfl | rfl
    · exact b1 g hb
    · exact b2 g hb
    · exact b3 g hb
    · exact b4 g hb
    · exact b5 g hb
    · exact b6 g hb
  have hlt : ∀ g ∈ blocksOf [(a1, n1, c1), (a2, n2, c2), (a3, n3, c3), (a4, n4, c4), (a5, n5, c5), (a6, n6, c6)], g < (w.alloc (.cells #[.slice a1 n1 c1, .slice a2 n2 c2, .slice a3 n3 c3, .slice a4 n4 c4, .slice a5 n5 c5, .slice a6 n6 c6] 23)).heap.size := by
    intro g hg
    obtain ⟨s, hs, hb⟩ := blocks_mem.1 hg
    have key : ∀ (a : Option Addr) (n c : Nat), (∃ xs : List Value, xs.length = n ∧ w.ownsRow 0 5 1 (.slice a n c) n xs) → (Value.slice a n c).ownBlock = some g → g < w.heap.size := by
      rintro a n c ⟨xs, _, ho⟩ hb
      exact (ho.lt g hb).2
    have : g < w.heap.size := by
      simp at hs
      rcases hs with rfl | rfl | rfl | rfl | rfl | rfl
      · exact key _ _ _ o1 hb
      · exact key _ _ _ o2 hb
      · exact key _ _ _ o3 hb
      · exact key _ _ _ o4 hb
      · exact key _ _ _ o5 hb
      · exact key _ _ _ o6 hb
    simp
    omega
  refine (Ab.apartBytes_any _ _ 6 _ 6 _ _ _ L (by omega) hlt).mono ?_
  rintro e w' ⟨rfl, f⟩
  exact ⟨rfl, _, hB, fr_ab f⟩

theorem cop_own {w0 w : World} {ad : Option Addr} {l : List UInt8} (h : CopAt w0 w ad l) (hm : l.length ≤ 1000000) : w.ownsRow w0.heap.size 5 1 (.slice ad l.length l.length) l.length (arr l).toList := by
  cases ad with
  | none =>
    have e0 : l = [] := List.eq_nil_of_length_eq_zero (h.nil rfl)
    subst e0
    exact ⟨rfl, Or.inl ⟨rfl, rfl⟩⟩
  | some a =>
    obtain ⟨g, rfl, hb, hk, -⟩ := h.at' a rfl
    exact ⟨by simp [arr], Or.inr ⟨g, l.length, arr l, rfl, hb, hk, Nat.le_refl _, by unfold maxLen; omega, by simp [arr_size], List.take_of_length_le (by simp [arr])⟩⟩
theorem newSpots_own {w0 w : World} {r : Rec} {s : Spots} (h : NewSpots w0 w r s) (h1 : r.old.length ≤ 1000000) (h2 : r.new.length ≤ 1000000) : OwnR w0.heap.size w r s := by
  refine ⟨?_, ?_, h.ne⟩
  · rw [h.c1]; exact cop_own h.o h1
  · rw [h.c2]; exact cop_own h.n h2

end Go.Proofs.YticmjdblcomecaaGreat

