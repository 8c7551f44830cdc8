/-
  PageTells: the law, for whatever comes in.
-/
import Derived.Test.YtlfpoeimgoikkaaGTellsB
import Derived.Test.YtlfpoeimgoikkaaGLent
namespace Go.Proofs.Ytlfpoeimgoikkaa
open Go.RowKit Go.Maps

theorem GotTo.spot {w w' : World} {l : List UInt8} {s : Int} {v : Value} {b : Bool} {cell : List UInt8} (h : GotTo w w' l s v b cell) :
    ∃ ad n c, v = .slice ad n c ∧ n ≤ 506 ∧ (∃ xs : List Value, xs.length = n ∧ w'.ownsRow 0 5 1 (.slice ad n c) n xs) ∧ (∀ g, (Value.slice ad n c).ownBlock = some g → w.heap.size ≤ g ∧ g < w'.heap.size) ∧ Fr [] w w' := by
  cases h with
  | no hs f => exact ⟨none, 0, 0, rfl, by omega, ⟨[], rfl, World.ownsRow_nil _ _ _ _⟩, fun g hg => by simp [Value.ownBlock] at hg, f⟩
  | yes S b _ hs hc hb hn f =>
    have hcl : cell.length ≤ 506 := by
      rcases page_or l with ⟨hp, hk⟩ | ⟨cs, hp, hk, pg⟩
      · rw [cells_none hp] at hc; simp at hc
      · rw [cells_some hp] at hc
        obtain ⟨hlt, he⟩ := List.getElem?_eq_some_iff.1 hc
        have := delC_elen cs S hlt
        rw [he] at this
        have := pg.fits
        omega
    refine ⟨some ⟨b, 0, none⟩, cell.length, cell.length, rfl, hcl, ⟨(arr cell).toList, by simp [arr], hb.own (by omega)⟩, fun g hg => ?_, f⟩
    have : b = g := by simpa [Value.ownBlock] using hg
    subst this
    exact ⟨hn, hb.lt⟩

theorem three_apart {w : World} {a1 a2 a3 : Option Addr} {n1 n2 n3 c1 c2 c3 B1 B2 B3 B4 : Nat} (hn1 : n1 ≤ 100000) (hn2 : n2 ≤ 100000) (hn3 : n3 ≤ 100000)
    (o1 : ∃ xs : List Value, xs.length = n1 ∧ w.ownsRow 0 5 1 (.slice a1 n1 c1) n1 xs) (o2 : ∃ xs : List Value, xs.length = n2 ∧ w.ownsRow 0 5 1 (.slice a2 n2 c2) n2 xs) (o3 : ∃ xs : List Value, xs.length = n3 ∧ w.ownsRow 0 5 1 (.slice a3 n3 c3) n3 xs)
    (b1 : ∀ g, (Value.slice a1 n1 c1).ownBlock = some g → B2 ≤ g ∧ g < B3) (b2 : ∀ g, (Value.slice a2 n2 c2).ownBlock = some g → B3 ≤ g ∧ g < B4) (b3 : ∀ g, (Value.slice a3 n3 c3).ownBlock = some g → B1 ≤ g ∧ g < B2) (h12 : B1 ≤ B2) (h23 : B2 ≤ B3) :
    Calls Try.prog 14 #[.slice (some ⟨w.heap.size, 0, none⟩) 3 3] (w.alloc (.cells #[.slice a1 n1 c1, .slice a2 n2 c2, .slice a3 n3 c3] 22)) fun e w' => e = .returned (.bool true) ∧ ∃ G, (∀ g ∈ G, B1 ≤ g) ∧ Fr G (w.alloc (.cells #[.slice a1 n1 c1, .slice a2 n2 c2, .slice a3 n3 c3] 22)) w' := by
  have L := lists_of (w := w) [(a1, n1, c1), (a2, n2, c2), (a3, n3, c3)] #[.slice a1 n1 c1, .slice a2 n2 c2, .slice a3 n3 c3] rfl (by simp) (by intro s hs; simp at hs; rcases hs with rfl | rfl | rfl <;> assumption) (by intro s hs; simp at hs; rcases hs with rfl | rfl | rfl <;> assumption)
    (by
      simp only [List.pairwise_cons, List.mem_cons, List.not_mem_nil, or_false, forall_eq_or_imp, forall_eq, Spot.val]
      refine ⟨⟨fun g e1 e2 => ?_, fun g e1 e2 => ?_⟩, fun g e1 e2 => ?_, by simp⟩
      · have := b1 g e1; have := b2 g e2; omega
      · have := b1 g e1; have := b3 g e2; omega
      · have := b2 g e1; have := b3 g e2; omega)
  have hB : ∀ g ∈ blocksOf [(a1, n1, c1), (a2, n2, c2), (a3, n3, c3)], B1 ≤ g := by
    intro g hg
    obtain ⟨s, hs, hb⟩ := blocks_mem.1 hg
    simp at hs
    rcases hs with rfl | rfl | rfl
    · have := b1 g hb; omega
    · have := b2 g hb; omega
    · have := b3 g hb; omega
  have hlt : ∀ g ∈ blocksOf [(a1, n1, c1), (a2, n2, c2), (a3, n3, c3)], g < (w.alloc (.cells #[.slice a1 n1 c1, .slice a2 n2 c2, .slice a3 n3 c3] 22)).heap.size := by
    intro g hg
    obtain ⟨s, hs, hb⟩ := blocks_mem.1 hg
    have key : ∀ (a : Option Addr) (n c : Nat), (∃ xs : List Value, xs.length = n ∧ w.ownsRow 0 5 1 (.slice a n c) n xs) → (Value.slice a n c).ownBlock = some g → g < w.heap.size := by
      rintro a n c ⟨xs, _, ho⟩ hb
      rcases ho.2 with ⟨e, _⟩ | ⟨g', _, cur, e, _, hh, _⟩
      · rw [e] at hb; cases hb
      · rw [e] at hb
        have : g' = g := by simpa [Value.ownBlock] using hb
        subst this
        exact (Array.getElem?_eq_some_iff.1 hh).1
    have : g < w.heap.size := by
      simp at hs
      rcases hs with rfl | rfl | rfl
      · exact key _ _ _ o1 hb
      · exact key _ _ _ o2 hb
      · exact key _ _ _ o3 hb
    simp
    omega
  refine (Ab.apartBytes_any _ _ 3 _ 3 _ _ _ L (by omega) hlt).mono ?_
  rintro e w' ⟨rfl, f⟩
  exact ⟨rfl, _, hB, fr_ab f⟩

set_option maxHeartbeats 400000 in
set_option maxRecDepth 100000 in
theorem tells_long (w : World) (ad : Option Addr) (n c : Nat) (s : Int) (hn : 5000 < n) (hs : n < 9223372036854775808) :
    Calls Try.prog 3 #[.slice ad n c, .int .i64 s] w fun e w' => e = .returned (.bool true) ∧ Fr [] w w' := by
  have hn' : (5000 : Int) < n := by omega
  go_enter Try.func3, Try.ntmps3
  go_wp2_with fail
  refine (awake_any _).mono ?_
  rintro e w1 ⟨rfl, f1⟩
  go_wp2_with fail
  go_ret
  exact ⟨rfl, f1⟩

set_option maxHeartbeats 2000000 in
set_option maxRecDepth 100000 in
theorem tells_short (w : World) (ad : Option Addr) (n c : Nat) (l : List UInt8) (s : Int) (h : SlAt w ad n c l) (hn : n ≤ 5000) (hz : ad = none → c = 0) :
    Calls Try.prog 3 #[.slice ad n c, .int .i64 s] w fun e w' => e = .returned (.bool true) ∧ Fr [] w w' := by
  have hn' : ¬ (5000 : Int) < n := by omega
  have H := hidI h
  have HZ := hidI hz
  clear h hz
  go_enter Try.func3, Try.ntmps3
  go_wp2_with fail
  refine (lent_sl _ _ _ _ l H.out hn HZ.out).mono ?_
  rintro e w1 ⟨g, cap, rfl, le1, hg1, f1, hm1⟩
  have hlt1 := le1.lt
  have LE := hidI le1
  clear le1
  go_wp2_with fail
  refine (tells_any _ _ _ _ l s (LE.out.sl H.out.len)).mono ?_
  rintro e w2 ⟨rfl, f2⟩
  go_wp2_with fail
  refine (get_any _ _ _ _ l s ((LE.out.kept f2 (by simp)).sl H.out.len)).mono ?_
  rintro e w3 ⟨v3, ok3, cell3, rfl, got3⟩
  obtain ⟨a3, n3, c3, rfl, hn3, o3, b3, f3⟩ := got3.spot
  clear got3
  go_wp2_with fail
  refine (get_any _ _ _ _ l s (((LE.out.kept f2 (by simp)).kept f3 (by simp)).sl H.out.len)).mono ?_
  rintro e w4 ⟨v4, ok4, cell4, rfl, got4⟩
  obtain ⟨a4, n4, c4, rfl, hn4, o4, b4, f4⟩ := got4.spot
  clear got4
  have le4 := (LE.out.kept f2 (by simp)).kept (f3.trans f4) (by simp)
  have f04 : Fr [] w w4 := f1.trans (f2.trans (f3.trans f4))
  have O3 : Hid (∃ xs : List Value, xs.length = n3 ∧ w4.ownsRow 0 5 1 (.slice a3 n3 c3) n3 xs) := by obtain ⟨xs, h1, h2⟩ := o3; exact ⟨xs, h1, own0_kept h2 f4⟩
  have O4 := hidI o4
  have B3 := hidI b3
  have B4 := hidI b4
  have LE4 := hidI le4
  have F04 := hidI f04
  have s2 := f2.size
  have s3 := f3.size
  have s4 := f4.size
  clear o3 o4 b3 b4 le4 f04 LE f2 f3 f4
  go_wp2_with fail
  refine (kept_any _ g cap n c ad l H.out.len hn LE4.out (H.out.bytes.kept F04.out (by simp))).mono ?_
  rintro e w5 ⟨rfl, f5⟩
  have s5 := f5.size
  go_wp2_with fail
  refine (three_apart (B1 := w1.heap.size - 1 - (w1.heap.size - 1 - g)) (B2 := w2.heap.size) (B3 := w3.heap.size) (B4 := w4.heap.size) (by omega) (by omega) (by omega) (by obtain ⟨xs, h1, h2⟩ := O3.out; exact ⟨xs, h1, own0_kept h2 f5⟩) (by obtain ⟨xs, h1, h2⟩ := O4.out; exact ⟨xs, h1, own0_kept h2 f5⟩) ⟨_, by rw [← H.out.len]; simp [arr], (LE4.out.kept f5 (by simp)).own H.out.len hm1⟩ B3.out B4.out (fun g' hg' => ?_) (by omega) (by omega)).mono ?_
  · have : g = g' := by simpa [Value.ownBlock] using hg'
    omega
  rintro e w6 ⟨rfl, G, hG, f6⟩
  go_wp2_with fail
  refine (awake_any _).mono ?_
  rintro e w7 ⟨rfl, f7⟩
  go_wp2_with fail
  go_ret
  refine ⟨rfl, (((F04.out.trans f5).alloc _).then f6 (fun i hi hm => ?_)).trans f7⟩
  have := hG i hm
  omega

theorem pageTells_law (w : World) (ad : Option Addr) (n c : Nat) (l : List UInt8) (h : SlAt w ad n c l) (hs : n < 9223372036854775808) (hz : ad = none → c = 0) (s : Int) (_hw : (Lit.int .i64 s).wf = true) :
    Calls Try.prog 3 #[.slice ad n c, .int .i64 s] w fun e w' => e = .returned (.bool true) ∧ Fr [] w w' := by
  by_cases hn : n ≤ 5000
  · exact tells_short w ad n c l s h hn hz
  · exact tells_long w ad n c s (by omega) hs
end Go.Proofs.Ytlfpoeimgoikkaa
